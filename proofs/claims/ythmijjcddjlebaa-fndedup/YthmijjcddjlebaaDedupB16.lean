/-
  The number of a chunk in the book, by the program, call by call. It says what it asks. A region that draws its order, in a round of a range over a function, by what holds of it outside of all loops: the road to the laws of held regions. No program.
-/
import Derived.Test.YthmijjcddjlebaaDedupB8
import Derived.Test.YthmijjcddjlebaaDedupB7
import Derived.Test.YthmijjcddjlebaaDedupB11
import Derived.Test.YthmijjcddjlebaaDedupB10
import Derived.Deep.RegionHeld3
namespace Go.Proofs.Ythmijjcddjlebaa
open Go.RowKit Go.Shelf
set_option linter.unusedVariables false
attribute [local go_sem] Oper.semAt_some

theorem zeroI (w : World) : (zeroValue 3).run Try.prog w = .ok (.int .i64 0) w := Try.zeroValue3 w
/-- The book in block B, its map in block M, its row base or later. -/
structure Book (w : World) (B M base n : Nat) (v : Value) (C : List ByteArray) (D : DataW Unit) : Prop where
  box : Boxed2 w B 86 v (.map (some M))
  row : w.ownsRow base 9 1 v C.length (C.map Value.string)
  map : w.ownsMap Try.prog 9 (plainElem (H := Unit) Try.prog 3) M n D
  says : BookD C D
  apart : ∀ g, v.ownBlock = some g → g ≠ B

set_option maxRecDepth 100000 in
set_option maxHeartbeats 2000000 in
theorem numberOf9_calls (B M base n : Nat) (v : Value) (C : List ByteArray) (D : DataW Unit) (t : ByteArray) (w : World) (hb : Book w B M base n v C D) (hn : n ≤ 100000) (hC : C.length ≤ 100000) (ht : t.size ≤ 1048576) (hbs : base ≤ w.heap.size) (hbb : base ≤ B) :
    Calls Try.prog 64 #[.pointer (some ⟨B, 0, none⟩), .string t] w fun e w' => e = .returned (.int .i64 (ix9 C t : Nat)) ∧
      ∃ v' D', Book w' B M base (n + 1) v' (add9 C t) D' ∧ (v'.ownBlock = v.ownBlock ∨ ∃ g, v'.ownBlock = some g ∧ w.heap.size ≤ g) ∧ Touch (fun k => k = B ∨ k = M ∨ v.ownBlock = some k) w w' := by
  have mix : Try.prog.follows .mixedOrders = true := by kernel_rfl
  have hkey : keyOf Try.prog 9 (.string t) = some (klit t) := WideMaps.keyOf_string_mk Try.underlying9 (by unfold maxLen; omega)
  obtain ⟨lv, ps, hlook, hlv⟩ := hb.map.look_ok (Maps.string_keyed Try.underlying9) Try.underlying84 (zeroI w) (plainElem_int Try.underlying3 (by decide)) hkey
  obtain ⟨c, rfl, hc, _⟩ := plainElem_int_inv Try.underlying3 hlv
  have hat : D.atKey (klit t) (.lit (.int .i64 0)) = .lit (.int .i64 c) := congrArg Prod.fst hc
  have HB := hide hb
  have b0 := hb.box.c0
  have b1 := hb.box.c1
  have f0 := hb.box.f0 0
  obtain ⟨nn, _⟩ : ∃ n : Nat, True := ⟨0, trivial⟩
  by_cases hin : t ∈ C
  · have hh : Maps.has D (klit t) = true := (hb.says.has t).2 hin
    have hcx : c = (ix9 C t : Nat) := by
      have := hb.says.at_ t hin (.lit (.int .i64 0))
      rw [hat] at this
      simpa using this
    rw [hh] at hlook
    rw [add9_old hin]
    subst hcx
    clear hc hat hlv hb
    generalize ix9 C t = q at hlook ⊢
    have RES : Hid (∃ v' D', Book w B M base (n + 1) v' C D' ∧ (v'.ownBlock = v.ownBlock ∨ ∃ g, v'.ownBlock = some g ∧ w.heap.size ≤ g) ∧ Touch (fun k => k = B ∨ k = M ∨ v.ownBlock = some k) w w) :=
      ⟨v, D, ⟨HB.out.box, HB.out.row, HB.out.map.mono (by omega), HB.out.says, HB.out.apart⟩, .inl rfl, Touch.refl _ _⟩
    refine (callsIn_wide (n := nn)).1 (callsIn_of_wp Try.func64 rfl trivial ?_ rfl)
    simp only [Try.ntmps64, List.size_toArray, List.length_cons, List.length_nil, Nat.reduceAdd, Nat.reduceSub, Array.replicate_succ, Array.replicate_zero, List.push_toArray, List.append_toArray, List.nil_append, List.cons_append]
    gi_wp2
    go_ret
    exact ⟨rfl, RES.out⟩
  have hh : Maps.has D (klit t) = false := by
    cases e : Maps.has D (klit t)
    · rfl
    · exact absurd ((hb.says.has t).1 e) hin
  rw [hh] at hlook
  rw [add9_new hin, ix9_new hin]
  obtain ⟨a, cap, rfl⟩ : ∃ a cap, v = .slice a C.length cap := by
    rcases hb.row.2 with ⟨rfl, h0⟩ | ⟨g, cap, cur, rfl, _⟩
    · exact ⟨none, 0, by rw [h0]⟩
    · exact ⟨_, cap, rfl⟩
  obtain ⟨i0, hi0, hz0, hz1, hz2⟩ := info_parts infoStr
  have IP := hide (And.intro hi0 (And.intro hz0 (And.intro hz1 hz2)))
  have HIN := hide hin
  clear hi0 hz0 hz1 hz2 hc hat hlv hb hin hkey
  refine (callsIn_wide (n := nn)).1 (callsIn_of_wp Try.func64 rfl trivial ?_ rfl)
  simp only [Try.ntmps64, List.size_toArray, List.length_cons, List.length_nil, Nat.reduceAdd, Nat.reduceSub, Array.replicate_succ, Array.replicate_zero, List.push_toArray, List.append_toArray, List.nil_append, List.cons_append]
  have BL : Hid (B < w.drew.heap.size) := (Array.getElem?_eq_some_iff.1 HB.out.box).1
  have hbd : w.drew.cell? ⟨B, 0, none⟩ = some (.slice a C.length cap) := b0
  have MB : Hid (M ≠ B ∧ ∀ g, (Value.slice a C.length cap).ownBlock = some g → g ≠ M) := by
    obtain ⟨es, ck, hM, _⟩ := HB.out.map
    refine ⟨fun e => ?_, fun g hg e => ?_⟩
    · rw [e, show w.heap[B]? = _ from HB.out.box] at hM; cases hM
    · subst e
      rcases HB.out.row.2 with ⟨h', _⟩ | ⟨g', cap', cur, h', _, hgb, _⟩
      · rw [h'] at hg; simp [Value.ownBlock] at hg
      · rw [h'] at hg
        obtain rfl : g' = g := by simpa [Value.ownBlock] using hg
        rw [hM] at hgb; cases hgb
  have AP : Hid (∀ w1, Below w.drew.heap.size w.drew w1 → ∃ v' w2, (Builtin.append_ #[23, 23] 23 #[.slice a C.length cap, .slice (some ⟨w1.heap.size, 0, none⟩) 1 1]).run Try.prog (w1.alloc (.cells #[.string t] 9)) = .ok v' w2 ∧ w2.cell? ⟨B, 0, none⟩ = some (.slice a C.length cap) ∧ w2.frozen? ⟨B, 0, none⟩ = false ∧
      ∃ g' cap', v' = .slice (some ⟨g', 0, none⟩) (C.length + 1) cap' ∧ (Boxed2 (w2.setCell ⟨B, 0, none⟩ v') B 86 v' (.map (some M)) ∧ (w2.setCell ⟨B, 0, none⟩ v').ownsRow base 9 1 v' (C ++ [t]).length ((C ++ [t]).map Value.string) ∧
        (w2.setCell ⟨B, 0, none⟩ v').ownsMap Try.prog 9 (plainElem (H := Unit) Try.prog 3) M n D ∧ (some g' = (Value.slice a C.length cap).ownBlock ∨ w.heap.size ≤ g') ∧ g' ≠ B ∧ Touch (fun k => k = B ∨ k = M ∨ (Value.slice a C.length cap).ownBlock = some k) w (w2.setCell ⟨B, 0, none⟩ v'))) := by
    intro w1 bb
    have hs1 : w.heap.size ≤ w1.heap.size := bb.size
    have hBl : B < w.heap.size := BL.out
    have x1 : Boxed2 w1 B 86 (.slice a C.length cap) (.map (some M)) := boxed2_below (show Boxed2 w.drew B _ _ _ from HB.out.box) bb
    have o0 : w1.ownsRow base 9 1 (.slice a C.length cap) C.length (C.map Value.string) := ownsRow_spar (lo := 0) (c0 := 0) (c1 := 0) (show w.drew.ownsRow _ _ _ _ _ _ from HB.out.row) (.of_below bb) (fun g _ => .inr (.inr (Nat.zero_le _)))
    obtain ⟨v', w2, hrun, o1, g1, _, a1⟩ := run_append_own_at (P := Try.prog) (w1.alloc (.cells #[.string t] 9)) base 23 23 9 i0 (.string ⟨#[]⟩) 1 16 Try.underlying23 IP.out.1 IP.out.2.1 IP.out.2.2.1 IP.out.2.2.2 rfl (by decide) _ C.length _ (o0.alloc _) ⟨w1.heap.size, 0, none⟩ 1 1 [.string t] rfl (cell_one_new _ _ _) (by simp [Value.oneCell']) (by unfold maxLen; omega) (by omega) (by simp; omega)
    rw [World.size_alloc] at a1
    obtain ⟨g', cap', rfl⟩ := ownsRow_succ o1
    have hgB : g' ≠ B := by
      rcases a1 with h | h
      · exact HB.out.apart g' (by rw [← h]; rfl)
      · have : g' = w1.heap.size + 1 := by simpa [Value.ownBlock] using h
        omega
    have hneB : some B ≠ (Value.slice a C.length cap).ownBlock := fun e => HB.out.apart B e.symm rfl
    have x2 : Boxed2 w2 B 86 (.slice a C.length cap) (.map (some M)) := (g1.block B (by simp; omega) hneB).trans (boxed2_alloc x1 _)
    have m1 : w1.ownsMap Try.prog 9 (plainElem (H := Unit) Try.prog 3) M n D := by
      obtain ⟨es, ck, hM, rest⟩ := HB.out.map
      exact ⟨es, ck, (bb.block M (Array.getElem?_eq_some_iff.1 hM).1).trans hM, rest⟩
    have m2 : w2.ownsMap Try.prog 9 (plainElem (H := Unit) Try.prog 3) M n D := by
      obtain ⟨es, ck, hM, rest⟩ := m1
      have hl := (Array.getElem?_eq_some_iff.1 hM).1
      exact ⟨es, ck, (g1.block M (by simp; omega) (fun e => MB.out.2 M e.symm rfl)).trans ((Below.heap_alloc w1 _ M hl).trans hM), rest⟩
    refine ⟨_, w2, hrun, x2.c0, x2.f0 0, g', cap', rfl, boxed2_set0 x2 _, ?_, ?_, ?_, hgB, ?_⟩
    · rw [List.length_append, List.map_append]
      exact o1.kept (grownBy_setCell' w2 B _) (.inr (fun e => hgB (by simpa [Value.ownBlock] using e)))
    · obtain ⟨es, ck, hM, rest⟩ := m2
      exact ⟨es, ck, (Below.heap_setCell w2 ⟨B, 0, none⟩ _ M MB.out.1).trans hM, rest⟩
    · rcases a1 with h | h
      · exact .inl h
      · have : g' = w1.heap.size + 1 := by simpa [Value.ownBlock] using h
        exact .inr (by omega)
    · exact (((Touch.of_below (Below.refl w.heap.size w).drew).trans (Touch.of_below bb)).trans ((Touch.of_below ((Below.refl _ w1).alloc (Nat.le_refl _) _)).trans (Touch.grown g1 (fun k e => .inr (.inr e))))).trans (Touch.setCell w2 B 0 _ (.inl rfl))
  gi_wp2
  refine wpIn_mono (Q := fun e ac W' => e = .normal ∧ ∃ g' cap' x30, ac = { tmps := #[.pointer (some ⟨B, 0, none⟩), .string t, undef, undef, .int .i64 0, .int .i64 C.length, .bool false, .tuple #[.int .i64 c, .bool false], .pointer (some ⟨B, 0, none⟩), .pointer (some ⟨B, 0, none⟩), .pointer (some ⟨B, 1, none⟩), .map (some M), .string t, .tuple #[.int .i64 c, .bool false], .int .i64 c, .bool false, .bool false, .bool true, .pointer (some ⟨B, 0, none⟩), .pointer (some ⟨B, 0, none⟩), .pointer (some ⟨B, 0, none⟩), .slice a C.length cap, .int .i64 C.length, .pointer (some ⟨B, 0, none⟩), .pointer (some ⟨B, 0, none⟩), .pointer (some ⟨B, 0, none⟩), .pointer (some ⟨B, 0, none⟩), .slice a C.length cap, .string t, .string t, x30, .slice (some ⟨g', 0, none⟩) (C.length + 1) cap', .pointer (some ⟨B, 0, none⟩), .pointer (some ⟨B, 0, none⟩), undef, undef, undef, undef, undef, undef, undef, undef, undef, undef, undef, undef, undef], defers := [] } ∧ Boxed2 W' B 86 (.slice (some ⟨g', 0, none⟩) (C.length + 1) cap') (.map (some M)) ∧ W'.ownsRow base 9 1 (.slice (some ⟨g', 0, none⟩) (C.length + 1) cap') (C ++ [t]).length ((C ++ [t]).map Value.string) ∧
        W'.ownsMap Try.prog 9 (plainElem (H := Unit) Try.prog 3) M n D ∧ (some g' = (Value.slice a C.length cap).ownBlock ∨ w.heap.size ≤ g') ∧ g' ≠ B ∧ Touch (fun k => k = B ∨ k = M ∨ (Value.slice a C.length cap).ownBlock = some k) w W') ?region ?_
  case region =>
    have HBl := BL.out
    clear HB hlook IP MB BL b0 b1 f0
    refine wpIn_region_any mix ?_
    change wpAnyIn _ _ _ _ _ _ _ _ _ (World.drew _)
    refine wpAnyIn_take (i := 0) (v := _) rfl rfl (by kernel_rfl) (by kernel_rfl) (by kernel_rfl) (fun _ _ _ h => Exit.noConfusion h.1) ⟨Or.inl ⟨by rfl, by intro w; go_simp; try with_reducible rfl⟩, fun _ => rfl⟩ ?_
    refine wpAnyIn_take (i := 1) (v := _) rfl rfl (by kernel_rfl) (by kernel_rfl) (by kernel_rfl) (fun _ _ _ h => Exit.noConfusion h.1) ⟨Or.inl ⟨by rfl, by intro w; go_simp; try with_reducible rfl⟩, fun _ => rfl⟩ ?_
    refine wpAnyIn_take (i := 2) (v := _) rfl rfl (by kernel_rfl) (by kernel_rfl) (by kernel_rfl) (fun _ _ _ h => Exit.noConfusion h.1) ⟨Or.inl ⟨by rfl, by intro w; go_simp; try with_reducible rfl⟩, fun _ => rfl⟩ ?_
    refine wpAnyIn_take (i := 3) (v := _) rfl rfl (by kernel_rfl) (by kernel_rfl) (by kernel_rfl) (fun _ _ _ h => Exit.noConfusion h.1) ⟨Or.inl ⟨by rfl, by intro w; go_simp; try with_reducible rfl⟩, fun _ => rfl⟩ ?_
    refine wpAnyIn_take (i := 5) (v := _) rfl rfl (by kernel_rfl) (by kernel_rfl) (by kernel_rfl) (fun _ _ _ h => Exit.noConfusion h.1) ⟨Or.inl ⟨by rfl, by intro w; go_simp; try with_reducible rfl⟩, fun _ => rfl⟩ ?_
    refine wpAnyIn_ready (rs := [4, 6]) (by kernel_rfl) (by simp) ?_
    refine AllReadyIn.cons rfl (fun K hK => ?_) ?_
    · go_simp
      refine hK _ _ ?_
      clear hK K
      refine wpAnyIn_ready (rs := [6]) (by kernel_rfl) (by simp) ?_
      refine AllReadyIn.cons rfl (fun K hK => ?_) ?_
      · go_simp
        refine wide_call (clone9_calls t _ ht) ?_
        rintro e w1 ⟨rfl, bb⟩
        have hs1 := bb.size
        have hc1 : w1.cell? ⟨B, 0, none⟩ = some (.slice a C.length cap) := (bb.cell (p := ⟨B, 0, none⟩) HBl).trans hbd
        refine hK _ _ ?_
        clear hK K
        refine wpAnyIn_ready (rs := [7]) (by kernel_rfl) (by simp) ?_
        refine AllReadyIn.cons rfl (fun K hK => ?_) ?_
        · go_simp
          have hc2 : (w1.alloc (.cells #[.string t] 9)).cell? ⟨B, 0, none⟩ = some (.slice a C.length cap) := ((Below.refl w1.heap.size w1).alloc (Nat.le_refl _) (.cells #[.string t] 9)).cell (p := ⟨B, 0, none⟩) (Nat.lt_of_lt_of_le HBl hs1) |>.trans hc1
          refine hK _ _ ?_
          clear hK K
          refine wpAnyIn_ready (rs := [8]) (by kernel_rfl) (by simp) ?_
          refine AllReadyIn.cons rfl (fun K hK => ?_) ?_
          · obtain ⟨v', w2, hrun, k0, k1, g', cap', rfl, rest⟩ := AP.out w1 bb
            rw [if_pos (by rfl)]
            refine wpIn_append_eq rfl rfl rfl hrun (hK _ _ ?_)
            clear hK K hrun
            refine wpAnyIn_take (i := 9) (v := _) rfl rfl (by kernel_rfl) (by kernel_rfl) (by kernel_rfl) (fun _ _ _ h => Exit.noConfusion h.1) ⟨Or.inl ⟨by rfl, by intro w; go_simp; try with_reducible rfl⟩, fun _ => rfl⟩ ?_
            refine wpAnyIn_take (i := 10) (v := _) rfl rfl (by kernel_rfl) (by kernel_rfl) (by kernel_rfl) (fun _ _ _ h => Exit.noConfusion h.1) ⟨Or.inl ⟨by rfl, by intro w; go_simp; try with_reducible rfl⟩, fun _ => rfl⟩ ?_
            refine wpAnyIn_ready (rs := [11]) (by kernel_rfl) (by simp) ?_
            refine AllReadyIn.cons rfl (fun K hK => ?_) ?_
            · go_simp
              refine hK _ _ ?_
              clear hK K
              refine wpAnyIn_done (by kernel_rfl) ?_ _
              exact ⟨rfl, g', cap', _, rfl, rest⟩
            exact AllReadyIn.nil
          exact AllReadyIn.nil
        exact AllReadyIn.nil
      exact AllReadyIn.nil
    refine AllReadyIn.cons rfl (fun K hK => ?_) ?_
    · go_simp
      refine wide_call (clone9_calls t _ ht) ?_
      rintro e w1 ⟨rfl, bb⟩
      have hs1 := bb.size
      have hc1 : w1.cell? ⟨B, 0, none⟩ = some (.slice a C.length cap) := (bb.cell (p := ⟨B, 0, none⟩) HBl).trans hbd
      refine hK _ _ ?_
      clear hK K
      refine wpAnyIn_ready (rs := [4, 7]) (by kernel_rfl) (by simp) ?_
      refine AllReadyIn.cons rfl (fun K hK => ?_) ?_
      · go_simp
        refine hK _ _ ?_
        clear hK K
        refine wpAnyIn_ready (rs := [7]) (by kernel_rfl) (by simp) ?_
        refine AllReadyIn.cons rfl (fun K hK => ?_) ?_
        · go_simp
          have hc2 : (w1.alloc (.cells #[.string t] 9)).cell? ⟨B, 0, none⟩ = some (.slice a C.length cap) := ((Below.refl w1.heap.size w1).alloc (Nat.le_refl _) (.cells #[.string t] 9)).cell (p := ⟨B, 0, none⟩) (Nat.lt_of_lt_of_le HBl hs1) |>.trans hc1
          refine hK _ _ ?_
          clear hK K
          refine wpAnyIn_ready (rs := [8]) (by kernel_rfl) (by simp) ?_
          refine AllReadyIn.cons rfl (fun K hK => ?_) ?_
          · obtain ⟨v', w2, hrun, k0, k1, g', cap', rfl, rest⟩ := AP.out w1 bb
            rw [if_pos (by rfl)]
            refine wpIn_append_eq rfl rfl rfl hrun (hK _ _ ?_)
            clear hK K hrun
            refine wpAnyIn_take (i := 9) (v := _) rfl rfl (by kernel_rfl) (by kernel_rfl) (by kernel_rfl) (fun _ _ _ h => Exit.noConfusion h.1) ⟨Or.inl ⟨by rfl, by intro w; go_simp; try with_reducible rfl⟩, fun _ => rfl⟩ ?_
            refine wpAnyIn_take (i := 10) (v := _) rfl rfl (by kernel_rfl) (by kernel_rfl) (by kernel_rfl) (fun _ _ _ h => Exit.noConfusion h.1) ⟨Or.inl ⟨by rfl, by intro w; go_simp; try with_reducible rfl⟩, fun _ => rfl⟩ ?_
            refine wpAnyIn_ready (rs := [11]) (by kernel_rfl) (by simp) ?_
            refine AllReadyIn.cons rfl (fun K hK => ?_) ?_
            · go_simp
              refine hK _ _ ?_
              clear hK K
              refine wpAnyIn_done (by kernel_rfl) ?_ _
              exact ⟨rfl, g', cap', _, rfl, rest⟩
            exact AllReadyIn.nil
          exact AllReadyIn.nil
        exact AllReadyIn.nil
      refine AllReadyIn.cons rfl (fun K hK => ?_) ?_
      · go_simp
        have hc2 : (w1.alloc (.cells #[.string t] 9)).cell? ⟨B, 0, none⟩ = some (.slice a C.length cap) := ((Below.refl w1.heap.size w1).alloc (Nat.le_refl _) (.cells #[.string t] 9)).cell (p := ⟨B, 0, none⟩) (Nat.lt_of_lt_of_le HBl hs1) |>.trans hc1
        refine hK _ _ ?_
        clear hK K
        refine wpAnyIn_ready (rs := [4]) (by kernel_rfl) (by simp) ?_
        refine AllReadyIn.cons rfl (fun K hK => ?_) ?_
        · go_simp
          refine hK _ _ ?_
          clear hK K
          refine wpAnyIn_ready (rs := [8]) (by kernel_rfl) (by simp) ?_
          refine AllReadyIn.cons rfl (fun K hK => ?_) ?_
          · obtain ⟨v', w2, hrun, k0, k1, g', cap', rfl, rest⟩ := AP.out w1 bb
            rw [if_pos (by rfl)]
            refine wpIn_append_eq rfl rfl rfl hrun (hK _ _ ?_)
            clear hK K hrun
            refine wpAnyIn_take (i := 9) (v := _) rfl rfl (by kernel_rfl) (by kernel_rfl) (by kernel_rfl) (fun _ _ _ h => Exit.noConfusion h.1) ⟨Or.inl ⟨by rfl, by intro w; go_simp; try with_reducible rfl⟩, fun _ => rfl⟩ ?_
            refine wpAnyIn_take (i := 10) (v := _) rfl rfl (by kernel_rfl) (by kernel_rfl) (by kernel_rfl) (fun _ _ _ h => Exit.noConfusion h.1) ⟨Or.inl ⟨by rfl, by intro w; go_simp; try with_reducible rfl⟩, fun _ => rfl⟩ ?_
            refine wpAnyIn_ready (rs := [11]) (by kernel_rfl) (by simp) ?_
            refine AllReadyIn.cons rfl (fun K hK => ?_) ?_
            · go_simp
              refine hK _ _ ?_
              clear hK K
              refine wpAnyIn_done (by kernel_rfl) ?_ _
              exact ⟨rfl, g', cap', _, rfl, rest⟩
            exact AllReadyIn.nil
          exact AllReadyIn.nil
        exact AllReadyIn.nil
      exact AllReadyIn.nil
    exact AllReadyIn.nil

  rintro e ac W4 ⟨rfl, g', cap', x30, rfl, q1, q2, q3, q4, q5, q6⟩
  have hkey : keyOf Try.prog 9 (.string t) = some (klit t) := WideMaps.keyOf_string_mk Try.underlying9 (by unfold maxLen; omega)
  have q3d : W4.drew.ownsMap Try.prog 9 (plainElem (H := Unit) Try.prog 3) M n D := q3
  obtain ⟨w5, hrun5, m5, g5⟩ := q3d.update (Maps.string_keyed Try.underlying9) Try.underlying84 (by unfold maxLen; omega) (key := .string t) (val := .int .i64 (C.length : Nat)) hkey (plainElem_int Try.underlying3 (by simp [Lit.wf, IntKind.min, IntKind.max, IntKind.signed, IntKind.bits]; omega))
  have d0 := q1.c0
  have d1 := q1.c1
  have d2 : W4.cell? ⟨g', C.length, none⟩ = some (.string t) := by
    have hl : (C ++ [t]).length = C.length + 1 := by simp
    have q2' := q2
    rw [hl] at q2'
    rw [q2'.cellAt C.length (by omega)]
    simp
  have RES : Hid (∃ v' D', Book w5 B M base (n + 1) v' (C ++ [t]) D' ∧ (v'.ownBlock = (Value.slice a C.length cap).ownBlock ∨ ∃ g, v'.ownBlock = some g ∧ w.heap.size ≤ g) ∧ Touch (fun k => k = B ∨ k = M ∨ (Value.slice a C.length cap).ownBlock = some k) w w5) := by
    have hMB : M ≠ B := MB.out.1
    have hgM : g' ≠ M := by
      intro e
      subst e
      obtain ⟨es, ck, hM, _⟩ := q3
      rcases q2.2 with ⟨h', _⟩ | ⟨g2, cap2, cur, h', _, hgb, _⟩
      · simp at h'
      · obtain rfl : g2 = g' := by simp at h'; exact h'.1.symm
        rw [hM] at hgb; cases hgb
    refine ⟨.slice (some ⟨g', 0, none⟩) (C.length + 1) cap', _, ⟨?_, ?_, m5, HB.out.says.snoc HIN.out, fun g hg => ?_⟩, ?_, ?_⟩
    · exact (g5.block B (Array.getElem?_eq_some_iff.1 q1).1 (fun e => hMB (by cases e; rfl))).trans q1
    · exact World.ownsRow.kept (show W4.drew.ownsRow _ _ _ _ _ _ from q2) g5 (.inr (fun e => hgM (by simpa [Value.ownBlock] using e)))
    · obtain rfl : g' = g := by simpa [Value.ownBlock] using hg
      exact q5
    · rcases q4 with h | h
      · exact .inl h
      · exact .inr ⟨g', rfl, h⟩
    · exact q6.trans ((Touch.of_below (Below.refl W4.heap.size W4).drew).trans (Touch.grown g5 (fun k e => .inr (.inl (by cases e; rfl)))))
  have u1 : (0 : Int) ≤ (C.length : Int) := by omega
  have u2 : (C.length : Int) < ((C.length + 1 : Nat) : Int) := by omega
  have u3 : (C.length : Int) < (C.length : Int) + 1 := by omega
  clear q1 q2 q3 q3d q4 q5 q6 m5 g5 AP HB hlook IP MB BL b0 b1 f0 hbd hkey
  gi_wp2
  refine wpIn_mono (Q := fun e ac W' => e = .normal ∧ ac = { tmps := #[.pointer (some ⟨B, 0, none⟩), .string t, undef, undef, .int .i64 0, .int .i64 C.length, .bool false, .tuple #[.int .i64 c, .bool false], .pointer (some ⟨B, 0, none⟩), .pointer (some ⟨B, 0, none⟩), .pointer (some ⟨B, 1, none⟩), .map (some M), .string t, .tuple #[.int .i64 c, .bool false], .int .i64 c, .bool false, .bool false, .bool true, .pointer (some ⟨B, 0, none⟩), .pointer (some ⟨B, 0, none⟩), .pointer (some ⟨B, 0, none⟩), .slice a C.length cap, .int .i64 C.length, .pointer (some ⟨B, 0, none⟩), .pointer (some ⟨B, 0, none⟩), .pointer (some ⟨B, 0, none⟩), .pointer (some ⟨B, 0, none⟩), .slice a C.length cap, .string t, .string t, x30, .slice (some ⟨g', 0, none⟩) (C.length + 1) cap', .pointer (some ⟨B, 0, none⟩), .pointer (some ⟨B, 0, none⟩), .pointer (some ⟨B, 0, none⟩), .pointer (some ⟨B, 0, none⟩), .pointer (some ⟨B, 1, none⟩), .map (some M), .pointer (some ⟨B, 0, none⟩), .pointer (some ⟨B, 0, none⟩), .pointer (some ⟨B, 0, none⟩), .slice (some ⟨g', 0, none⟩) (C.length + 1) cap', .int .i64 C.length, .pointer (some ⟨g', C.length, none⟩), .string t, .int .i64 C.length, undef], defers := [] } ∧ W' = w5) ?region5 ?_
  case region5 =>
    refine wpIn_region_any mix ?_
    change wpAnyIn _ _ _ _ _ _ _ _ _ (World.drew _)
    refine wpAnyIn_take (i := 0) (v := _) rfl rfl (by kernel_rfl) (by kernel_rfl) (by kernel_rfl) (fun _ _ _ h => Exit.noConfusion h.1) ⟨Or.inl ⟨by rfl, by intro w; go_simp; try with_reducible rfl⟩, fun _ => rfl⟩ ?_
    refine wpAnyIn_take (i := 1) (v := _) rfl rfl (by kernel_rfl) (by kernel_rfl) (by kernel_rfl) (fun _ _ _ h => Exit.noConfusion h.1) ⟨Or.inl ⟨by rfl, by intro w; go_simp; try with_reducible rfl⟩, fun _ => rfl⟩ ?_
    refine wpAnyIn_take (i := 2) (v := _) rfl rfl (by kernel_rfl) (by kernel_rfl) (by kernel_rfl) (fun _ _ _ h => Exit.noConfusion h.1) ⟨Or.inl ⟨by rfl, by intro w; go_simp; try with_reducible rfl⟩, fun _ => rfl⟩ ?_
    refine wpAnyIn_take (i := 4) (v := _) rfl rfl (by kernel_rfl) (by kernel_rfl) (by kernel_rfl) (fun _ _ _ h => Exit.noConfusion h.1) ⟨Or.inl ⟨by rfl, by intro w; go_simp; try with_reducible rfl⟩, fun _ => rfl⟩ ?_
    refine wpAnyIn_take (i := 5) (v := _) rfl rfl (by kernel_rfl) (by kernel_rfl) (by kernel_rfl) (fun _ _ _ h => Exit.noConfusion h.1) ⟨Or.inl ⟨by rfl, by intro w; go_simp; try with_reducible rfl⟩, fun _ => rfl⟩ ?_
    refine wpAnyIn_take (i := 6) (v := _) rfl rfl (by kernel_rfl) (by kernel_rfl) (by kernel_rfl) (fun _ _ _ h => Exit.noConfusion h.1) ⟨Or.inl ⟨by rfl, by intro w; go_simp; try with_reducible rfl⟩, fun _ => rfl⟩ ?_
    refine wpAnyIn_take (i := 8) (v := _) rfl rfl (by kernel_rfl) (by kernel_rfl) (by kernel_rfl) (fun _ _ _ h => Exit.noConfusion h.1) ⟨Or.inl ⟨by rfl, by intro w; go_simp; try with_reducible rfl⟩, fun _ => rfl⟩ ?_
    refine wpAnyIn_take (i := 11) (v := _) rfl rfl (by kernel_rfl) (by kernel_rfl) (by kernel_rfl) (fun _ _ _ h => Exit.noConfusion h.1) ⟨Or.inl ⟨by rfl, by intro w; go_simp; try with_reducible rfl⟩, fun _ => rfl⟩ ?_
    refine wpAnyIn_ready (rs := [3, 7]) (by kernel_rfl) (by simp) ?_
    refine AllReadyIn.cons rfl (fun K hK => ?_) ?_
    · go_simp
      refine hK _ _ ?_
      clear hK K
      refine wpAnyIn_ready (rs := [7]) (by kernel_rfl) (by simp) ?_
      refine AllReadyIn.cons rfl (fun K hK => ?_) ?_
      · go_simp
        refine hK _ _ ?_
        clear hK K
        refine wpAnyIn_take (i := 9) (v := _) rfl rfl (by kernel_rfl) (by kernel_rfl) (by kernel_rfl) (fun _ _ _ h => Exit.noConfusion h.1) ⟨Or.inl ⟨by rfl, by intro w; go_simp; try with_reducible rfl⟩, fun _ => rfl⟩ ?_
        refine wpAnyIn_ready (rs := [10]) (by kernel_rfl) (by simp) ?_
        refine AllReadyIn.cons rfl (fun K hK => ?_) ?_
        · go_simp
          refine hK _ _ ?_
          clear hK K
          refine wpAnyIn_ready (rs := [12]) (by kernel_rfl) (by simp) ?_
          refine AllReadyIn.cons rfl (fun K hK => ?_) ?_
          · rw [if_pos (by rfl)]
            refine wpIn_mapUpdate_eq rfl rfl rfl rfl hrun5 (hK _ _ ?_)
            clear hK K
            refine wpAnyIn_done (by kernel_rfl) ?_ _
            exact ⟨rfl, rfl, rfl⟩
          exact AllReadyIn.nil
        exact AllReadyIn.nil
      exact AllReadyIn.nil
    refine AllReadyIn.cons rfl (fun K hK => ?_) ?_
    · go_simp
      refine hK _ _ ?_
      clear hK K
      refine wpAnyIn_take (i := 9) (v := _) rfl rfl (by kernel_rfl) (by kernel_rfl) (by kernel_rfl) (fun _ _ _ h => Exit.noConfusion h.1) ⟨Or.inl ⟨by rfl, by intro w; go_simp; try with_reducible rfl⟩, fun _ => rfl⟩ ?_
      refine wpAnyIn_ready (rs := [3, 10]) (by kernel_rfl) (by simp) ?_
      refine AllReadyIn.cons rfl (fun K hK => ?_) ?_
      · go_simp
        refine hK _ _ ?_
        clear hK K
        refine wpAnyIn_ready (rs := [10]) (by kernel_rfl) (by simp) ?_
        refine AllReadyIn.cons rfl (fun K hK => ?_) ?_
        · go_simp
          refine hK _ _ ?_
          clear hK K
          refine wpAnyIn_ready (rs := [12]) (by kernel_rfl) (by simp) ?_
          refine AllReadyIn.cons rfl (fun K hK => ?_) ?_
          · rw [if_pos (by rfl)]
            refine wpIn_mapUpdate_eq rfl rfl rfl rfl hrun5 (hK _ _ ?_)
            clear hK K
            refine wpAnyIn_done (by kernel_rfl) ?_ _
            exact ⟨rfl, rfl, rfl⟩
          exact AllReadyIn.nil
        exact AllReadyIn.nil
      refine AllReadyIn.cons rfl (fun K hK => ?_) ?_
      · go_simp
        refine hK _ _ ?_
        clear hK K
        refine wpAnyIn_ready (rs := [3]) (by kernel_rfl) (by simp) ?_
        refine AllReadyIn.cons rfl (fun K hK => ?_) ?_
        · go_simp
          refine hK _ _ ?_
          clear hK K
          refine wpAnyIn_ready (rs := [12]) (by kernel_rfl) (by simp) ?_
          refine AllReadyIn.cons rfl (fun K hK => ?_) ?_
          · rw [if_pos (by rfl)]
            refine wpIn_mapUpdate_eq rfl rfl rfl rfl hrun5 (hK _ _ ?_)
            clear hK K
            refine wpAnyIn_done (by kernel_rfl) ?_ _
            exact ⟨rfl, rfl, rfl⟩
          exact AllReadyIn.nil
        exact AllReadyIn.nil
      exact AllReadyIn.nil
    exact AllReadyIn.nil

  rintro e ac W5 ⟨rfl, rfl, rfl⟩
  gi_wp2
  go_ret
  exact ⟨rfl, RES.out⟩
end Go.Proofs.Ythmijjcddjlebaa

namespace Go.Proofs.Ythmijjcddjlebaa
open Go.RowKit
set_option linter.unusedVariables false

theorem operIn_wide {n : Nat} {P : Program} {o : Oper} {a : Act} {w : World} {K : Act → World → Prop} {Q : Exit → Act → World → Prop} (h : o.wp P a w K Q) : o.wpIn Fence.wide n P a w K Q := by
  unfold Oper.wp at h
  refine ⟨fun _ _ => trivial, ?_⟩
  show o.uponIn Fence.wide n P a K Q ((execOp a.eval o).run P w)
  generalize (execOp a.eval o).run P w = r at h ⊢
  have hd : Fence.wide.depth.isSome = true → 1 ≤ n := fun h => by simp [Fence.wide] at h
  cases r with
  | ok nx w' =>
    cases nx with
    | value v => exact h
    | skip => exact h
    | defer d => exact h
    | enter f args => exact ⟨hd, callsIn_wide.2 h⟩
    | row row args => exact ⟨hd, fun c cs _ => let ⟨v, w', r, s⟩ := h c cs; ⟨v, w', r, stepsIn_wide.2 s⟩⟩
    | _ => exact h.elim
  | halt hl w' => cases hl <;> first | exact h | exact h.elim
/-- Operations that draw their order, where none lets the memory run out. -/
theorem wpAnyIn_plain {n : Nat} {P : Program} {md : Region.Mode} {ops : Array Oper} {Q : Exit → Act → World → Prop} (hL : ¬ LetsOut Q) :
    ∀ (fuel : Nat) (listed : Array Bool) (a : Act) (w : World), wpAny P md ops Q fuel listed a w → wpAnyIn Fence.wide n P md ops Q fuel listed a w := by
  intro fuel
  induction fuel with
  | zero => exact fun listed a w h => h
  | succ fuel ih =>
    intro listed a w h
    refine ⟨h.1, fun i hi => ?_⟩
    have hh := h.2 i hi
    unfold wpOp at hh
    unfold wpOpIn
    cases ho : ops[i]? with
    | none => rw [ho] at hh; exact ih _ _ _ hh
    | some o =>
      rw [ho] at hh
      simp only at hh ⊢
      split at hh
      · rename_i hw
        rw [if_pos hw]
        rcases hh with hh | hh
        · exact Oper.wpIn_mono (fun a w h => ih _ a w h) (operIn_wide hh)
        · exact absurd hh.2 hL
      · rename_i hw
        rw [if_neg hw]
        exact ⟨fun _ _ => trivial, ih _ _ _ hh⟩
/-- A region in a round, held: S holds behind every operation. -/
theorem wpIn_region_held_rd {n l id : Nat} {P : Program} {ops : Array Oper} {R : Act → World → Prop} {a : Act} {w : World} {S : World → Prop} (hm : P.follows .mixedOrders = true) (hd : noDefer ops = true)
    (h : wpAnyH P .any ops (fun e a w => e = .normal ∧ R a w) S ops.size (Array.replicate ops.size false) a w.drew) : (Code.region id ops true).wpIn (Fence.wide.inRound l) n P (fun e a w => e = .normal ∧ R a w) a w :=
  by
  refine wpIn_region_rd hm hd (wpAnyIn_plain ?_ _ _ _ _ (wpAny_of_held _ _ _ _ h))
  rintro ⟨_, _, h, _⟩
  exact Exit.noConfusion h
end Go.Proofs.Ythmijjcddjlebaa

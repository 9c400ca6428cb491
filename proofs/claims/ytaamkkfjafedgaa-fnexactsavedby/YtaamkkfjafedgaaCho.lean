/-
  The chunks of a text by the program, call by call. No condition but that it is a text.
-/
import Derived.Test.YtaamkkfjafedgaaCus
import Derived.Test.YtaamkkfjafedgaaCln
namespace Go.Proofs.Ytaamkkfjafedgaa
open Go.RowKit Go.Shelf
set_option linter.unusedVariables false
attribute [local go_sem] Oper.semAt_some

/-- The chunks of a text. -/
def chunksT (s : ByteArray) : List ByteArray := (pairsN (bs s) s.size).map fun p : Nat × Nat => s.extract p.1 p.2
def chunksV (s : ByteArray) : List Value := (chunksT s).map Value.string
theorem chunksV_length (s : ByteArray) : (chunksV s).length = (chunksT s).length := by unfold chunksV; rw [List.length_map]
def chunksR (s : ByteArray) : List ByteArray × Bool := if s.size ≤ 300 then (chunksT s, true) else ([], false)
theorem chunksT_at {s : ByteArray} {i : Nat} {p : Nat × Nat} (h : (pairsN (bs s) s.size)[i]? = some p) : (chunksT s)[i]? = some (s.extract p.1 p.2) := by unfold chunksT; rw [List.getElem?_map, h]; rfl
theorem chunksV_step {s : ByteArray} {i : Nat} {p : Nat × Nat} (h : (pairsN (bs s) s.size)[i]? = some p) : (chunksV s).take (i + 1) = (chunksV s).take i ++ [.string (s.extract p.1 p.2)] := by
  have h1 : (chunksV s)[i]? = some (.string (s.extract p.1 p.2)) := by unfold chunksV; rw [List.getElem?_map, chunksT_at h]; rfl
  obtain ⟨hl, he⟩ := List.getElem?_eq_some_iff.1 h1
  rw [List.take_succ_eq_append_getElem hl, he]
theorem chunkArgs_cuts9 (s : ByteArray) : (chunkArgs s).length = (chunksT s).length := by rw [chunkArgs_length, chunksT, List.length_map]
theorem chunksT_length (s : ByteArray) : (chunksT s).length ≤ s.size := by rw [← chunkArgs_cuts9, chunkArgs_cuts]; exact cutsI_length s
theorem ext_le9 (s : ByteArray) (i j : Nat) : (s.extract i j).size ≤ s.size := by
  rw [← bs_length, bs_mid9, List.length_drop, List.length_take, bs_length]
  omega

set_option maxRecDepth 100000 in
set_option maxHeartbeats 1000000 in
theorem chunksOf_calls (s : ByteArray) (w : World) (hn : s.size ≤ 1048576) :
    Calls Try.prog 16 #[.string s] w fun e w' => ∃ v, e = .returned (.tuple #[v, .bool (chunksR s).2]) ∧ OwnT w' w.heap.size v (chunksR s).1 ∧ Below w.heap.size w w' := by
  have hm : s.size ≤ maxLen := by unfold maxLen; omega
  by_cases h3 : s.size ≤ 300
  case neg =>
    rw [show chunksR s = ([], false) from if_neg h3]
    have hd := hide (decide_eq_false h3)
    go_enter Try.func16, Try.ntmps16
    go_wp2_with fail
    refine (isCutText_calls s _ hm).mono ?_
    rintro e w1 ⟨rfl, rfl⟩
    rw [hd.out]
    go_wp2
    go_ret2
    exact ⟨_, rfl, World.ownsRow_nil _ _ _ _, Below.refl _ _⟩
  rw [show chunksR s = (chunksT s, true) from if_pos h3]
  have hd := hide (decide_eq_true h3)
  have H3 := hide h3
  clear h3
  obtain ⟨i0, hi0, hz0, hz1, hz2⟩ := info_parts infoStr
  have IP := hide (And.intro hi0 (And.intro hz0 (And.intro hz1 hz2)))
  clear hi0 hz0 hz1 hz2
  have hlen := chunksT_length s
  obtain ⟨n, _⟩ : ∃ n : Nat, True := ⟨0, trivial⟩
  refine (callsIn_wide (n := n)).1 (callsIn_of_wp_marks Try.func16 rfl trivial ?_ rfl)
  simp only [Try.ntmps16, List.size_toArray, List.length_cons, List.length_nil, Nat.reduceAdd, Nat.reduceSub, Array.replicate_succ, Array.replicate_zero, List.push_toArray, List.append_toArray, List.nil_append, List.cons_append]
  gi_wp2_with fail
  refine wide_call (isCutText_calls s _ hm) ?_
  rintro e w1 ⟨rfl, rfl⟩
  rw [hd.out]
  gi_wp2_with fail
  refine wide_call (chunksIn_calls s _) ?_
  rintro e w1 ⟨rfl, rfl⟩
  rw [show ((w.alloc (.cells #[] 9)).alloc (.cells #[.slice (some ⟨w.heap.size, 0, none⟩) 0 0] 27)).heap.size = w.heap.size + 2 by simp]
  have b0 : Hid (Boxed (((w.alloc (.cells #[] 9)).alloc (.cells #[.slice (some ⟨w.heap.size, 0, none⟩) 0 0] 27)).alloc (.cells #[.string s] 9)) (w.heap.size + 1) 27 (.slice (some ⟨w.heap.size, 0, none⟩) 0 0)) := by
    have := (Boxed.new (w.alloc (.cells #[] 9)) 27 (.slice (some ⟨w.heap.size, 0, none⟩) 0 0)).alloc (.cells #[.string s] 9)
    simpa [Hid] using this
  have b1 : Hid (Boxed (((w.alloc (.cells #[] 9)).alloc (.cells #[.slice (some ⟨w.heap.size, 0, none⟩) 0 0] 27)).alloc (.cells #[.string s] 9)) (w.heap.size + 2) 9 (.string s)) := by
    have := Boxed.new ((w.alloc (.cells #[] 9)).alloc (.cells #[.slice (some ⟨w.heap.size, 0, none⟩) 0 0] 27)) 9 (.string s)
    simpa [Hid] using this
  have b2 : Hid (Below w.heap.size w (((w.alloc (.cells #[] 9)).alloc (.cells #[.slice (some ⟨w.heap.size, 0, none⟩) 0 0] 27)).alloc (.cells #[.string s] 9))) := (((Below.refl _ w).alloc (Nat.le_refl _) _).alloc (by simp) _).alloc (by simp; omega) _
  have b3 : Hid ((((w.alloc (.cells #[] 9)).alloc (.cells #[.slice (some ⟨w.heap.size, 0, none⟩) 0 0] 27)).alloc (.cells #[.string s] 9)).ownsRow w.heap.size 9 1 (.slice (some ⟨w.heap.size, 0, none⟩) 0 0) 0 []) := by
    have := World.ownsRow_lit (base := w.heap.size) (e := 9) (size := 1) w #[] 0 (Nat.le_refl _) (by unfold maxLen; omega) (by simp)
    exact (World.ownsRow.alloc (World.ownsRow.alloc (by simpa using this) _) _)
  have hsz : (((w.alloc (.cells #[] 9)).alloc (.cells #[.slice (some ⟨w.heap.size, 0, none⟩) 0 0] 27)).alloc (.cells #[.string s] 9)).heap.size = w.heap.size + 3 := by simp
  gi_wp2
  generalize ((w.alloc (.cells #[] 9)).alloc (.cells #[.slice (some ⟨w.heap.size, 0, none⟩) 0 0] 27)).alloc (.cells #[.string s] 9) = w0 at b0 b1 b2 b3 hsz ⊢
  refine wp_rangeI (gf := 87) (lb := #[.pointer (some ⟨w.heap.size + 2, 0, none⟩)]) rfl (enters_of Try.func87 (by kernel_rfl) rfl) (chunks1_iter s (w.heap.size + 2) hn) ?ps
    (fun i W => Coll W w.heap.size (w.heap.size + 9) w.heap.size (w.heap.size + 1) 27 9 ((chunksV s).take i) ∧ Boxed W (w.heap.size + 2) 9 (.string s) ∧ Below w.heap.size w W) ?ab (fun i A h => h.2.1.cell)
    ⟨⟨_, b0.out, b3.out, fun g hg => .inl (by simpa [Value.ownBlock] using hg.symm)⟩, b1.out, b2.out⟩ ?round ?done
  case ps => intro x hx; obtain ⟨k, hk⟩ := List.getElem?_of_mem hx; obtain ⟨p, _, rfl⟩ := chunkArgs_some hk; rfl
  case ab =>
    rintro i A B ⟨h1, h2, h3⟩ hs
    rw [hsz] at hs
    exact ⟨h1.spar hs (by omega) (by omega), hs.boxed h2 (.inl (by omega)), hs.below h3 (by omega) (Nat.le_refl _)⟩
  case round =>
    intro n' l i x W hx hi _
    obtain ⟨p, hp, rfl⟩ := chunkArgs_some hx
    have hst := hide (chunksV_step hp)
    generalize hcc : s.extract p.1 p.2 = c at hst ⊢
    have hcz := hide hcc.symm
    clear hcc
    have mix : Try.prog.follows .mixedOrders = true := by kernel_rfl
    have hil : i < (chunksT s).length := by rw [← chunkArgs_cuts9]; exact (List.getElem?_eq_some_iff.1 hx).1
    clear hi hx hp
    generalize p.2 = p2
    gi_wp2
    refine ⟨trivial, ?_⟩
    rintro W2 ⟨⟨v, c1, c2, c3⟩, d2, d3⟩ hW2
    rw [hsz] at hW2
    have htl : ((chunksV s).take i).length = i := by rw [List.length_take, chunksV_length]; omega
    have hvd : W2.drew.cell? ⟨w.heap.size + 1, 0, none⟩ = some v := c1.cell
    have hBlt : w.heap.size + 1 < W2.drew.heap.size := c1.lt
    have hb2 := d3.size
    have hil' : i ≤ 300 := by have := H3.out; omega
    have hcs : c.size ≤ 1048576 := by rw [hcz.out]; exact Nat.le_trans (ext_le9 _ _ _) hn
    have AP : Hid (∀ w1, Below W2.drew.heap.size W2.drew w1 → ∃ v' w2, (Builtin.append_ #[27, 27] 27 #[v, .slice (some ⟨w1.heap.size, 0, none⟩) 1 1]).run Try.prog (w1.alloc (.cells #[.string c] 9)) = .ok v' w2 ∧ True ∧ True ∧ True ∧ w2.cell? ⟨w.heap.size + 1, 0, none⟩ = some v ∧ w2.frozen? ⟨w.heap.size + 1, 0, none⟩ = false ∧ (∃ g cap, v' = .slice (some ⟨g, 0, none⟩) (i + 1) cap) ∧ True ∧
        Keep (w.heap.size + 3) (w.heap.size + 5) (w.heap.size + 9) W2 (w2.setCell ⟨w.heap.size + 1, 0, none⟩ v') ∧ Coll (w2.setCell ⟨w.heap.size + 1, 0, none⟩ v') w.heap.size (w.heap.size + 9) w.heap.size (w.heap.size + 1) 27 9 ((chunksV s).take (i + 1)) ∧ Boxed (w2.setCell ⟨w.heap.size + 1, 0, none⟩ v') (w.heap.size + 2) 9 (.string s) ∧ Below w.heap.size w (w2.setCell ⟨w.heap.size + 1, 0, none⟩ v')) := by
      intro w1 b1
      have hs1 : W2.heap.size ≤ w1.heap.size := b1.size
      have c1' : Boxed w1 (w.heap.size + 1) 27 v := (b1.block _ hBlt).trans c1
      have c2' : w1.ownsRow w.heap.size 9 1 v ((chunksV s).take i).length ((chunksV s).take i) := ownsRow_spar (lo := 0) (c0 := 0) (c1 := 0) (show W2.drew.ownsRow _ _ _ _ _ _ from c2) (.of_below b1) (fun g _ => .inr (.inr (Nat.zero_le _)))
      have c2'' := c2'
      rw [htl] at c2''
      obtain ⟨v', w2, hrun, o1, g1, _, a1⟩ := run_append_own_at (P := Try.prog) (w1.alloc (.cells #[.string c] 9)) w.heap.size 27 27 9 i0 (.string ⟨#[]⟩) 1 16 Try.underlying27 IP.out.1 IP.out.2.1 IP.out.2.2.1 IP.out.2.2.2 rfl (by decide) v i _ (c2''.alloc _) ⟨w1.heap.size, 0, none⟩ 1 1 [.string c] rfl (cell_one_new _ _ _) (by simp [Value.oneCell']) (by unfold maxLen; omega) (by omega) (by simp; omega)
      rw [World.size_alloc] at a1
      obtain ⟨g', cap', rfl⟩ := ownsRow_succ o1
      obtain ⟨q1, q2, q3, q4⟩ := coll_step (lo := w.heap.size + 3) (c0 := w.heap.size + 5) (c1 := w.heap.size + 9) (n0 := w.heap.size) c1' c2' c3 (by omega) (by omega) (by omega) (by omega) (by omega) (by omega) (by omega) (by omega) (by rw [htl]; exact o1) g1 a1
      refine ⟨_, w2, hrun, trivial, trivial, trivial, q1.cell, q1.frozen, ⟨_, _, rfl⟩, trivial, (Keep.drew _ _ _ W2).trans ((Keep.of_below b1).trans q3), by rw [hst.out]; exact q2, ?_, (d3.drew.trans (b1.mono (by omega))).trans q4⟩
      refine boxed_other (((show Boxed w1 (w.heap.size + 2) 9 (.string s) from (b1.block _ d2.lt).trans d2).alloc _).kept g1 (fun e' => ?_)) (by omega) _
      have := c3 _ e'.symm
      omega
    clear c1 c2 c3 d2 d3
    gi_wp2
    refine wpIn_mono (Q := fun e ac W' => e = .normal ∧ Keep (w.heap.size + 3) (w.heap.size + 5) (w.heap.size + 9) W2 W' ∧ Coll W' w.heap.size (w.heap.size + 9) w.heap.size (w.heap.size + 1) 27 9 ((chunksV s).take (i + 1)) ∧ Boxed W' (w.heap.size + 2) 9 (.string s) ∧ Below w.heap.size w W') ?region ?_
    case region =>
      refine wpIn_region_rd mix (by decide) ?_
      refine wpAnyIn_take (i := 1) (v := _) rfl rfl (by kernel_rfl) (by kernel_rfl) (by kernel_rfl) (fun _ _ _ h => Exit.noConfusion h.1) ⟨Or.inl ⟨by rfl, by intro w; go_simp; try with_reducible rfl⟩, fun _ => rfl⟩ ?_
      refine wpAnyIn_ready (rs := [0, 2]) (by kernel_rfl) (by simp) ?_
      refine AllReadyIn.cons rfl (fun K hK => ?_) ?_
      · go_simp
        refine hK _ _ ?_
        clear hK K
        refine wpAnyIn_ready (rs := [2]) (by kernel_rfl) (by simp) ?_
        refine AllReadyIn.cons rfl (fun K hK => ?_) ?_
        · go_simp
          refine wide_call (clone9_calls c _ hcs) ?_
          rintro e w1 ⟨rfl, b1⟩
          have hs1 := b1.size
          have hc1 : w1.cell? ⟨w.heap.size + 1, 0, none⟩ = some v := (b1.cell (p := ⟨w.heap.size + 1, 0, none⟩) hBlt).trans hvd
          refine hK _ _ ?_
          clear hK K
          refine wpAnyIn_ready (rs := [3]) (by kernel_rfl) (by simp) ?_
          refine AllReadyIn.cons rfl (fun K hK => ?_) ?_
          · go_simp
            have hc2 : (w1.alloc (.cells #[.string c] 9)).cell? ⟨w.heap.size + 1, 0, none⟩ = some v := ((Below.refl w1.heap.size w1).alloc (Nat.le_refl _) (.cells #[.string c] 9)).cell (p := ⟨w.heap.size + 1, 0, none⟩) (Nat.lt_of_lt_of_le hBlt hs1) |>.trans hc1
            refine hK _ _ ?_
            clear hK K
            refine wpAnyIn_ready (rs := [4]) (by kernel_rfl) (by simp) ?_
            refine AllReadyIn.cons rfl (fun K hK => ?_) ?_
            · obtain ⟨v', w2, hrun, o1, g1, q0, q1, q2, q3, q4, q5, q6, q7⟩ := AP.out w1 b1
              obtain ⟨g', cap', rfl⟩ := q3
              rw [if_pos (by rfl)]
              refine wpIn_append_eq rfl rfl rfl hrun (hK _ _ ?_)
              clear hK K hrun
              refine wpAnyIn_ready (rs := [5]) (by kernel_rfl) (by simp) ?_
              refine AllReadyIn.cons rfl (fun K hK => ?_) ?_
              · go_simp
                refine hK _ _ ?_
                clear hK K
                refine wpAnyIn_done (by kernel_rfl) ?_ _
                exact ⟨rfl, q5, q6, q7⟩
              exact AllReadyIn.nil
            exact AllReadyIn.nil
          exact AllReadyIn.nil
        exact AllReadyIn.nil
      refine AllReadyIn.cons rfl (fun K hK => ?_) ?_
      · go_simp
        refine wide_call (clone9_calls c _ hcs) ?_
        rintro e w1 ⟨rfl, b1⟩
        have hs1 := b1.size
        have hc1 : w1.cell? ⟨w.heap.size + 1, 0, none⟩ = some v := (b1.cell (p := ⟨w.heap.size + 1, 0, none⟩) hBlt).trans hvd
        refine hK _ _ ?_
        clear hK K
        refine wpAnyIn_ready (rs := [0, 3]) (by kernel_rfl) (by simp) ?_
        refine AllReadyIn.cons rfl (fun K hK => ?_) ?_
        · go_simp
          refine hK _ _ ?_
          clear hK K
          refine wpAnyIn_ready (rs := [3]) (by kernel_rfl) (by simp) ?_
          refine AllReadyIn.cons rfl (fun K hK => ?_) ?_
          · go_simp
            have hc2 : (w1.alloc (.cells #[.string c] 9)).cell? ⟨w.heap.size + 1, 0, none⟩ = some v := ((Below.refl w1.heap.size w1).alloc (Nat.le_refl _) (.cells #[.string c] 9)).cell (p := ⟨w.heap.size + 1, 0, none⟩) (Nat.lt_of_lt_of_le hBlt hs1) |>.trans hc1
            refine hK _ _ ?_
            clear hK K
            refine wpAnyIn_ready (rs := [4]) (by kernel_rfl) (by simp) ?_
            refine AllReadyIn.cons rfl (fun K hK => ?_) ?_
            · obtain ⟨v', w2, hrun, o1, g1, q0, q1, q2, q3, q4, q5, q6, q7⟩ := AP.out w1 b1
              obtain ⟨g', cap', rfl⟩ := q3
              rw [if_pos (by rfl)]
              refine wpIn_append_eq rfl rfl rfl hrun (hK _ _ ?_)
              clear hK K hrun
              refine wpAnyIn_ready (rs := [5]) (by kernel_rfl) (by simp) ?_
              refine AllReadyIn.cons rfl (fun K hK => ?_) ?_
              · go_simp
                refine hK _ _ ?_
                clear hK K
                refine wpAnyIn_done (by kernel_rfl) ?_ _
                exact ⟨rfl, q5, q6, q7⟩
              exact AllReadyIn.nil
            exact AllReadyIn.nil
          exact AllReadyIn.nil
        refine AllReadyIn.cons rfl (fun K hK => ?_) ?_
        · go_simp
          have hc2 : (w1.alloc (.cells #[.string c] 9)).cell? ⟨w.heap.size + 1, 0, none⟩ = some v := ((Below.refl w1.heap.size w1).alloc (Nat.le_refl _) (.cells #[.string c] 9)).cell (p := ⟨w.heap.size + 1, 0, none⟩) (Nat.lt_of_lt_of_le hBlt hs1) |>.trans hc1
          refine hK _ _ ?_
          clear hK K
          refine wpAnyIn_ready (rs := [0]) (by kernel_rfl) (by simp) ?_
          refine AllReadyIn.cons rfl (fun K hK => ?_) ?_
          · go_simp
            refine hK _ _ ?_
            clear hK K
            refine wpAnyIn_ready (rs := [4]) (by kernel_rfl) (by simp) ?_
            refine AllReadyIn.cons rfl (fun K hK => ?_) ?_
            · obtain ⟨v', w2, hrun, o1, g1, q0, q1, q2, q3, q4, q5, q6, q7⟩ := AP.out w1 b1
              obtain ⟨g', cap', rfl⟩ := q3
              rw [if_pos (by rfl)]
              refine wpIn_append_eq rfl rfl rfl hrun (hK _ _ ?_)
              clear hK K hrun
              refine wpAnyIn_ready (rs := [5]) (by kernel_rfl) (by simp) ?_
              refine AllReadyIn.cons rfl (fun K hK => ?_) ?_
              · go_simp
                refine hK _ _ ?_
                clear hK K
                refine wpAnyIn_done (by kernel_rfl) ?_ _
                exact ⟨rfl, q5, q6, q7⟩
              exact AllReadyIn.nil
            exact AllReadyIn.nil
          exact AllReadyIn.nil
        exact AllReadyIn.nil
      exact AllReadyIn.nil

    rintro e ac W3 ⟨rfl, k1, k2⟩
    exact ⟨rfl, by rw [hsz]; exact k1, k2⟩
  case done =>
    rintro W ⟨⟨v, c1, c2, c3⟩, d2, d3⟩ hD _
    rw [chunkArgs_cuts9, ← chunksV_length, List.take_length] at c2
    have hc1 := c1.cell
    have D := hide (And.intro c2 d3)
    clear c2 d3 c1
    gi_wp2
    refine ⟨by simp, .inl ⟨_, _, rfl, run_takeDeferred hD, ?_⟩⟩
    refine ⟨_, results_tmp2 rfl _ _ _, ?_⟩
    refine ⟨_, rfl, ?_, (Spar.putObj (lo := w.heap.size) (c0 := 0) (c1 := 0) _ hD rfl (by omega)).below D.out.2 (Nat.le_refl _) (Nat.le_refl _)⟩
    have := D.out.1
    rw [chunksV_length] at this
    exact ownsRow_putObj this _ hD rfl
end Go.Proofs.Ytaamkkfjafedgaa

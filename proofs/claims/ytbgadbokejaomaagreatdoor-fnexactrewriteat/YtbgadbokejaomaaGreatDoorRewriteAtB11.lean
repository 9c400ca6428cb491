/-
  The program's copy of a disk, call by call. Each contract says what it asks. What is kept of what is held: the program's tests and its model's, call by call. Each contract says what it asks. What may be kept: the model's test, call by call. The contract says what it asks.
-/
import Derived.Test.YtbgadbokejaomaaGreatDoorRewriteAtB10
namespace Go.Proofs.YtbgadbokejaomaaGreatDoor
open Go.RowKit
set_option linter.unusedVariables false

set_option maxRecDepth 100000 in
set_option maxHeartbeats 800000 in
theorem eachOf_clone (v : Value) (xs : List ByteArray) (w : World) (h : RdT w v xs) (h28 : ∀ i, i < xs.length → (xs.getD i ⟨#[]⟩).size ≤ 28) (hn : xs.length ≤ 24) :
    Calls Tryz.prog 161 #[v, .func (.func 162) #[] #[]] w fun e w' => ∃ v', e = .returned v' ∧ OwnT w' w.heap.size v' xs ∧ Below w.heap.size w w' := by
  have R := hide h
  have S28 := hide h28
  obtain ⟨a, cap, rfl, mh, _⟩ := h.sl
  clear h h28
  go_enter Tryz.func161, Tryz.ntmps161
  go_wp2_with (at_make; refine wpList_make_texts rfl _ _ rfl w.heap.size _ _ xs.length rfl rfl (by omega) (by omega) (by omega) (Nat.le_refl _) ?_)
  intro w0 hown0 hgrow0
  have E0 := hide hown0
  have G0 := hide hgrow0
  clear hown0 hgrow0
  go_wp2
  go_loopw [6, 7, 13] (fun _ _ vi wr => ∃ k : Nat, k ≤ xs.length ∧ vi = .int .i64 k ∧ wr.ownsRow w.heap.size 9 1 (.slice (some ⟨w.heap.size, 0, none⟩) xs.length xs.length) xs.length ((cpT xs k).map Value.string) ∧ Below w.heap.size w wr) (fun _ _ vi _ => xs.length - (intOf vi).toNat)
  case atStart =>
    refine ⟨0, Nat.zero_le _, rfl, ?_, (Below.refl _ _).grown G0.out (Nat.le_refl _) (fun k h => by cases h)⟩
    rw [cpT_zero]
    have := E0.out
    unfold OwnT at this
    rwa [List.length_replicate] at this
  case round =>
    obtain ⟨k, hk, rfl, hown, hb⟩ := hrel
    have O := hide hown
    have HB := hide hb
    by_cases hlt : k < xs.length
    · obtain ⟨gb, off, rfl, hc, _⟩ := (R.out.below hb).cell k hlt
      have hz := S28.out k hlt
      have hst := fun (W : World) (hW : W.ownsRow w.heap.size 9 1 (.slice (some ⟨w.heap.size, 0, none⟩) xs.length xs.length) xs.length ((cpT xs k).map Value.string)) => hW.stored k (.string (xs.getD k ⟨#[]⟩))
      have STP := hide (cpT_step xs k hlt)
      have ST := hide hst
      generalize xs.getD k ⟨#[]⟩ = z at hc hz ST STP
      clear hown hb hst
      have hlt' : (k : Int) < (xs.length : Int) := by omega
      go_wp2_with fail
      refine (clone_calls z _ (by omega)).mono ?_
      rintro e w1 ⟨rfl, b1⟩
      have o1 := ownsRow_below O.out b1
      have hc2 : w1.frozen? ⟨w.heap.size, k, none⟩ = false := o1.frozenAt k
      obtain ⟨old, hc3⟩ : ∃ old, w1.cell? ⟨w.heap.size, k, none⟩ = some old := by
        rw [o1.cellAt k (by omega)]
        have := cpT_length xs k hk
        exact ⟨_, List.getElem?_eq_getElem (by simp; omega)⟩
      have KK := hide (ST.out _ o1).1
      have B1 := hide ((HB.out.trans (b1.mono HB.out.size)).setCell (p := ⟨w.heap.size, k, none⟩) (Nat.le_refl _) (.string z))
      clear o1 b1 hc
      go_wp2
      go_roundw
      case rel =>
        refine ⟨k + 1, by omega, by go_num, ?_, B1.out⟩
        have := KK.out
        rw [← List.map_set, STP.out] at this
        exact this
      case measure => simp [intOf]; omega
    · obtain rfl : k = xs.length := by omega
      clear hown hb
      have o1 := O.out
      rw [cpT_end] at o1
      have O1 := hide o1
      clear o1
      go_wp2
      go_ret
      exact ⟨_, rfl, O1.out, HB.out⟩

theorem infoBolS : (Tryz.prog.info? 4).map (·.size) = some 1 := by kernel_rfl
theorem bol_full {w : World} {base g n : Nat} {xs : List Value} (h : w.ownsRow base 4 1 (.slice (some ⟨g, 0, none⟩) n n) n xs) : w.heap[g]? = some (.cells xs.toArray 4 (0, 0)) := by
  rcases h.2 with ⟨h', _⟩ | ⟨g', cap', cur, h', _, hg, _, _, hs, ht⟩
  · simp at h'
  · simp only [Value.slice.injEq, Option.some.injEq, Addr.mk.injEq, and_true, true_and] at h'
    obtain ⟨rfl, rfl⟩ := h'
    rw [hg, ← ht, List.take_of_length_le (by rw [Array.length_toList, hs]; exact Nat.le_refl _)]
/-- 'copy(out, p)', out a row of n Booleans that the call has just made, p of n: out holds them. -/
theorem wpList_copy_bols {w : World} {ops : Array Oper} {rest : List Oper} {o : Oper} {a : Act} {Q : Exit → Act → World → Prop} (hgd : o.guard = none) (d s : Operand)
    (ho : o.op = .call { callee := .builtin .copy, args := #[d, s], argTypes := #[24, 24] })
    (base g : Nat) (ws zs : List Bool) (hd : a.eval d = .slice (some ⟨g, 0, none⟩) zs.length zs.length) (hown : w.ownsRow base 4 1 (.slice (some ⟨g, 0, none⟩) zs.length zs.length) zs.length (ws.map Value.bool))
    (u : Value) (hs : a.eval s = u) (hr : RdZ w u zs) (hbase : base ≤ g) (hm : zs.length ≤ 24) (h0 : 0 < zs.length)
    (h : ∀ w', OwnZ w' base (.slice (some ⟨g, 0, none⟩) zs.length zs.length) zs → w.grownBy w' (some g) → wpList Tryz.prog ops Q rest (a.put o.dst (goInt zs.length)) w') : wpList Tryz.prog ops Q (o :: rest) a w := by
  obtain ⟨ad, cap, rfl, h1, ⟨h2, h2'⟩, h3⟩ := hr
  have hg := bol_full hown
  have hwl : (ws.map Value.bool).length = zs.length := by have := hown.1; simpa using this
  rcases h3 with h3 | ⟨b, off, rfl, _, hc⟩
  · subst h3; simp at h0
  refine wpList_copy_own (w := w) hgd d s 24 24 ho 4 Tryz.underlying24 infoBolS g 0 zs.length zs.length ⟨b, off, none⟩ zs.length cap hd hs (ws.map Value.bool).toArray 4 hg (zs.map Value.bool) (by simp) ?_ (by rw [List.size_toArray, hwl]; simp) (bols_oneCell _) ?_
  · intro j y hj
    have hjz : j < zs.length := by simpa using (List.getElem?_eq_some_iff.1 hj).1
    have hadd : (⟨b, off, none⟩ : Addr).add j = ⟨b, off + j, none⟩ := by unfold Addr.add; split <;> simp_all
    rw [hadd, hc j hjz]
    rw [List.getElem?_map, List.getElem?_eq_getElem hjz] at hj
    simp only [Option.map_some, Option.some.injEq] at hj
    rw [← hj, List.getD_eq_getElem?_getD, List.getElem?_eq_getElem hjz, Option.getD_some]
  · have e : ((ws.map Value.bool).toArray.toList.take 0 ++ (zs.map Value.bool ++ (ws.map Value.bool).toArray.toList.drop (0 + (zs.map Value.bool).length))).toArray = (zs.map Value.bool).toArray := by
      rw [List.take_zero, List.nil_append, List.drop_eq_nil_of_le (by simpa using Nat.le_of_eq (by simpa using hwl)), List.append_nil]
    rw [e, List.length_map]
    refine h _ ?_ ⟨rfl, rfl, rfl, by simp [World.setRow], fun k _ hk => setRow_other w g k _ (fun e => hk (by simp [e]))⟩
    exact ⟨by simp, .inr ⟨g, zs.length, _, rfl, hbase, setRow_heap w g _ _ 4 _ hg, Nat.le_refl _, by unfold maxLen; omega, by simp, List.take_of_length_le (by simp)⟩⟩

set_option maxRecDepth 100000 in
set_option maxHeartbeats 800000 in
theorem copyBols_calls (v : Value) (xs : List Bool) (w : World) (h : RdZ w v xs) (h0 : 0 < xs.length) (hn : xs.length ≤ 24) :
    Calls Tryz.prog 163 #[v] w fun e w' => ∃ v', e = .returned v' ∧ OwnZ w' w.heap.size v' xs ∧ Below w.heap.size w w' := by
  have R := hide h
  obtain ⟨a, cap, rfl, mh, _⟩ := h.sl
  clear h
  go_enter Tryz.func163, Tryz.ntmps163
  go_wp2_with (at_make; refine wpList_make_bols rfl _ _ rfl w.heap.size _ _ xs.length rfl rfl (by omega) (by omega) (by omega) (Nat.le_refl _) ?_)
  intro w0 hown0 hgrow0
  have o0 : w0.ownsRow w.heap.size 4 1 (.slice (some ⟨w.heap.size, 0, none⟩) xs.length xs.length) xs.length ((List.replicate xs.length false).map Value.bool) := by
    have := hown0
    unfold OwnZ at this
    rwa [List.length_replicate] at this
  have b0 : Below w.heap.size w w0 := (Below.refl _ _).grown hgrow0 (Nat.le_refl _) (fun k h => by cases h)
  have E0 := hide o0
  have B0 := hide b0
  clear hown0 hgrow0 o0 b0
  go_wp2_with (refine wpList_copy_bols rfl (.tmp 7) (.tmp 8) rfl w.heap.size w.heap.size _ xs rfl E0.out _ rfl (R.out.below B0.out) (Nat.le_refl _) hn h0 ?_)
  intro w1 o1 g1
  have O1 := hide o1
  have B1 := hide (B0.out.grown g1 B0.out.size (fun k h => by cases h; exact Nat.le_refl _))
  clear o1 g1
  go_wp2
  go_ret
  exact ⟨_, rfl, O1.out, B1.out⟩

set_option linter.unusedSimpArgs false in
set_option maxRecDepth 100000 in
set_option maxHeartbeats 6400000 in
theorem copyDisk_calls (p h b : Value) (P H : List ByteArray) (B : List Bool) (w : World) (hp : RdT w p P) (hh : RdT w h H) (hb : RdZ w b B) (hP : 0 < P.length ∧ P.length ≤ 24) (hH : 0 < H.length ∧ H.length ≤ 24) (hB : 0 < B.length ∧ B.length ≤ 24) (hP28 : ∀ i, i < P.length → (P.getD i ⟨#[]⟩).size ≤ 28) (hH28 : ∀ i, i < H.length → (H.getD i ⟨#[]⟩).size ≤ 28) :
    Calls Tryz.prog 117 #[.agg #[p, h, b]] w fun e w' => ∃ p' h' b', e = .returned (.agg #[p', h', b']) ∧ DskV w' w.heap.size w'.heap.size p' h' b' P H B ∧ Below w.heap.size w w' := by
  have SP28 := hide hP28
  have SH28 := hide hH28
  have RP := hide hp
  have RH := hide hh
  have RB := hide hb
  have SP := hide hp.small
  have SH := hide hh.small
  obtain ⟨wa, ea⟩ : ∃ wa, wa = w.alloc (.cells #[p, h, b] 26) := ⟨_, rfl⟩
  obtain ⟨W0, eb⟩ : ∃ wb, wb = wa.alloc (.cells nil3 26) := ⟨_, rfl⟩
  have sa : wa.heap.size = w.heap.size + 1 := by rw [ea]; simp
  have sb : W0.heap.size = w.heap.size + 1 + 1 := by rw [eb, World.size_alloc, sa]
  have ba : Below w.heap.size w wa := by rw [ea]; exact below_box _ _
  have bb : Below wa.heap.size wa W0 := by rw [eb]; exact below_box _ _
  have xa : BoxAt wa w.heap.size #[p, h, b] 26 := by rw [ea]; exact BoxAt.new _ _ _
  have xb : BoxAt W0 (w.heap.size + 1) nil3 26 := by rw [eb, ← sa]; exact BoxAt.new _ _ _
  have EW : Hid ((w.alloc (.cells #[p, h, b] 26)).alloc (.cells nil3 26) = W0) := by show _ = _; rw [eb, ea]
  have BZ0 := hide (ba.trans (bb.mono (by omega)))
  have XR0 := hide xb
  have XB0 := hide (xa.below bb)
  have VS0 := hide sb
  have F0 : Hid (∀ W, Below W0.heap.size W0 W → (W.cell? ⟨w.heap.size, 0, none⟩ = some p ∧ W.cell? ⟨w.heap.size, 1, none⟩ = some h ∧ W.cell? ⟨w.heap.size, 2, none⟩ = some b)) := fun W hW => (XB0.out.below hW).c3
  clear hP28 hH28 hp hh hb ea eb sa sb ba bb xa xb
  go_enter Tryz.func117, Tryz.ntmps117
  go_wp2
  rw [EW.out]
  refine wp_region_noPanic ?_
  refine wp_region_held_drew (S := fun w' => w'.cell? ⟨w.heap.size, 0, none⟩ = some p ∧ w'.cell? ⟨w.heap.size, 1, none⟩ = some h ∧ w'.cell? ⟨w.heap.size, 2, none⟩ = some b) (by kernel_rfl) (F0.out _ (Below.refl _ _).drew) (fun hHeld => ?_)
  have BZ := hide (BZ0.out.drew)
  have XR := hide (XR0.out.below (Below.refl _ _).drew)
  have XB := hide (XB0.out.below (Below.refl _ _).drew)
  have VS : Hid (W0.drew.heap.size = w.heap.size + 1 + 1) := VS0.out
  have F : Hid (∀ W, Below W0.drew.heap.size W0.drew W → (W.cell? ⟨w.heap.size, 0, none⟩ = some p ∧ W.cell? ⟨w.heap.size, 1, none⟩ = some h ∧ W.cell? ⟨w.heap.size, 2, none⟩ = some b)) := fun W hW => (XB.out.below hW).c3
  clear BZ0 XR0 XB0 VS0 F0 EW
  generalize W0.drew = V0 at *
  have BVV0 := hide (Below.refl V0.heap.size V0)
  refine wpAnyH_take (i := 0) (v := ?v1) rfl (by kernel_rfl) (by kernel_rfl) (by kernel_rfl) (fun _ _ _ h => h) (Or.inl ⟨by rfl, ?hy1⟩) (by assumption) ?rest1
  case hy1 => (intro w' hSw; dsimp only [List.getElem_toArray, List.getElem_cons_zero, List.getElem_cons_succ] at hSw ⊢; go_simp; try (with_reducible rfl))
  try simp only [Act.put, List.getElem_toArray, List.getElem_cons_zero, List.getElem_cons_succ, List.setIfInBounds_toArray, List.set_cons_zero, List.set_cons_succ]
  refine wpAnyH_take (i := 1) (v := ?v2) rfl (by kernel_rfl) (by kernel_rfl) (by kernel_rfl) (fun _ _ _ h => h) (Or.inl ⟨by rfl, ?hy2⟩) (by assumption) ?rest2
  case hy2 => (intro w' hSw; dsimp only [List.getElem_toArray, List.getElem_cons_zero, List.getElem_cons_succ] at hSw ⊢; go_simp; try (with_reducible rfl))
  try simp only [Act.put, List.getElem_toArray, List.getElem_cons_zero, List.getElem_cons_succ, List.setIfInBounds_toArray, List.set_cons_zero, List.set_cons_succ]
  refine wpAnyH_take (i := 3) (v := ?v3) rfl (by kernel_rfl) (by kernel_rfl) (by kernel_rfl) (fun _ _ _ h => h) (Or.inl ⟨by rfl, ?hy3⟩) (by assumption) ?rest3
  case hy3 => (intro w' hSw; dsimp only [List.getElem_toArray, List.getElem_cons_zero, List.getElem_cons_succ] at hSw ⊢; go_simp; try (with_reducible rfl))
  try simp only [Act.put, List.getElem_toArray, List.getElem_cons_zero, List.getElem_cons_succ, List.setIfInBounds_toArray, List.set_cons_zero, List.set_cons_succ]
  refine wpAnyH_take (i := 4) (v := ?v4) rfl (by kernel_rfl) (by kernel_rfl) (by kernel_rfl) (fun _ _ _ h => h) (Or.inl ⟨by rfl, ?hy4⟩) (by assumption) ?rest4
  case hy4 => (intro w' hSw; dsimp only [List.getElem_toArray, List.getElem_cons_zero, List.getElem_cons_succ] at hSw ⊢; go_simp; try (with_reducible rfl))
  try simp only [Act.put, List.getElem_toArray, List.getElem_cons_zero, List.getElem_cons_succ, List.setIfInBounds_toArray, List.set_cons_zero, List.set_cons_succ]
  refine wpAnyH_take (i := 6) (v := ?v5) rfl (by kernel_rfl) (by kernel_rfl) (by kernel_rfl) (fun _ _ _ h => h) (Or.inl ⟨by rfl, ?hy5⟩) (by assumption) ?rest5
  case hy5 => (intro w' hSw; dsimp only [List.getElem_toArray, List.getElem_cons_zero, List.getElem_cons_succ] at hSw ⊢; go_simp; try (with_reducible rfl))
  try simp only [Act.put, List.getElem_toArray, List.getElem_cons_zero, List.getElem_cons_succ, List.setIfInBounds_toArray, List.set_cons_zero, List.set_cons_succ]
  refine wpAnyH_take (i := 7) (v := ?v6) rfl (by kernel_rfl) (by kernel_rfl) (by kernel_rfl) (fun _ _ _ h => h) (Or.inl ⟨by rfl, ?hy6⟩) (by assumption) ?rest6
  case hy6 => (intro w' hSw; dsimp only [List.getElem_toArray, List.getElem_cons_zero, List.getElem_cons_succ] at hSw ⊢; go_simp; try (with_reducible rfl))
  try simp only [Act.put, List.getElem_toArray, List.getElem_cons_zero, List.getElem_cons_succ, List.setIfInBounds_toArray, List.set_cons_zero, List.set_cons_succ]
  refine wpAnyH_ready (rs := [2]) (by kernel_rfl) (by simp) ?_
  refine AllReadyH.cons rfl (fun K hK => ?_) AllReadyH.nil
  dsimp only [List.getElem_toArray, List.getElem_cons_zero, List.getElem_cons_succ]
  go_simp
  refine (eachOf_clone _ P _ (RP.out.below (BZ.out.trans (BVV0.out.mono BZ.out.size))) SP28.out hP.2).mono ?_
  rintro e' u1 ⟨v1, rfl, o, bb⟩
  have T1 := hide (row_top o)
  have L1 := hide (row_low o)
  obtain ⟨a1, c1, rfl⟩ := row_slice o
  have BVu1 := hide (BVV0.out.trans (bb.mono BVV0.out.size))
  have szu1 := bb.size
  have O1 := hide o
  clear bb hHeld o
  refine hK.out _ _ (F.out _ BVu1.out) (fun hHeld => ?_)
  clear hK K
  try simp only [Act.put, List.getElem_toArray, List.getElem_cons_zero, List.getElem_cons_succ, List.setIfInBounds_toArray, List.set_cons_zero, List.set_cons_succ]
  refine wpAnyH_ready (rs := [5]) (by kernel_rfl) (by simp) ?_
  refine AllReadyH.cons rfl (fun K hK => ?_) AllReadyH.nil
  dsimp only [List.getElem_toArray, List.getElem_cons_zero, List.getElem_cons_succ]
  go_simp
  refine (eachOf_clone _ H _ (RH.out.below (BZ.out.trans (BVu1.out.mono BZ.out.size))) SH28.out hH.2).mono ?_
  rintro e' u2 ⟨v2, rfl, o, bb⟩
  have T2 := hide (row_top o)
  have L2 := hide (row_low o)
  obtain ⟨a2, c2, rfl⟩ := row_slice o
  have BVu2 := hide (BVu1.out.trans (bb.mono BVu1.out.size))
  have szu2 := bb.size
  have O1 := hide (ownsRow_below O1.out bb)
  have O2 := hide o
  clear bb hHeld o
  refine hK.out _ _ (F.out _ BVu2.out) (fun hHeld => ?_)
  clear hK K
  try simp only [Act.put, List.getElem_toArray, List.getElem_cons_zero, List.getElem_cons_succ, List.setIfInBounds_toArray, List.set_cons_zero, List.set_cons_succ]
  refine wpAnyH_ready (rs := [8]) (by kernel_rfl) (by simp) ?_
  refine AllReadyH.cons rfl (fun K hK => ?_) AllReadyH.nil
  dsimp only [List.getElem_toArray, List.getElem_cons_zero, List.getElem_cons_succ]
  go_simp
  refine (copyBols_calls _ B _ (RB.out.below (BZ.out.trans (BVu2.out.mono BZ.out.size))) hB.1 hB.2).mono ?_
  rintro e' u3 ⟨v3, rfl, o, bb⟩
  have T3 := hide (row_top o)
  have L3 := hide (row_low o)
  obtain ⟨a3, c3, rfl⟩ := row_slice o
  have BVu3 := hide (BVu2.out.trans (bb.mono BVu2.out.size))
  have szu3 := bb.size
  have O1 := hide (ownsRow_below O1.out bb)
  have O2 := hide (ownsRow_below O2.out bb)
  have O3 := hide o
  clear bb hHeld o
  refine hK.out _ _ (F.out _ BVu3.out) (fun hHeld => ?_)
  clear hK K
  try simp only [Act.put, List.getElem_toArray, List.getElem_cons_zero, List.getElem_cons_succ, List.setIfInBounds_toArray, List.set_cons_zero, List.set_cons_succ]
  refine wpAnyH_take (i := 9) (v := ?v7) rfl (by kernel_rfl) (by kernel_rfl) (by kernel_rfl) (fun _ _ _ h => h) (Or.inl ⟨by rfl, ?hy7⟩) (by assumption) ?rest7
  case hy7 => (intro w' hSw; dsimp only [List.getElem_toArray, List.getElem_cons_zero, List.getElem_cons_succ] at hSw ⊢; go_simp; try (with_reducible rfl))
  try simp only [Act.put, List.getElem_toArray, List.getElem_cons_zero, List.getElem_cons_succ, List.setIfInBounds_toArray, List.set_cons_zero, List.set_cons_succ]
  refine wpAnyH_ready (rs := [10]) (by kernel_rfl) (by simp) ?_
  refine AllReadyH.cons rfl (fun K hK => ?_) AllReadyH.nil
  have xr := hide (XR.out.below BVu3.out)
  have xb := hide (XB.out.below BVu3.out)
  obtain ⟨d0, d1, d2⟩ := xr.out.c3
  have g0 := xr.out.frozen 0
  have g1 := xr.out.frozen 1
  have g2 := xr.out.frozen 2
  dsimp only [List.getElem_toArray, List.getElem_cons_zero, List.getElem_cons_succ]
  go_simp
  clear d0 d1 d2 g0 g1 g2 hHeld
  have C6 := Chg.store3 (lo := w.heap.size + 1) (hi := w.heap.size + 1 + 1) u3 (w.heap.size + 1) (.slice a1 P.length c1) (.slice a2 H.length c2) (.slice a3 B.length c3) (Nat.le_refl _) (by omega)
  have XF := hide (xr.out.store3 (.slice a1 P.length c1) (.slice a2 H.length c2) (.slice a3 B.length c3))
  have CC := hide C6
  have s6 := C6.size
  have cb := (xb.out.chg C6 (.inl (by omega))).c3
  clear C6
  refine hK.out _ _ cb (fun hHeld => ?_)
  clear hK K cb hHeld
  try simp only [Act.put, List.getElem_toArray, List.getElem_cons_zero, List.getElem_cons_succ, List.setIfInBounds_toArray, List.set_cons_zero, List.set_cons_succ]
  refine wpAnyH_done (by kernel_rfl) ?_ _
  refine NoPanic.normal ?_
  go_wp2
  refine bodyPost_ret (res_dsk rfl _ _ (w.heap.size + 1) _ _ _ (0, 0) rfl XF.out) rfl ⟨_, _, _, rfl, ?_, (BZ.out.trans (BVu3.out.mono BZ.out.size)).trans (CC.out.below (by omega) (by have := BVu3.out.size; have := VS.out; omega))⟩
  have VS2 := VS.out
  have q1 := BVu3.out.size
  have dd : DskV u3 (w.heap.size + 1 + 1) u3.heap.size (.slice a1 P.length c1) (.slice a2 H.length c2) (.slice a3 B.length c3) P H B := ⟨ownsRow_mono O1.out (by omega), ownsRow_mono O2.out (by omega), ownsRow_mono O3.out (by omega), fun k hk => by have := T1.out k hk; omega, fun k hk => by have := T2.out k hk; omega, fun k hk => by have := T3.out k hk; omega, own_apart T1.out L2.out (by omega), SP.out, SH.out⟩
  exact (dd.chg CC.out (.inr (Nat.le_refl _))).wider (by omega) s6
end Go.Proofs.YtbgadbokejaomaaGreatDoor

namespace Go.Proofs.YtbgadbokejaomaaGreatDoor
open Go.RowKit
set_option linter.unusedVariables false

theorem Rd.at {w : World} {a : Option Addr} {n cap : Nat} {xs : List Int} (h : Rd w (.slice a n cap) xs) (i : Nat) (hi : i < xs.length) : ∃ b off, a = some ⟨b, off, none⟩ ∧ w.cell? ⟨b, off + i, none⟩ = some (.int .i64 (xs.getD i 0)) ∧ b < w.heap.size := by
  obtain ⟨a', cap', hv, _, _, h3⟩ := h
  simp only [Value.slice.injEq] at hv
  obtain ⟨rfl, rfl, rfl⟩ := hv
  rcases h3 with h3 | ⟨b, off, rfl, hlt, hc⟩
  · subst h3; simp at hi
  · exact ⟨b, off, rfl, hc i hi, hlt⟩
theorem Rd.sl {w : World} {v : Value} {xs : List Int} (h : Rd w v xs) : ∃ a cap, v = .slice a xs.length cap ∧ xs.length ≤ 9223372036854775807 ∧ xs.length ≤ cap := by
  obtain ⟨a, cap, rfl, h1, h2, _⟩ := h
  have h3 := h2.1
  exact ⟨a, cap, rfl, by unfold maxLen at h3; omega, h1⟩

/-- The number at place i is at least 0, below the end, and greater than the one ahead of it. -/
def risAt (xs : List Int) (e : Int) (i : Nat) : Bool := decide (0 ≤ xs.getD i 0 ∧ xs.getD i 0 < e ∧ (i = 0 ∨ xs.getD (i - 1) 0 < xs.getD i 0))
def rises (xs : List Int) (e : Int) : Bool := (List.range xs.length).all (risAt xs e)
theorem rises_yes {xs : List Int} {e : Int} (h : ∀ i, i < xs.length → risAt xs e i = true) : rises xs e = true := by
  rw [rises, List.all_eq_true]
  intro i hi
  exact h i (List.mem_range.1 hi)
theorem rises_at {xs : List Int} {e : Int} (h : rises xs e = true) (i : Nat) (hi : i < xs.length) : risAt xs e i = true := List.all_eq_true.1 h i (List.mem_range.2 hi)
theorem rises_no {xs : List Int} {e : Int} {k : Nat} (hk : k < xs.length) (h : risAt xs e k = false) : rises xs e = false := by
  cases hh : rises xs e with
  | false => rfl
  | true => rw [rises_at hh k hk] at h; cases h

set_option maxRecDepth 100000 in
set_option maxHeartbeats 800000 in
theorem areRising_calls (v : Value) (xs : List Int) (en : Int) (w : World) (h : Rd w v xs) (h0 : 0 ≤ en) (h1 : en ≤ 1048576) :
    Calls Tryz.prog 165 #[v, .int .i64 en] w fun e w' => e = .returned (.bool (rises xs en)) ∧ w = w' := by
  have R := hide h
  obtain ⟨a, cap, rfl, q1, q2, q3⟩ := h
  have hm : xs.length ≤ maxLen := by omega
  unfold maxLen at hm
  clear q1 q2 q3
  go_enter Tryz.func165, Tryz.ntmps165
  go_wp2
  go_loop [5, 10] (fun vl vi => ∃ (k : Nat) (l : Int), k ≤ xs.length ∧ vi = .int .i64 k ∧ vl = .int .i64 l ∧ 0 ≤ l ∧ l ≤ 1048576 ∧ (k = 0 → l = 0) ∧ (0 < k → l = xs.getD (k - 1) 0 + 1) ∧ ∀ i, i < k → risAt xs en i = true) (fun _ vi => xs.length - (intOf vi).toNat)
  case atStart => exact ⟨0, 0, Nat.zero_le _, rfl, rfl, by omega, by omega, fun _ => rfl, fun h => by omega, fun i hi => by omega⟩
  case round =>
    obtain ⟨k, l, hk, rfl, rfl, hl0, hl1, hz, hp, hall⟩ := hrel
    have A := hide hall
    have HZ := hide hz
    have HP := hide hp
    clear hall hz hp
    by_cases hlt : k < xs.length
    · have hlt' : (k : Int) < (xs.length : Int) := by omega
      obtain ⟨b, off, rfl, hc, _⟩ := R.out.at k hlt
      obtain ⟨x, hx⟩ : ∃ x, x = xs.getD k 0 := ⟨_, rfl⟩
      rw [← hx] at hc
      have X := hide hx
      clear hx
      have key : risAt xs en k = decide (l ≤ x ∧ x < en) := by
        unfold risAt
        rw [← X.out]
        congr 1
        by_cases e : k = 0
        · have := HZ.out e
          subst this
          simp [e]
        · have := HP.out (by omega)
          have h' := A.out (k - 1) (by omega)
          unfold risAt at h'
          simp only [decide_eq_true_eq] at h'
          apply propext
          constructor
          · rintro ⟨a1, a2, a3⟩
            exact ⟨by omega, a2⟩
          · rintro ⟨a1, a2⟩
            exact ⟨by omega, a2, .inr (by omega)⟩
      have KEY := hide key
      clear key
      by_cases c1 : l ≤ x
      · have c1' : ¬ x < l := by omega
        by_cases c2 : x < en
        · have c2' : ¬ en ≤ x := by omega
          go_wp2
          go_round
          case rel =>
            refine ⟨k + 1, x + 1, by omega, by go_num, by go_num, by omega, by omega, fun h => by omega, fun _ => by rw [X.out]; simp, fun i hi => ?_⟩
            by_cases e : i = k
            · subst e; rw [KEY.out]; exact decide_eq_true ⟨c1, c2⟩
            · exact A.out i (by omega)
          case measure => simp [intOf]; omega
        · have c2' : en ≤ x := by omega
          go_wp2
          go_ret
          exact ⟨ret_bool (rises_no hlt (by rw [KEY.out]; exact decide_eq_false (fun h => by omega))).symm, rfl⟩
      · have c1' : x < l := by omega
        go_wp2
        go_ret
        exact ⟨ret_bool (rises_no hlt (by rw [KEY.out]; exact decide_eq_false (fun h => by omega))).symm, rfl⟩
    · obtain rfl : k = xs.length := by omega
      go_wp2
      go_ret
      exact ⟨ret_bool (rises_yes A.out).symm, rfl⟩


/-- These may be kept: they rise, and something is held at each. -/
def kpOk (H : List ByteArray) (ks : List Int) : Prop := (∀ i, i < ks.length → 0 ≤ ks.getD i 0 ∧ ks.getD i 0 < (H.length : Int) ∧ (i = 0 ∨ ks.getD (i - 1) 0 < ks.getD i 0)) ∧ ∀ i, i < ks.length → 0 < (H.getD (ks.getD i 0).toNat ⟨#[]⟩).size
theorem rises_iff (xs : List Int) (e : Int) : rises xs e = true ↔ ∀ i, i < xs.length → 0 ≤ xs.getD i 0 ∧ xs.getD i 0 < e ∧ (i = 0 ∨ xs.getD (i - 1) 0 < xs.getD i 0) := by
  constructor
  · intro h i hi
    have := rises_at h i hi
    unfold risAt at this
    exact of_decide_eq_true this
  · intro h
    exact rises_yes fun i hi => decide_eq_true (h i hi)
theorem mem_hpl_at (H : List ByteArray) (x : Int) : x ∈ hpl H H.length ↔ 0 ≤ x ∧ x < (H.length : Int) ∧ 0 < (H.getD x.toNat ⟨#[]⟩).size := by
  rw [hpl_mem]
  constructor
  · rintro ⟨i, rfl, h1, h2⟩
    exact ⟨by omega, by omega, by simpa using h2⟩
  · rintro ⟨h1, h2, h3⟩
    exact ⟨x.toNat, by omega, by omega, h3⟩

set_option maxRecDepth 100000 in
set_option maxHeartbeats 400000 in
theorem isHeld_calls (k : Nat) (g : Nat) (h : Value) (H : List ByteArray) (y : Bool) (w : World) (hc : w.cell? ⟨g, 1, none⟩ = some h) (hh : RdT w h H) (hk : k < H.length) (hy : y = true ↔ 0 < (H.getD k ⟨#[]⟩).size) :
    Calls Tryz.prog 164 #[.int .i64 (k : Int), .pointer (some ⟨g, 0, none⟩)] w fun e w' => e = .returned (.bool y) ∧ w = w' := by
  have R := hide hh
  obtain ⟨a, cap, rfl, mh, _⟩ := hh.sl
  obtain ⟨b, off, rfl, hc1, _⟩ := R.out.cell k hk
  have HY := hide hy
  have hk' : (k : Int) < (H.length : Int) := by omega
  clear hh hy
  generalize H.getD k ⟨#[]⟩ = z at hc1 HY
  by_cases hz : z.size = 0
  · have hzz := size_zero hz
    subst hzz
    obtain rfl : y = false := by
      cases y with
      | false => rfl
      | true => exact absurd (HY.out.1 rfl) (by decide)
    clear hz
    go_enter Tryz.func164, Tryz.ntmps164
    go_wp2
    go_ret
    exact ⟨rfl, rfl⟩
  · obtain ⟨zz1, zz2⟩ := toList_ne (z := z) (fun e => hz (by rw [e]; rfl))
    obtain rfl : y = true := HY.out.2 (by omega)
    clear hz
    go_enter Tryz.func164, Tryz.ntmps164
    go_wp2
    go_ret
    exact ⟨rfl, rfl⟩

set_option maxRecDepth 100000 in
set_option maxHeartbeats 800000 in
theorem allHeld_calls (v : Value) (ks : List Int) (g : Nat) (h : Value) (H : List ByteArray) (y : Bool) (w : World) (hv : Rd w v ks) (hc : w.cell? ⟨g, 1, none⟩ = some h) (hh : RdT w h H) (hr : ∀ i, i < ks.length → 0 ≤ ks.getD i 0 ∧ ks.getD i 0 < (H.length : Int)) (hy : y = true ↔ ∀ i, i < ks.length → 0 < (H.getD (ks.getD i 0).toNat ⟨#[]⟩).size) :
    Calls Tryz.prog 113 #[v, .func (.func 164) #[] #[.pointer (some ⟨g, 0, none⟩)]] w fun e w' => e = .returned (.bool y) ∧ w = w' := by
  have R := hide hv
  have HH := hide hh
  have HR := hide hr
  have HY := hide hy
  have HC := hide hc
  obtain ⟨a, cap, rfl, mh, _⟩ := hv.sl
  clear hv hh hr hy hc
  go_enter Tryz.func113, Tryz.ntmps113
  go_wp2
  go_loop [9] (fun vi => ∃ k : Nat, k ≤ ks.length ∧ vi = .int .i64 k ∧ ∀ i, i < k → 0 < (H.getD (ks.getD i 0).toNat ⟨#[]⟩).size) (fun vi => ks.length - (intOf vi).toNat)
  case atStart => exact ⟨0, Nat.zero_le _, rfl, fun i hi => by omega⟩
  case round =>
    obtain ⟨k, hk, rfl, hall⟩ := hrel
    have A := hide hall
    clear hall
    by_cases hlt : k < ks.length
    · have hlt' : (k : Int) < (ks.length : Int) := by omega
      obtain ⟨b, off, rfl, hc1, _⟩ := R.out.at k hlt
      obtain ⟨hx0, hx1⟩ := HR.out k hlt
      have X : Hid ((ks.getD k 0).toNat = (ks.getD k 0).toNat) := rfl
      obtain ⟨x, hx⟩ : ∃ x : Nat, ks.getD k 0 = (x : Int) := ⟨(ks.getD k 0).toNat, by omega⟩
      rw [hx] at hc1 hx1
      have HX : Hid ((ks.getD k 0).toNat = x) := by show _ = _; rw [hx]; simp
      clear hx hx0 X
      obtain ⟨q, hq⟩ : ∃ q : Bool, q = true ↔ 0 < (H.getD x ⟨#[]⟩).size := ⟨decide (0 < (H.getD x ⟨#[]⟩).size), by simp⟩
      have HQ := hide hq
      have CC : Hid (Calls Tryz.prog 164 #[.int .i64 (x : Int), .pointer (some ⟨g, 0, none⟩)] w fun e w' => e = .returned (.bool q) ∧ w = w') := isHeld_calls x g h H q w HC.out HH.out (by omega) hq
      clear hq hx1
      cases q with
      | true =>
        go_wp2_with (go_at_call 164; refine CC.out.mono ?_; rintro e w' ⟨rfl, rfl⟩)
        go_round
        case rel =>
          refine ⟨k + 1, by omega, by go_num, fun i hi => ?_⟩
          by_cases e : i = k
          · subst e; rw [HX.out]; exact HQ.out.1 (by simp)
          · exact A.out i (by omega)
        case measure => simp [intOf]; omega
      | false =>
        go_wp2_with (go_at_call 164; refine CC.out.mono ?_; rintro e w' ⟨rfl, rfl⟩)
        go_ret
        refine ⟨ret_bool ?_, rfl⟩
        cases y with
        | false => rfl
        | true =>
          have := HY.out.1 (by simp) k hlt
          rw [HX.out] at this
          have := HQ.out.2 this
          simp at this
    · obtain rfl : k = ks.length := by omega
      go_wp2
      go_ret
      exact ⟨ret_bool (HY.out.2 A.out).symm, rfl⟩

set_option maxRecDepth 100000 in
set_option maxHeartbeats 400000 in
theorem l1Has_calls (v : Value) (xs : List Int) (n : Int) (y : Bool) (w : World) (h : Rd w v xs) (hy : y = true ↔ n ∈ xs) :
    Calls Tryz.prog 111 #[v, .int .i64 n] w fun e w' => e = .returned (.bool y) ∧ w = w' := by
  have R := hide h
  have HY := hide hy
  obtain ⟨a, cap, rfl, mh, _⟩ := h.sl
  clear h hy
  go_enter Tryz.func111, Tryz.ntmps111
  go_wp2
  go_loop [9] (fun vi => ∃ k : Nat, k ≤ xs.length ∧ vi = .int .i64 k ∧ ∀ i, i < k → ¬ xs.getD i 0 = n) (fun vi => xs.length - (intOf vi).toNat)
  case atStart => exact ⟨0, Nat.zero_le _, rfl, fun i hi => by omega⟩
  case round =>
    obtain ⟨k, hk, rfl, hall⟩ := hrel
    have A := hide hall
    clear hall
    by_cases hlt : k < xs.length
    · have hlt' : (k : Int) < (xs.length : Int) := by omega
      obtain ⟨b, off, rfl, hc1, _⟩ := R.out.at k hlt
      have M : Hid (xs.getD k 0 ∈ xs) := by
        show _ ∈ _
        rw [List.getD_eq_getElem?_getD, List.getElem?_eq_getElem hlt]
        exact List.getElem_mem hlt
      obtain ⟨x, hx⟩ : ∃ x, x = xs.getD k 0 := ⟨_, rfl⟩
      rw [← hx] at hc1 M
      have HX := hide hx
      clear hx
      by_cases hxn : x = n
      · subst hxn
        go_wp2
        go_ret
        exact ⟨ret_bool (HY.out.2 M.out).symm, rfl⟩
      · have hxb : (x == n) = false := by simpa using hxn
        go_wp2
        go_round
        case rel =>
          refine ⟨k + 1, by omega, by go_num, fun i hi => ?_⟩
          by_cases e : i = k
          · subst e; rw [← HX.out]; exact hxn
          · exact A.out i (by omega)
        case measure => simp [intOf]; omega
    · obtain rfl : k = xs.length := by omega
      go_wp2
      go_ret
      refine ⟨ret_bool ?_, rfl⟩
      cases y with
      | false => rfl
      | true =>
        obtain ⟨i, hi, he⟩ := List.mem_iff_getElem.1 (HY.out.1 rfl)
        exact absurd (by rw [List.getD_eq_getElem?_getD, List.getElem?_eq_getElem hi]; exact he) (A.out i hi)
end Go.Proofs.YtbgadbokejaomaaGreatDoor

namespace Go.Proofs.YtbgadbokejaomaaGreatDoor
open Go.RowKit
set_option linter.unusedVariables false

/-- The place i is as it should be. -/
def kpAt (H : List ByteArray) (ks : List Int) (i : Nat) : Prop := ks.getD i 0 ∈ hpl H H.length ∧ (i = 0 ∨ ks.getD (i - 1) 0 < ks.getD i 0)
theorem kpAt_all {H : List ByteArray} {ks : List Int} : kpOk H ks ↔ ∀ i, i < ks.length → kpAt H ks i := by
  unfold kpOk kpAt
  constructor
  · rintro ⟨h1, h2⟩ i hi
    obtain ⟨a, b, c⟩ := h1 i hi
    exact ⟨(mem_hpl_at H _).2 ⟨a, b, h2 i hi⟩, c⟩
  · intro h
    refine ⟨fun i hi => ?_, fun i hi => ?_⟩
    · obtain ⟨a, c⟩ := h i hi
      obtain ⟨b1, b2, b3⟩ := (mem_hpl_at H _).1 a
      exact ⟨b1, b2, c⟩
    · exact ((mem_hpl_at H _).1 (h i hi).1).2.2

set_option maxRecDepth 100000 in
set_option maxHeartbeats 1600000 in
theorem l7Kept_calls (p h b v : Value) (H : List ByteArray) (ks : List Int) (g : Bool) (w : World) (hh : RdT w h H) (hv : Rd w v ks) (hn : H.length ≤ 24) (hg : g = true ↔ kpOk H ks) :
    Calls Tryz.prog 134 #[.agg #[p, h, b], v] w fun e w' => e = .returned (.bool g) ∧ Below w.heap.size w w' := by
  have RH := hide hh
  have RV := hide hv
  have HG : Hid (g = true ↔ ∀ i, i < ks.length → kpAt H ks i) := hg.trans kpAt_all
  obtain ⟨a, cap, rfl, mv, _⟩ := hv.sl
  have A0 := hide ((Hand.start w).box #[p, h, b] 26)
  clear hh hv hg
  go_enter Tryz.func134, Tryz.ntmps134
  go_wp2_with fail
  refine (l7Held_calls p h b H _ (RH.out.below A0.out.below) hn).mono ?_
  rintro e w1 ⟨vh, rfl, o, q⟩
  obtain ⟨ah, ch, rfl⟩ := row_slice o
  have B1 := hide (A0.out.step q).below
  have O1 := hide o.rd
  clear q o A0
  go_wp2
  go_loop [6, 7, 12] (fun _ _ vi => ∃ k : Nat, k ≤ ks.length ∧ vi = .int .i64 k ∧ ∀ i, i < k → kpAt H ks i) (fun _ _ vi => ks.length - (intOf vi).toNat)
  case atStart => exact ⟨0, Nat.zero_le _, rfl, fun i hi => by omega⟩
  case round =>
    obtain ⟨k, hk, rfl, hall⟩ := hrel
    have AL := hide hall
    clear hall
    by_cases hlt : k < ks.length
    · have hlt' : (k : Int) < (ks.length : Int) := by omega
      have RV1 := hide (RV.out.below B1.out)
      obtain ⟨gb, off, rfl, hc1, _⟩ := RV1.out.at k hlt
      obtain ⟨x, hx⟩ : ∃ x, x = ks.getD k 0 := ⟨_, rfl⟩
      rw [← hx] at hc1
      have HX := hide hx
      obtain ⟨y, hy⟩ : ∃ y : Bool, y = true ↔ x ∈ hpl H H.length := by
        by_cases hh : x ∈ hpl H H.length
        · exact ⟨true, fun _ => hh, fun _ => rfl⟩
        · exact ⟨false, fun h => by simp at h, fun h => absurd h hh⟩
      have HY := hide hy
      have CH : Hid (Calls Tryz.prog 111 #[.slice ah (hpl H H.length).length ch, .int .i64 x] w1 fun e w' => e = .returned (.bool y) ∧ w1 = w') := l1Has_calls _ _ x y w1 O1.out hy
      clear hx hy
      cases y with
      | false =>
        have e0 : Hid (g = false) := by
          show g = false
          cases g with
          | false => rfl
          | true =>
            have := (HG.out.1 rfl k hlt).1
            rw [← HX.out] at this
            have := HY.out.2 this
            simp at this
        go_wp2_with (go_at_call 111; refine CH.out.mono ?_; rintro e w' ⟨rfl, rfl⟩)
        go_ret
        exact ⟨ret_bool e0.out.symm, B1.out⟩
      | true =>
        have XM : Hid (x ∈ hpl H H.length) := HY.out.1 rfl
        by_cases hk0 : k = 0
        · subst hk0
          have hc1' : w1.cell? ⟨gb, off, none⟩ = some (.int .i64 x) := by simpa using hc1
          go_wp2_with (go_at_call 111; refine CH.out.mono ?_; rintro e w' ⟨rfl, rfl⟩)
          go_round
          case rel =>
            refine ⟨1, by omega, by go_num, fun i hi => ?_⟩
            obtain rfl : i = 0 := by omega
            exact ⟨by rw [← HX.out]; exact XM.out, .inl rfl⟩
          case measure => simp [intOf]; omega
        · have hk0' : (0 : Int) < (k : Int) := by omega
          obtain ⟨gb', off', e', hc2, _⟩ := RV1.out.at (k - 1) (by omega)
          cases e'
          have t1 : ((k : Int) - 1).toNat = k - 1 := by omega
          have t2 : (0 : Int) ≤ (k : Int) - 1 := by omega
          have t3 : (k : Int) - 1 < (ks.length : Int) := by omega
          obtain ⟨u, hu⟩ : ∃ u, u = ks.getD (k - 1) 0 := ⟨_, rfl⟩
          rw [← hu] at hc2
          have HU := hide hu
          clear hu
          by_cases hux : u < x
          · have hux' : ¬ x ≤ u := by omega
            go_wp2_with (go_at_call 111; refine CH.out.mono ?_; rintro e w' ⟨rfl, rfl⟩)
            go_round
            case rel =>
              refine ⟨k + 1, by omega, by go_num, fun i hi => ?_⟩
              by_cases e : i = k
              · subst e; exact ⟨by rw [← HX.out]; exact XM.out, .inr (by rw [← HX.out, ← HU.out]; exact hux)⟩
              · exact AL.out i (by omega)
            case measure => simp [intOf]; omega
          · have hux' : x ≤ u := by omega
            have e0 : Hid (g = false) := by
              show g = false
              cases g with
              | false => rfl
              | true =>
                have := (HG.out.1 rfl k hlt).2
                rw [← HX.out, ← HU.out] at this
                omega
            go_wp2_with (go_at_call 111; refine CH.out.mono ?_; rintro e w' ⟨rfl, rfl⟩)
            go_ret
            exact ⟨ret_bool e0.out.symm, B1.out⟩
    · obtain rfl : k = ks.length := by omega
      go_wp2
      go_ret
      exact ⟨ret_bool (HG.out.2 AL.out).symm, B1.out⟩
end Go.Proofs.YtbgadbokejaomaaGreatDoor

/-
  Drawn recipes of chapter 9: what DrawRebuildText answers. The contract says what it asks. What is saved by keeping chunks once each: the program's SavedBy and its model's, call by call. No condition.
-/
import Derived.Test.YthmijjcddjlebaaDedupB15
import Derived.Test.YthmijjcddjlebaaDedupB19
import Derived.Test.YthmijjcddjlebaaDedupB18
import Derived.Test.YthmijjcddjlebaaDedupB4
namespace Go.Proofs.Ythmijjcddjlebaa
open Go.RowKit
set_option linter.unusedVariables false

theorem own_putT {w : World} {lo g k cap n : Nat} {cs : List ByteArray} (h : OwnT w lo (.slice (some ⟨g, 0, none⟩) k cap) cs) (hn : n < cs.length) :
    w.cell? ⟨g, n, none⟩ = some (.string (cs.getD n ⟨#[]⟩)) ∧ w.frozen? ⟨g, n, none⟩ = false ∧ ∀ y : ByteArray, OwnT (w.setCell ⟨g, n, none⟩ (.string y)) lo (.slice (some ⟨g, 0, none⟩) k cap) (cs.set n y) := by
  obtain rfl : k = cs.length := by
    rcases h.2 with ⟨e, _⟩ | ⟨g', cap', cur, e, _⟩
    · simp at e
    · simp at e; exact e.2.1
  refine ⟨?_, World.ownsRow.frozenAt h n, fun y => ?_⟩
  · rw [World.ownsRow.cellAt h n (by omega), List.getElem?_map, List.getElem?_eq_getElem hn, List.getD_eq_getElem?_getD, List.getElem?_eq_getElem hn]
    rfl
  · have h1 := (World.ownsRow.stored h n (.string y)).1
    unfold OwnT
    rw [List.length_set]
    rw [← List.map_set] at h1
    exact h1
theorem res_rcpN {fn : Func} {x u : Tmp} (hf : fn.results = #[.cell x 27, .tmp u]) (tmps : Array Value) (w : World) (g : Nat) (p h : Value) (fr : Nat × Nat) (hp : tmps.getD x undef = .pointer (some ⟨g, 0, none⟩))
    (hg : w.heap[g]? = some (.cells #[p, h] 27 fr)) : (results fn tmps).run Try.prog w = .ok (.tuple #[.agg #[p, h], tmps.getD u undef]) w := res_rcp2 hf tmps w g p h fr hp hg
/-- What is held of a drawn recipe. -/
structure Rcd (w : World) (g5 lo : Nat) (vc vu : Value) (C : List ByteArray) (U : List (List Int)) : Prop where
  box : Boxed2 w g5 27 vc vu
  row : OwnT w lo vc C
  grid : ∃ vs, Grid w lo vu vs U
  sz : ∀ u ∈ C, u.size ≤ maxLen
theorem Rcd.below {w w' : World} {g5 lo : Nat} {vc vu : Value} {C : List ByteArray} {U : List (List Int)} (h : Rcd w g5 lo vc vu C U) (hb : Below w.heap.size w w') : Rcd w' g5 lo vc vu C U := by
  obtain ⟨vs, hg⟩ := h.grid
  exact ⟨boxed2_below h.box hb, rowsBelow h.row hb, ⟨vs, hg.touch (Touch.of_below (S := fun _ => False) hb) (fun _ _ e => e) (fun _ _ _ _ e => e)⟩, h.sz⟩
theorem Rcd.cur {w w' : World} {g5 lo g : Nat} {vc vu : Value} {C : List ByteArray} {U : List (List Int)} (h : Rcd w g5 lo vc vu C U) (hg : w.grownBy w' (some g)) (hl : g < lo) (h5 : g ≠ g5) : Rcd w' g5 lo vc vu C U := by
  obtain ⟨vs, hgr⟩ := h.grid
  have T : Touch (fun k => k = g) w w' := Touch.grown hg (fun k hk => by simpa using hk.symm)
  refine ⟨(hg.block g5 (Array.getElem?_eq_some_iff.1 h.box).1 (by simpa using fun e => h5 e.symm)).trans h.box, ownsRow_touch h.row T (fun k hk e => by have := (row_block h.row hk).1; omega), ⟨vs, hgr.touch T (fun k hk e => by have := (row_block hgr.head hk).1; omega) (fun i k hi hk e => by have := (row_block (hgr.rows i hi) hk).1; omega)⟩, h.sz⟩
theorem Rcd.put {w : World} {g5 lo b cap n : Nat} {vu : Value} {C : List ByteArray} {U : List (List Int)} {t : ByteArray} (h : Rcd w g5 lo (.slice (some ⟨b, 0, none⟩) C.length cap) vu C U) (hn : n < C.length) (ht : t.size ≤ maxLen) : Rcd (w.setCell ⟨b, n, none⟩ (.string t)) g5 lo (.slice (some ⟨b, 0, none⟩) C.length cap) vu (C.set n t) U := by
  obtain ⟨vs, hgr⟩ := h.grid
  have T : Touch (fun k => k = b) w (w.setCell ⟨b, n, none⟩ (.string t)) := Touch.setCell _ _ _ _ rfl
  refine ⟨boxed2_far h.box (fun e => row_box2 h.row h.box (by decide) (g := b) rfl e.symm), (own_putT h.row hn).2.2 t, ⟨vs, hgr.touch T (fun k hk e => rows_unlike h.row hgr.head (by decide) (g := b) (g' := k) rfl hk e.symm) (fun i k hi hk e => rows_unlike h.row (hgr.rows i hi) (by decide) (g := b) (g' := k) rfl hk e.symm)⟩, fun u hu => ?_⟩
  rcases List.mem_or_eq_of_mem_set hu with h1 | h1
  · exact h.sz u h1
  · rw [h1]; exact ht

set_option linter.unusedSimpArgs false in
set_option maxRecDepth 100000 in
set_option maxHeartbeats 6400000 in
theorem drawRebuildText_calls (cv : Value) (w : World) (h : RdB w cv) :
    Calls Try.prog 21 #[cv] w fun e w' => ∃ vc vu C U, ∃ k : Nat, e = .returned (.tuple #[.agg #[vc, vu], .int .i64 k]) ∧ RdT w' vc C ∧ RdM w' vu U ∧ C.length ≤ 2400 ∧ k ≤ 5000 ∧ Below w.heap.size w w' := by
  have R := hide h
  obtain ⟨a0, cap0, zs, rfl, _, _, _⟩ := h
  have bA := below_box w (.cells #[.slice none 0 0, .slice none 0 0] 27)
  have xA : Boxed2 (w.alloc (.cells #[.slice none 0 0, .slice none 0 0] 27)) w.heap.size 27 (.slice none 0 0) (.slice none 0 0) := boxed2_new w _ _ _
  have cA := cur_new (R.out.below bA)
  rw [World.size_alloc] at cA
  have bB := below_box (w.alloc (.cells #[.slice none 0 0, .slice none 0 0] 27)) (.cells #[.slice a0 zs.length cap0, .int .i64 0, .int .u64 0] 77)
  obtain ⟨w1, hw1⟩ : ∃ u, u = (w.alloc (.cells #[.slice none 0 0, .slice none 0 0] 27)).alloc (.cells #[.slice a0 zs.length cap0, .int .i64 0, .int .u64 0] 77) := ⟨_, rfl⟩
  rw [← hw1] at cA bB
  have XR := hide (boxed2_below xA bB)
  have CU := hide cA
  have BW := hide (bA.trans (bB.mono bA.size))
  have W1 : Hid ((w.alloc (.cells #[.slice none 0 0, .slice none 0 0] 27)).alloc (.cells #[.slice a0 zs.length cap0, .int .i64 0, .int .u64 0] 77) = w1) := hw1.symm
  clear bA xA cA bB hw1
  go_enter Try.func21, Try.ntmps21
  go_upto_region 2 with fail
  rw [W1.out]
  go_wp2_with fail
  refine (drawDedupAll_calls _ _ (R.out.below BW.out)).mono ?_
  rintro e w2 ⟨v2, xs, rfl, o2, hx9, sx, b2⟩
  obtain ⟨a2, c2, rfl⟩ := row_slice9 o2
  have SX : Hid (∀ s ∈ xs, s.size ≤ maxLen) := fun s hs => by
    obtain ⟨i, hi, e⟩ := List.getElem_of_mem hs
    have := sx.2 i hi
    rw [List.getD_eq_getElem?_getD, List.getElem?_eq_getElem hi, Option.getD_some, e] at this
    unfold maxLen
    omega
  have R2 := hide (OwnT.rd o2 SX.out)
  have C2 := hide (CurS.step9 CU.out b2)
  have X2 := hide (boxed2_below XR.out b2)
  have B2 := hide (BW.out.trans (b2.mono BW.out.size))
  clear o2 b2 CU XR BW sx
  go_wp2_with fail
  refine (sDedupOwn_calls _ xs _ R2.out).mono ?_
  obtain ⟨szc, CL, UL⟩ := ded_small xs
  generalize (dedR xs).1 = C at szc CL
  generalize (dedR xs).2.1 = U at UL
  generalize (dedR xs).2.2 = z
  rintro e w3 ⟨vc, vu, rfl, rc, ru, b3, oc, gc⟩
  obtain ⟨ac, cc, rfl⟩ := row_slice9 oc
  obtain ⟨au, cu, rfl⟩ : ∃ a c, vu = .slice a U.length c := by obtain ⟨vs, hg⟩ := gc; exact row_slice9 hg.head
  have l2 : w.heap.size + 1 < w2.heap.size := curS_lt C2.out
  obtain ⟨w4, hw4⟩ : ∃ u, u = w3.alloc (.cells #[.slice ac C.length cc, .slice au U.length cu] 27) := ⟨_, rfl⟩
  have b4 : Below w3.heap.size w3 w4 := by rw [hw4]; exact below_box _ _
  obtain ⟨g5, hg5⟩ : ∃ u, u = w3.heap.size := ⟨_, rfl⟩
  have x5 : Boxed2 w4 g5 27 (.slice ac C.length cc) (.slice au U.length cu) := by rw [hw4, hg5]; exact boxed2_new _ _ _ _
  have rd : Rcd w4 g5 w2.heap.size (.slice ac C.length cc) (.slice au U.length cu) C U := by
    obtain ⟨vs, hg⟩ := gc
    exact ⟨x5, rowsBelow oc b4, ⟨vs, hg.touch (Touch.of_below (S := fun _ => False) b4) (fun _ _ e => e) (fun _ _ _ _ e => e)⟩, szc⟩
  have b34 := b3.trans (b4.mono b3.size)
  have W4 : Hid (w3.alloc (.cells #[.slice ac C.length cc, .slice au U.length cu] 27) = w4) := hw4.symm
  have G5 := hide hg5.symm
  have RD4 := hide rd
  have C4 := hide (CurS.step9 C2.out b34)
  have X4 := hide (boxed2_below X2.out b34)
  have B4 := hide (B2.out.trans (b34.mono B2.out.size))
  have L5 : Hid (w.heap.size + 1 ≠ g5 ∧ w.heap.size ≠ g5) := by show _ ∧ _; have := b3.size; omega
  have L2 := hide l2
  clear rc ru b3 oc gc b4 b34 hw4 hg5 x5 rd R2 C2 X2 B2 l2 szc SX
  go_upto_region 3 with fail
  rw [W4.out, G5.out]
  have q0 := RD4.out.box.c0
  have q1 := RD4.out.box.c1
  go_wp2_with fail
  refine (pick_calls (w.heap.size + 1) _ 0 (U.length + 1) _ C4.out (by omega) (by omega) (by omega)).mono ?_
  rintro e w5 ⟨r5, hr5, rfl, hc5, hg5c⟩
  have RD5 := hide (RD4.out.cur hg5c L2.out L5.out.1)
  have C5 := hide hc5
  have X5 : Hid (Boxed2 w5 w.heap.size 27 (.slice none 0 0) (.slice none 0 0)) := (hg5c.block w.heap.size (Array.getElem?_eq_some_iff.1 X4.out).1 (by simp)).trans X4.out
  have B5 := hide (B4.out.grown hg5c B4.out.size (fun k hk => by cases hk; omega))
  clear hc5 hg5c RD4 C4 X4 B4 q0 q1
  have q0 := RD5.out.box.c0
  have q1 := RD5.out.box.c1
  by_cases hC0 : 0 < C.length
  case neg =>
    have hC0' : ¬ (0 : Int) < (C.length : Int) := by omega
    have RDF := hide RD5.out
    have XF := hide X5.out
    have BF := hide B5.out
    obtain ⟨wF, rfl⟩ : ∃ u, u = w5 := ⟨_, rfl⟩
    clear RD5 X5 B5
    have z0 := XF.out.c0
    have z1 := XF.out.c1
    have f0 := XF.out.f0 0
    have f1 := XF.out.f0 1
    have q8 := RDF.out.box.c0
    have q9 := RDF.out.box.c1
    have YF := hide (boxed2_set1 (boxed2_set0 XF.out (.slice ac C.length cc)) (.slice au U.length cu))
    go_wp2
    have t1 : Touch (fun k => k = w.heap.size) wF ((wF.setCell ⟨w.heap.size, 0, none⟩ (.slice ac C.length cc)).setCell ⟨w.heap.size, 1, none⟩ (.slice au U.length cu)) := (Touch.setCell (S := fun k => k = w.heap.size) _ _ _ _ rfl).trans (Touch.setCell (S := fun k => k = w.heap.size) _ _ _ _ rfl)
    obtain ⟨vs, hgr⟩ := RDF.out.grid
    have lo2 := L2.out
    refine bodyPost_ret (res_rcpN rfl _ _ w.heap.size _ _ (0, 0) rfl YF.out) rfl ⟨_, _, C, U, r5, rfl, OwnT.rd (ownsRow_touch RDF.out.row t1 (fun k hk e => by have := (row_block RDF.out.row hk).1; omega)) RDF.out.sz, (hgr.touch t1 (fun k hk e => by have := (row_block hgr.head hk).1; omega) (fun i k hi hk e => by have := (row_block (hgr.rows i hi) hk).1; omega)).rd, by first | exact CL | (rw [List.length_set]; exact CL), by omega, (BF.out.setCell (Nat.le_refl _) _).setCell (Nat.le_refl _) _⟩
  have hC0' : (0 : Int) < (C.length : Int) := by omega
  go_wp2_with fail
  refine (one_calls (w.heap.size + 1) _ 2 6 _ C5.out (by omega) (by omega) (by omega)).mono ?_
  rintro e w6 ⟨b6, rfl, hc6, hg6⟩
  have RD6 := hide (RD5.out.cur hg6 L2.out L5.out.1)
  have C6 := hide hc6
  have X6 : Hid (Boxed2 w6 w.heap.size 27 (.slice none 0 0) (.slice none 0 0)) := (hg6.block w.heap.size (Array.getElem?_eq_some_iff.1 X5.out).1 (by simp)).trans X5.out
  have B6 := hide (B5.out.grown hg6 B5.out.size (fun k hk => by cases hk; omega))
  clear hc6 hg6 RD5 C5 X5 B5 q0 q1
  have q0 := RD6.out.box.c0
  have q1 := RD6.out.box.c1
  cases b6 with
  | false =>
    have RDF := hide RD6.out
    have XF := hide X6.out
    have BF := hide B6.out
    obtain ⟨wF, rfl⟩ : ∃ u, u = w6 := ⟨_, rfl⟩
    clear RD6 X6 B6
    have z0 := XF.out.c0
    have z1 := XF.out.c1
    have f0 := XF.out.f0 0
    have f1 := XF.out.f0 1
    have q8 := RDF.out.box.c0
    have q9 := RDF.out.box.c1
    have YF := hide (boxed2_set1 (boxed2_set0 XF.out (.slice ac C.length cc)) (.slice au U.length cu))
    go_wp2
    have t1 : Touch (fun k => k = w.heap.size) wF ((wF.setCell ⟨w.heap.size, 0, none⟩ (.slice ac C.length cc)).setCell ⟨w.heap.size, 1, none⟩ (.slice au U.length cu)) := (Touch.setCell (S := fun k => k = w.heap.size) _ _ _ _ rfl).trans (Touch.setCell (S := fun k => k = w.heap.size) _ _ _ _ rfl)
    obtain ⟨vs, hgr⟩ := RDF.out.grid
    have lo2 := L2.out
    refine bodyPost_ret (res_rcpN rfl _ _ w.heap.size _ _ (0, 0) rfl YF.out) rfl ⟨_, _, C, U, r5, rfl, OwnT.rd (ownsRow_touch RDF.out.row t1 (fun k hk e => by have := (row_block RDF.out.row hk).1; omega)) RDF.out.sz, (hgr.touch t1 (fun k hk e => by have := (row_block hgr.head hk).1; omega) (fun i k hi hk e => by have := (row_block (hgr.rows i hi) hk).1; omega)).rd, by first | exact CL | (rw [List.length_set]; exact CL), by omega, (BF.out.setCell (Nat.le_refl _) _).setCell (Nat.le_refl _) _⟩
  | true =>
    obtain ⟨bc, ebc, _⟩ := own_first RD6.out.row hC0
    subst ebc
    go_upto_region 5 with fail
    clear q0 q1
    refine wp_region_noPanic ?_
    refine wp_region_held_drew (S := fun w' => w'.cell? ⟨g5, 0, none⟩ = some (.slice (some ⟨bc, 0, none⟩) C.length cc) ∧ w'.cell? ⟨g5, 1, none⟩ = some (.slice au U.length cu)) (by kernel_rfl) (⟨(RD6.out.below (Below.refl _ _).drew).box.c0, (RD6.out.below (Below.refl _ _).drew).box.c1⟩) (fun hHeld => ?_)
    have RDV := hide (RD6.out.below (Below.refl _ _).drew)
    have CV := hide (CurS.step9 C6.out (Below.refl _ _).drew)
    have XV := hide (boxed2_below X6.out (Below.refl _ _).drew)
    have BV := hide (B6.out.trans ((Below.refl w6.heap.size w6).drew.mono B6.out.size))
    clear RD6 C6 X6 B6
    generalize World.drew _ = V0 at *
    refine wpAnyH_take (i := 0) (v := ?v1) rfl (by kernel_rfl) (by kernel_rfl) (by kernel_rfl) (fun _ _ _ h => h) (Or.inl ⟨by rfl, ?hy1⟩) (by assumption) ?rest1
    case hy1 => (intro w' hSw; dsimp only [List.getElem_toArray, List.getElem_cons_zero, List.getElem_cons_succ] at hSw ⊢; go_simp; try (with_reducible rfl))
    try simp only [Act.put, List.getElem_toArray, List.getElem_cons_zero, List.getElem_cons_succ, List.setIfInBounds_toArray, List.set_cons_zero, List.set_cons_succ]
    refine wpAnyH_take (i := 1) (v := ?v2) rfl (by kernel_rfl) (by kernel_rfl) (by kernel_rfl) (fun _ _ _ h => h) (Or.inl ⟨by rfl, ?hy2⟩) (by assumption) ?rest2
    case hy2 => (intro w' hSw; dsimp only [List.getElem_toArray, List.getElem_cons_zero, List.getElem_cons_succ] at hSw ⊢; go_simp; try (with_reducible rfl))
    try simp only [Act.put, List.getElem_toArray, List.getElem_cons_zero, List.getElem_cons_succ, List.setIfInBounds_toArray, List.set_cons_zero, List.set_cons_succ]
    refine wpAnyH_take (i := 2) (v := ?v3) rfl (by kernel_rfl) (by kernel_rfl) (by kernel_rfl) (fun _ _ _ h => h) (Or.inl ⟨by rfl, ?hy3⟩) (by assumption) ?rest3
    case hy3 => (intro w' hSw; dsimp only [List.getElem_toArray, List.getElem_cons_zero, List.getElem_cons_succ] at hSw ⊢; go_simp; try (with_reducible rfl))
    try simp only [Act.put, List.getElem_toArray, List.getElem_cons_zero, List.getElem_cons_succ, List.setIfInBounds_toArray, List.set_cons_zero, List.set_cons_succ]
    refine wpAnyH_take (i := 3) (v := ?v4) rfl (by kernel_rfl) (by kernel_rfl) (by kernel_rfl) (fun _ _ _ h => h) (Or.inl ⟨by rfl, ?hy4⟩) (by assumption) ?rest4
    case hy4 => (intro w' hSw; dsimp only [List.getElem_toArray, List.getElem_cons_zero, List.getElem_cons_succ] at hSw ⊢; go_simp; try (with_reducible rfl))
    try simp only [Act.put, List.getElem_toArray, List.getElem_cons_zero, List.getElem_cons_succ, List.setIfInBounds_toArray, List.set_cons_zero, List.set_cons_succ]
    refine wpAnyH_take (i := 4) (v := ?v5) rfl (by kernel_rfl) (by kernel_rfl) (by kernel_rfl) (fun _ _ _ h => h) (Or.inl ⟨by rfl, ?hy5⟩) (by assumption) ?rest5
    case hy5 => (intro w' hSw; dsimp only [List.getElem_toArray, List.getElem_cons_zero, List.getElem_cons_succ] at hSw ⊢; go_simp; try (with_reducible rfl))
    try simp only [Act.put, List.getElem_toArray, List.getElem_cons_zero, List.getElem_cons_succ, List.setIfInBounds_toArray, List.set_cons_zero, List.set_cons_succ]
    refine wpAnyH_take (i := 5) (v := ?v6) rfl (by kernel_rfl) (by kernel_rfl) (by kernel_rfl) (fun _ _ _ h => h) (Or.inl ⟨by rfl, ?hy6⟩) (by assumption) ?rest6
    case hy6 => (intro w' hSw; dsimp only [List.getElem_toArray, List.getElem_cons_zero, List.getElem_cons_succ] at hSw ⊢; go_simp; try (with_reducible rfl))
    try simp only [Act.put, List.getElem_toArray, List.getElem_cons_zero, List.getElem_cons_succ, List.setIfInBounds_toArray, List.set_cons_zero, List.set_cons_succ]
    refine wpAnyH_take (i := 7) (v := ?v7) rfl (by kernel_rfl) (by kernel_rfl) (by kernel_rfl) (fun _ _ _ h => h) (Or.inl ⟨by rfl, ?hy7⟩) (by assumption) ?rest7
    case hy7 => (intro w' hSw; dsimp only [List.getElem_toArray, List.getElem_cons_zero, List.getElem_cons_succ] at hSw ⊢; go_simp; try (with_reducible rfl))
    try simp only [Act.put, List.getElem_toArray, List.getElem_cons_zero, List.getElem_cons_succ, List.setIfInBounds_toArray, List.set_cons_zero, List.set_cons_succ]
    refine wpAnyH_ready (rs := [6, 8]) (by kernel_rfl) (by simp) ?_
    refine (AllReadyH.cons rfl (fun K hK => ?_) (AllReadyH.cons rfl (fun K hK => ?_) AllReadyH.nil))
    · dsimp only [List.getElem_toArray, List.getElem_cons_zero, List.getElem_cons_succ]
      go_simp
      refine (pick_calls (w.heap.size + 1) _ 4 C.length _ CV.out (by omega) (by omega) (by omega)).mono ?_
      rintro e' uA ⟨r7, hr7, rfl, hc7, hg7⟩
      have RD7 := hide (RDV.out.cur hg7 L2.out L5.out.1)
      have C7 := hide hc7
      have X7 : Hid (Boxed2 uA w.heap.size 27 (.slice none 0 0) (.slice none 0 0)) := (hg7.block w.heap.size (Array.getElem?_eq_some_iff.1 XV.out).1 (by simp)).trans XV.out
      have B7 := hide (BV.out.grown hg7 BV.out.size (fun k hk => by cases hk; omega))
      clear hc7 hg7 hHeld
      refine hK.out _ _ (⟨RD7.out.box.c0, RD7.out.box.c1⟩) (fun hHeld => ?_)
      clear hK K
      try simp only [Act.put, List.getElem_toArray, List.getElem_cons_zero, List.getElem_cons_succ, List.setIfInBounds_toArray, List.set_cons_zero, List.set_cons_succ]
      refine wpAnyH_ready (rs := [8]) (by kernel_rfl) (by simp) ?_
      refine (AllReadyH.cons rfl (fun K hK => ?_) AllReadyH.nil)
      dsimp only [List.getElem_toArray, List.getElem_cons_zero, List.getElem_cons_succ]
      go_simp
      have bb := below_box uA (.cells #[.string ⟨#[]⟩, .string ⟨#[111, 116, 104, 101, 114]⟩, .string ⟨#[109, 111, 114, 101, 32, 116, 104, 97, 110, 32, 116, 119, 101, 110, 116, 121, 32, 98, 121, 116, 101, 115]⟩] 9)
      have rs := rdS_build (w := uA) (l := [⟨#[]⟩, ⟨#[111, 116, 104, 101, 114]⟩, ⟨#[109, 111, 114, 101, 32, 116, 104, 97, 110, 32, 116, 119, 101, 110, 116, 121, 32, 98, 121, 116, 101, 115]⟩]) (g := w.heap.size + 1) (curS_lt C7.out)
      obtain ⟨gx, hgx⟩ : ∃ gx, gx = uA.heap.size := ⟨_, rfl⟩
      have cw := C7.out.alloc (.cells #[.string ⟨#[]⟩, .string ⟨#[111, 116, 104, 101, 114]⟩, .string ⟨#[109, 111, 114, 101, 32, 116, 104, 97, 110, 32, 116, 119, 101, 110, 116, 121, 32, 98, 121, 116, 101, 115]⟩] 9)
      have rs2 : ∀ w', (uA.alloc (.cells #[.string ⟨#[]⟩, .string ⟨#[111, 116, 104, 101, 114]⟩, .string ⟨#[109, 111, 114, 101, 32, 116, 104, 97, 110, 32, 116, 119, 101, 110, 116, 121, 32, 98, 121, 116, 101, 115]⟩] 9)).grownBy w' (some (w.heap.size + 1)) → RdS w' (.slice (some ⟨gx, 0, none⟩) 3 3) [⟨#[]⟩, ⟨#[111, 116, 104, 101, 114]⟩, ⟨#[109, 111, 114, 101, 32, 116, 104, 97, 110, 32, 116, 119, 101, 110, 116, 121, 32, 98, 121, 116, 101, 115]⟩] := by rw [hgx]; exact rs
      rw [← hgx]
      generalize uA.alloc (.cells #[.string ⟨#[]⟩, .string ⟨#[111, 116, 104, 101, 114]⟩, .string ⟨#[109, 111, 114, 101, 32, 116, 104, 97, 110, 32, 116, 119, 101, 110, 116, 121, 32, 98, 121, 116, 101, 115]⟩] 9) = uB at bb rs2 cw ⊢
      have RD8 := hide (RD7.out.below bb)
      have C8 := hide cw
      have X8 := hide (boxed2_below X7.out bb)
      have B8 := hide (B7.out.trans (bb.mono B7.out.size))
      have RS8 := hide rs2
      clear bb rs rs2 cw hgx hHeld
      refine hK.out _ _ (⟨RD8.out.box.c0, RD8.out.box.c1⟩) (fun hHeld => ?_)
      clear hK K
      try simp only [Act.put, List.getElem_toArray, List.getElem_cons_zero, List.getElem_cons_succ, List.setIfInBounds_toArray, List.set_cons_zero, List.set_cons_succ]
      have RSX := hide RS8.out
      refine wpAnyH_ready (rs := [9]) (by kernel_rfl) (by simp) ?_
      refine (AllReadyH.cons rfl (fun K hK => ?_) AllReadyH.nil)
      dsimp only [List.getElem_toArray, List.getElem_cons_zero, List.getElem_cons_succ]
      go_simp
      refine (of_calls (w.heap.size + 1) _ _ [⟨#[]⟩, ⟨#[111, 116, 104, 101, 114]⟩, ⟨#[109, 111, 114, 101, 32, 116, 104, 97, 110, 32, 116, 119, 101, 110, 116, 121, 32, 98, 121, 116, 101, 115]⟩] _ 22 _ C8.out (by omega) RSX.out (by decide) (by decide) (by decide)).mono ?_
      rintro e' uC ⟨t9, ht9, rfl, hc9, hg9⟩
      have RD9 := hide (RD8.out.cur hg9 L2.out L5.out.1)
      have X9 : Hid (Boxed2 uC w.heap.size 27 (.slice none 0 0) (.slice none 0 0)) := (hg9.block w.heap.size (Array.getElem?_eq_some_iff.1 X8.out).1 (by simp)).trans X8.out
      have B9 := hide (B8.out.grown hg9 B8.out.size (fun k hk => by cases hk; omega))
      clear hc9 hg9 hHeld RSX
      refine hK.out _ _ (⟨RD9.out.box.c0, RD9.out.box.c1⟩) (fun hHeld => ?_)
      clear hK K
      try simp only [Act.put, List.getElem_toArray, List.getElem_cons_zero, List.getElem_cons_succ, List.setIfInBounds_toArray, List.set_cons_zero, List.set_cons_succ]
      have hr7' : (r7 : Int) < (C.length : Int) := by omega
      refine wpAnyH_take (i := 10) (v := ?v8) rfl (by kernel_rfl) (by kernel_rfl) (by kernel_rfl) (fun _ _ _ h => h) (Or.inl ⟨by rfl, ?hy8⟩) (by assumption) ?rest8
      case hy8 => (intro w' hSw; dsimp only [List.getElem_toArray, List.getElem_cons_zero, List.getElem_cons_succ] at hSw ⊢; go_simp; try (with_reducible rfl))
      try simp only [Act.put, List.getElem_toArray, List.getElem_cons_zero, List.getElem_cons_succ, List.setIfInBounds_toArray, List.set_cons_zero, List.set_cons_succ]
      refine wpAnyH_ready (rs := [11]) (by kernel_rfl) (by simp) ?_
      refine (AllReadyH.cons rfl (fun K hK => ?_) AllReadyH.nil)
      obtain ⟨s1, s2, _⟩ := own_putT RD9.out.row hr7
      dsimp only [List.getElem_toArray, List.getElem_cons_zero, List.getElem_cons_succ]
      go_simp
      clear s1 s2 hHeld
      have RDF := hide (RD9.out.put (t := t9) hr7 (by unfold maxLen; omega))
      have XF := hide (boxed2_far (g := bc) (i := r7) (x := .string t9) X9.out (by have := (row_block RD9.out.row (g := bc) rfl).1; have := L2.out; omega))
      have BF := hide (B9.out.setCell (p := ⟨bc, r7, none⟩) (by have := (row_block RD9.out.row (g := bc) rfl).1; have := L2.out; show w.heap.size ≤ bc; omega) (.string t9))
      refine hK.out _ _ (⟨RDF.out.box.c0, RDF.out.box.c1⟩) (fun hHeld => ?_)
      clear hK K
      try simp only [Act.put, List.getElem_toArray, List.getElem_cons_zero, List.getElem_cons_succ, List.setIfInBounds_toArray, List.set_cons_zero, List.set_cons_succ]
      refine wpAnyH_done (by kernel_rfl) ?_ _
      refine NoPanic.normal ?_
      clear hHeld
      obtain ⟨wF, hwF⟩ : ∃ u, u = uC.setCell ⟨bc, r7, none⟩ (.string t9) := ⟨_, rfl⟩
      rw [← hwF] at RDF XF BF ⊢
      clear hwF
      have z0 := XF.out.c0
      have z1 := XF.out.c1
      have f0 := XF.out.f0 0
      have f1 := XF.out.f0 1
      have q8 := RDF.out.box.c0
      have q9 := RDF.out.box.c1
      have YF := hide (boxed2_set1 (boxed2_set0 XF.out (.slice (some ⟨bc, 0, none⟩) C.length cc)) (.slice au U.length cu))
      go_wp2
      have t1 : Touch (fun k => k = w.heap.size) wF ((wF.setCell ⟨w.heap.size, 0, none⟩ (.slice (some ⟨bc, 0, none⟩) C.length cc)).setCell ⟨w.heap.size, 1, none⟩ (.slice au U.length cu)) := (Touch.setCell (S := fun k => k = w.heap.size) _ _ _ _ rfl).trans (Touch.setCell (S := fun k => k = w.heap.size) _ _ _ _ rfl)
      obtain ⟨vs, hgr⟩ := RDF.out.grid
      have lo2 := L2.out
      refine bodyPost_ret (res_rcpN rfl _ _ w.heap.size _ _ (0, 0) rfl YF.out) rfl ⟨_, _, C.set r7 t9, U, r5, rfl, OwnT.rd (ownsRow_touch RDF.out.row t1 (fun k hk e => by have := (row_block RDF.out.row hk).1; omega)) RDF.out.sz, (hgr.touch t1 (fun k hk e => by have := (row_block hgr.head hk).1; omega) (fun i k hi hk e => by have := (row_block (hgr.rows i hi) hk).1; omega)).rd, by first | exact CL | (rw [List.length_set]; exact CL), by omega, (BF.out.setCell (Nat.le_refl _) _).setCell (Nat.le_refl _) _⟩
    · dsimp only [List.getElem_toArray, List.getElem_cons_zero, List.getElem_cons_succ]
      go_simp
      have bb := below_box V0 (.cells #[.string ⟨#[]⟩, .string ⟨#[111, 116, 104, 101, 114]⟩, .string ⟨#[109, 111, 114, 101, 32, 116, 104, 97, 110, 32, 116, 119, 101, 110, 116, 121, 32, 98, 121, 116, 101, 115]⟩] 9)
      have rs := rdS_build (w := V0) (l := [⟨#[]⟩, ⟨#[111, 116, 104, 101, 114]⟩, ⟨#[109, 111, 114, 101, 32, 116, 104, 97, 110, 32, 116, 119, 101, 110, 116, 121, 32, 98, 121, 116, 101, 115]⟩]) (g := w.heap.size + 1) (curS_lt CV.out)
      obtain ⟨gx, hgx⟩ : ∃ gx, gx = V0.heap.size := ⟨_, rfl⟩
      have cw := CV.out.alloc (.cells #[.string ⟨#[]⟩, .string ⟨#[111, 116, 104, 101, 114]⟩, .string ⟨#[109, 111, 114, 101, 32, 116, 104, 97, 110, 32, 116, 119, 101, 110, 116, 121, 32, 98, 121, 116, 101, 115]⟩] 9)
      have rs2 : ∀ w', (V0.alloc (.cells #[.string ⟨#[]⟩, .string ⟨#[111, 116, 104, 101, 114]⟩, .string ⟨#[109, 111, 114, 101, 32, 116, 104, 97, 110, 32, 116, 119, 101, 110, 116, 121, 32, 98, 121, 116, 101, 115]⟩] 9)).grownBy w' (some (w.heap.size + 1)) → RdS w' (.slice (some ⟨gx, 0, none⟩) 3 3) [⟨#[]⟩, ⟨#[111, 116, 104, 101, 114]⟩, ⟨#[109, 111, 114, 101, 32, 116, 104, 97, 110, 32, 116, 119, 101, 110, 116, 121, 32, 98, 121, 116, 101, 115]⟩] := by rw [hgx]; exact rs
      rw [← hgx]
      generalize V0.alloc (.cells #[.string ⟨#[]⟩, .string ⟨#[111, 116, 104, 101, 114]⟩, .string ⟨#[109, 111, 114, 101, 32, 116, 104, 97, 110, 32, 116, 119, 101, 110, 116, 121, 32, 98, 121, 116, 101, 115]⟩] 9) = uA at bb rs2 cw ⊢
      have RD8 := hide (RDV.out.below bb)
      have C8 := hide cw
      have X8 := hide (boxed2_below XV.out bb)
      have B8 := hide (BV.out.trans (bb.mono BV.out.size))
      have RS8 := hide rs2
      clear bb rs rs2 cw hgx hHeld
      refine hK.out _ _ (⟨RD8.out.box.c0, RD8.out.box.c1⟩) (fun hHeld => ?_)
      clear hK K
      try simp only [Act.put, List.getElem_toArray, List.getElem_cons_zero, List.getElem_cons_succ, List.setIfInBounds_toArray, List.set_cons_zero, List.set_cons_succ]
      refine wpAnyH_ready (rs := [6]) (by kernel_rfl) (by simp) ?_
      refine (AllReadyH.cons rfl (fun K hK => ?_) AllReadyH.nil)
      dsimp only [List.getElem_toArray, List.getElem_cons_zero, List.getElem_cons_succ]
      go_simp
      refine (pick_calls (w.heap.size + 1) _ 4 C.length _ C8.out (by omega) (by omega) (by omega)).mono ?_
      rintro e' uB ⟨r7, hr7, rfl, hc7, hg7⟩
      have RDP := hide (RD8.out.cur hg7 L2.out L5.out.1)
      have CP := hide hc7
      have XP : Hid (Boxed2 uB w.heap.size 27 (.slice none 0 0) (.slice none 0 0)) := (hg7.block w.heap.size (Array.getElem?_eq_some_iff.1 X8.out).1 (by simp)).trans X8.out
      have BP := hide (B8.out.grown hg7 B8.out.size (fun k hk => by cases hk; omega))
      have RSX : Hid (∀ w', uB.grownBy w' (some (w.heap.size + 1)) → RdS w' (.slice (some ⟨gx, 0, none⟩) 3 3) [⟨#[]⟩, ⟨#[111, 116, 104, 101, 114]⟩, ⟨#[109, 111, 114, 101, 32, 116, 104, 97, 110, 32, 116, 119, 101, 110, 116, 121, 32, 98, 121, 116, 101, 115]⟩]) := fun w' h' => RS8.out w' (grown_trans hg7 h')
      clear hc7 hg7 hHeld
      refine hK.out _ _ (⟨RDP.out.box.c0, RDP.out.box.c1⟩) (fun hHeld => ?_)
      clear hK K
      try simp only [Act.put, List.getElem_toArray, List.getElem_cons_zero, List.getElem_cons_succ, List.setIfInBounds_toArray, List.set_cons_zero, List.set_cons_succ]
      refine wpAnyH_ready (rs := [9]) (by kernel_rfl) (by simp) ?_
      refine (AllReadyH.cons rfl (fun K hK => ?_) AllReadyH.nil)
      dsimp only [List.getElem_toArray, List.getElem_cons_zero, List.getElem_cons_succ]
      go_simp
      refine (of_calls (w.heap.size + 1) _ _ [⟨#[]⟩, ⟨#[111, 116, 104, 101, 114]⟩, ⟨#[109, 111, 114, 101, 32, 116, 104, 97, 110, 32, 116, 119, 101, 110, 116, 121, 32, 98, 121, 116, 101, 115]⟩] _ 22 _ CP.out (by omega) RSX.out (by decide) (by decide) (by decide)).mono ?_
      rintro e' uC ⟨t9, ht9, rfl, hc9, hg9⟩
      have RD9 := hide (RDP.out.cur hg9 L2.out L5.out.1)
      have X9 : Hid (Boxed2 uC w.heap.size 27 (.slice none 0 0) (.slice none 0 0)) := (hg9.block w.heap.size (Array.getElem?_eq_some_iff.1 XP.out).1 (by simp)).trans XP.out
      have B9 := hide (BP.out.grown hg9 BP.out.size (fun k hk => by cases hk; omega))
      clear hc9 hg9 hHeld RSX
      refine hK.out _ _ (⟨RD9.out.box.c0, RD9.out.box.c1⟩) (fun hHeld => ?_)
      clear hK K
      try simp only [Act.put, List.getElem_toArray, List.getElem_cons_zero, List.getElem_cons_succ, List.setIfInBounds_toArray, List.set_cons_zero, List.set_cons_succ]
      have hr7' : (r7 : Int) < (C.length : Int) := by omega
      refine wpAnyH_take (i := 10) (v := ?v9) rfl (by kernel_rfl) (by kernel_rfl) (by kernel_rfl) (fun _ _ _ h => h) (Or.inl ⟨by rfl, ?hy9⟩) (by assumption) ?rest9
      case hy9 => (intro w' hSw; dsimp only [List.getElem_toArray, List.getElem_cons_zero, List.getElem_cons_succ] at hSw ⊢; go_simp; try (with_reducible rfl))
      try simp only [Act.put, List.getElem_toArray, List.getElem_cons_zero, List.getElem_cons_succ, List.setIfInBounds_toArray, List.set_cons_zero, List.set_cons_succ]
      refine wpAnyH_ready (rs := [11]) (by kernel_rfl) (by simp) ?_
      refine (AllReadyH.cons rfl (fun K hK => ?_) AllReadyH.nil)
      obtain ⟨s1, s2, _⟩ := own_putT RD9.out.row hr7
      dsimp only [List.getElem_toArray, List.getElem_cons_zero, List.getElem_cons_succ]
      go_simp
      clear s1 s2 hHeld
      have RDF := hide (RD9.out.put (t := t9) hr7 (by unfold maxLen; omega))
      have XF := hide (boxed2_far (g := bc) (i := r7) (x := .string t9) X9.out (by have := (row_block RD9.out.row (g := bc) rfl).1; have := L2.out; omega))
      have BF := hide (B9.out.setCell (p := ⟨bc, r7, none⟩) (by have := (row_block RD9.out.row (g := bc) rfl).1; have := L2.out; show w.heap.size ≤ bc; omega) (.string t9))
      refine hK.out _ _ (⟨RDF.out.box.c0, RDF.out.box.c1⟩) (fun hHeld => ?_)
      clear hK K
      try simp only [Act.put, List.getElem_toArray, List.getElem_cons_zero, List.getElem_cons_succ, List.setIfInBounds_toArray, List.set_cons_zero, List.set_cons_succ]
      refine wpAnyH_done (by kernel_rfl) ?_ _
      refine NoPanic.normal ?_
      clear hHeld
      obtain ⟨wF, hwF⟩ : ∃ u, u = uC.setCell ⟨bc, r7, none⟩ (.string t9) := ⟨_, rfl⟩
      rw [← hwF] at RDF XF BF ⊢
      clear hwF
      have z0 := XF.out.c0
      have z1 := XF.out.c1
      have f0 := XF.out.f0 0
      have f1 := XF.out.f0 1
      have q8 := RDF.out.box.c0
      have q9 := RDF.out.box.c1
      have YF := hide (boxed2_set1 (boxed2_set0 XF.out (.slice (some ⟨bc, 0, none⟩) C.length cc)) (.slice au U.length cu))
      go_wp2
      have t1 : Touch (fun k => k = w.heap.size) wF ((wF.setCell ⟨w.heap.size, 0, none⟩ (.slice (some ⟨bc, 0, none⟩) C.length cc)).setCell ⟨w.heap.size, 1, none⟩ (.slice au U.length cu)) := (Touch.setCell (S := fun k => k = w.heap.size) _ _ _ _ rfl).trans (Touch.setCell (S := fun k => k = w.heap.size) _ _ _ _ rfl)
      obtain ⟨vs, hgr⟩ := RDF.out.grid
      have lo2 := L2.out
      refine bodyPost_ret (res_rcpN rfl _ _ w.heap.size _ _ (0, 0) rfl YF.out) rfl ⟨_, _, C.set r7 t9, U, r5, rfl, OwnT.rd (ownsRow_touch RDF.out.row t1 (fun k hk e => by have := (row_block RDF.out.row hk).1; omega)) RDF.out.sz, (hgr.touch t1 (fun k hk e => by have := (row_block hgr.head hk).1; omega) (fun i k hi hk e => by have := (row_block (hgr.rows i hi) hk).1; omega)).rd, by first | exact CL | (rw [List.length_set]; exact CL), by omega, (BF.out.setCell (Nat.le_refl _) _).setCell (Nat.le_refl _) _⟩
end Go.Proofs.Ythmijjcddjlebaa

namespace Go.Proofs.Ythmijjcddjlebaa
open Go.RowKit
set_option linter.unusedVariables false

def savR (xs : List ByteArray) : Int × Int × Bool := if dedOk xs then (((fl9 xs).length : Int), ((fl9 (dedF xs).1).length : Int), true) else (0, 0, false)
theorem rdM_slice9 {w : World} {v : Value} {m : List (List Int)} (h : RdM w v m) : ∃ a cap, v = .slice a m.length cap := by
  obtain ⟨a, cap, rfl, _⟩ := h
  exact ⟨a, cap, rfl⟩
theorem rdT_slice9 {w : World} {v : Value} {m : List ByteArray} (h : RdT w v m) : ∃ a cap, v = .slice a m.length cap := by
  obtain ⟨a, cap, rfl, _⟩ := h
  exact ⟨a, cap, rfl⟩
theorem ded_sizes (xs : List ByteArray) (h : dedOk xs) : (dedF xs).1.length ≤ 2400 ∧ ∀ i, i < (dedF xs).1.length → ((dedF xs).1.getD i ⟨#[]⟩).size ≤ 300 := by
  have h1 := dedF_len xs xs.length (Nat.le_refl _) h.2
  have h2 := dedF_all xs xs.length (Nat.le_refl _) h.2
  rw [List.take_length] at h1 h2
  refine ⟨by have := h.1; omega, fun i hi => h2 _ ?_⟩
  rw [List.getD_eq_getElem?_getD, List.getElem?_eq_getElem hi]
  exact List.getElem_mem hi

theorem below_drewN {B : Nat} {w W : World} (h : Below B w W) (n : Nat) : Below B w (W.drewN n) := by
  cases n <;> exact ⟨h.os, h.tape, h.output, h.size, h.block⟩
theorem quiet_same9 {P : Program} {f : FuncId} {args : Array Value} {w : World} {n : Nat} {v : Value}
    (h : Calls P f args (w.drewN n) fun e w' => e = .returned v ∧ w.drewN n = w') : Calls P f args (w.drewN n) fun e w'' => e = .returned v ∧ ∃ m, w'' = w.drewN m :=
  h.mono fun _ _ ⟨he, hm⟩ => ⟨he, n, hm.symm⟩

set_option maxRecDepth 100000 in
set_option maxHeartbeats 800000 in
theorem savedBy_calls (v : Value) (xs : List ByteArray) (w : World) (h : RdT w v xs) :
    Calls Try.prog 16 #[v] w fun e w' => e = .returned (.tuple #[.int .i64 (savR xs).1, .int .i64 (savR xs).2.1, .bool (savR xs).2.2]) ∧ Below w.heap.size w w' := by
  have R := hide h
  obtain ⟨av, cv, rfl⟩ := rdT_slice9 h
  clear h
  by_cases hok : dedOk xs
  case neg =>
    have er : savR xs = (0, 0, false) := if_neg hok
    rw [er]
    have ed : dedR xs = ([], [], false) := if_neg hok
    have DC := dedupAll_calls _ xs w R.out
    rw [ed] at DC
    have DD := hide DC
    clear er ed hok DC
    go_enter Try.func16, Try.ntmps16
    go_wp2_with fail
    refine DD.out.mono ?_
    rintro e w1 ⟨vc, vu, rfl, rc, ru, b1, _⟩
    obtain ⟨ac, cc, rfl⟩ := rdT_slice9 rc
    obtain ⟨au, cu, rfl⟩ := rdM_slice9 ru
    have S2 : Hid (∀ o, Below w.heap.size w (w1.alloc o)) := fun o => b1.alloc b1.size o
    clear rc ru b1
    go_wp2
    go_ret3
    exact ⟨rfl, S2.out _⟩
  have hsz := ded_sizes xs hok
  have er : savR xs = (((fl9 xs).length : Int), ((fl9 (dedF xs).1).length : Int), true) := if_pos hok
  rw [er]
  have ed : dedR xs = ((dedF xs).1, (dedF xs).2, true) := if_pos hok
  have DC := dedupAll_calls _ xs w R.out
  rw [ed] at DC
  have DD := hide DC
  have HOK := hide hok
  have HSZ := hide hsz
  clear er ed hok hsz DC
  generalize dedF xs = D at DD HSZ ⊢
  obtain ⟨C, U⟩ := D
  simp only at DD HSZ ⊢
  go_enter Try.func16, Try.ntmps16
  go_wp2_with fail
  refine DD.out.mono ?_
  rintro e w1 ⟨vc, vu, rfl, rc, ru, b1, _⟩
  have RC := hide rc
  have B1 := hide b1
  obtain ⟨ac, cc, rfl⟩ := rdT_slice9 rc
  obtain ⟨au, cu, rfl⟩ := rdM_slice9 ru
  clear rc ru b1
  have S2 : Hid (∀ o n, Below w.heap.size w ((w1.alloc o).drewN n)) := fun o n => below_drewN (B1.out.alloc B1.out.size o) n
  have CB1 : Hid (∀ o n, Calls Try.prog 68 #[.slice av xs.length cv] ((w1.alloc o).drewN n) fun e w' => e = .returned (.int .i64 ((fl9 xs).length : Int)) ∧ (w1.alloc o).drewN n = w') := fun o n => countBytes_calls _ xs _ (R.out.below (S2.out o n)) (by have := HOK.out.1; omega) (fun i hi => by have := HOK.out.2 i hi; omega)
  have CB2 : Hid (∀ o n, Calls Try.prog 68 #[.slice ac C.length cc] ((w1.alloc o).drewN n) fun e w' => e = .returned (.int .i64 ((fl9 C).length : Int)) ∧ (w1.alloc o).drewN n = w') := fun o n => countBytes_calls _ C _ (RC.out.below (below_drewN ((Below.refl w1.heap.size w1).alloc (Nat.le_refl _) o) n)) (by have := HSZ.out.1; omega) (fun i hi => by have := HSZ.out.2 i hi; omega)
  go_wp2
  go_quiet ((go_at_call 68; first | with_reducible exact quiet_same9 (CB1.out _ _) | with_reducible exact quiet_same9 (CB2.out _ _)))
  go_wp2
  go_ret3
  exact ⟨rfl, S2.out _ _⟩
set_option maxRecDepth 100000 in
set_option maxHeartbeats 800000 in
theorem sSavedBy_calls (v : Value) (xs : List ByteArray) (w : World) (h : RdT w v xs) :
    Calls Try.prog 17 #[v] w fun e w' => e = .returned (.tuple #[.int .i64 (savR xs).1, .int .i64 (savR xs).2.1, .bool (savR xs).2.2]) ∧ Below w.heap.size w w' := by
  have R := hide h
  obtain ⟨av, cv, rfl⟩ := rdT_slice9 h
  clear h
  by_cases hok : dedOk xs
  case neg =>
    have er : savR xs = (0, 0, false) := if_neg hok
    rw [er]
    have ed : dedR xs = ([], [], false) := if_neg hok
    have DC := sDedupAll_calls _ xs w R.out
    rw [ed] at DC
    have DD := hide DC
    clear er ed hok DC
    go_enter Try.func17, Try.ntmps17
    go_wp2_with fail
    refine DD.out.mono ?_
    rintro e w1 ⟨vc, vu, rfl, rc, ru, b1⟩
    obtain ⟨ac, cc, rfl⟩ := rdT_slice9 rc
    obtain ⟨au, cu, rfl⟩ := rdM_slice9 ru
    have S2 : Hid (∀ o, Below w.heap.size w (w1.alloc o)) := fun o => b1.alloc b1.size o
    clear rc ru b1
    go_wp2
    go_ret3
    exact ⟨rfl, S2.out _⟩
  have hsz := ded_sizes xs hok
  have er : savR xs = (((fl9 xs).length : Int), ((fl9 (dedF xs).1).length : Int), true) := if_pos hok
  rw [er]
  have ed : dedR xs = ((dedF xs).1, (dedF xs).2, true) := if_pos hok
  have DC := sDedupAll_calls _ xs w R.out
  rw [ed] at DC
  have DD := hide DC
  have HOK := hide hok
  have HSZ := hide hsz
  clear er ed hok hsz DC
  generalize dedF xs = D at DD HSZ ⊢
  obtain ⟨C, U⟩ := D
  simp only at DD HSZ ⊢
  go_enter Try.func17, Try.ntmps17
  go_wp2_with fail
  refine DD.out.mono ?_
  rintro e w1 ⟨vc, vu, rfl, rc, ru, b1⟩
  have RC := hide rc
  have B1 := hide b1
  obtain ⟨ac, cc, rfl⟩ := rdT_slice9 rc
  obtain ⟨au, cu, rfl⟩ := rdM_slice9 ru
  clear rc ru b1
  have S2 : Hid (∀ o n, Below w.heap.size w ((w1.alloc o).drewN n)) := fun o n => below_drewN (B1.out.alloc B1.out.size o) n
  have H3a := hide (R.out.below (S2.out (.cells #[.slice ac C.length cc, .slice au U.length cu] 27) 0))
  have H3c := hide (RC.out.below (below_drewN ((Below.refl w1.heap.size w1).alloc (Nat.le_refl _) (.cells #[.slice ac C.length cc, .slice au U.length cu] 27)) 0))
  have x1 : Boxed2 (w1.alloc (.cells #[.slice ac C.length cc, .slice au U.length cu] 27)) w1.heap.size 27 (.slice ac C.length cc) (.slice au U.length cu) := boxed2_new w1 _ _ _
  have c0 := x1.c0
  have S3 := hide (S2.out (.cells #[.slice ac C.length cc, .slice au U.length cu] 27) 0)
  have CZ : Hid (∀ i, i < C.length → (C.getD i ⟨#[]⟩).size ≤ 1048576) := fun i hi => Nat.le_trans (HSZ.out.2 i hi) (by decide)
  have XZ : Hid (∀ i, i < xs.length → (xs.getD i ⟨#[]⟩).size ≤ 1048576) := fun i hi => Nat.le_trans (HOK.out.2 i hi) (by decide)
  have hx8 := HOK.out.1
  have hC8 := HSZ.out.1
  clear x1
  go_wp2
  generalize w1.alloc (.cells #[.slice ac C.length cc, .slice au U.length cu] 27) = w2 at H3a H3c c0 S3 ⊢
  have H3b : Hid (RdT w2 (.slice av xs.length cv) xs) := H3a.out
  have H3d : Hid (RdT w2 (.slice ac C.length cc) C) := H3c.out
  have S4 : Hid (Below w.heap.size w w2) := S3.out
  clear H3a H3c S3
  go_loop [7, 22] (fun va vi => ∃ k : Nat, k ≤ xs.length ∧ vi = .int .i64 k ∧ va = .int .i64 ((fl9 (xs.take k)).length : Int)) (fun _ vi => xs.length - (intOf vi).toNat)
  case atStart => exact ⟨0, Nat.zero_le _, rfl, rfl⟩
  case round =>
    obtain ⟨k, hk, rfl, rfl⟩ := hrel
    have hfl := fl9_len xs k hk XZ.out
    by_cases hlt : k < xs.length
    · obtain ⟨a', cap', hv, _, _, _, h3⟩ := H3b.out
      rcases h3 with h3 | ⟨b, off, rfl, hbs, hc⟩
      · subst h3; simp at hlt
      simp only [Value.slice.injEq] at hv
      obtain ⟨rfl, _, rfl⟩ := hv
      have hc1 := hc k hlt
      have hz := XZ.out k hlt
      have hst : Hid ((fl9 (xs.take (k + 1))).length = (fl9 (xs.take k)).length + (xs.getD k ⟨#[]⟩).size) := by show _ = _; rw [fl9_snoc xs k hlt, List.length_append, bs_length]
      generalize xs.getD k ⟨#[]⟩ = z at hc1 hz hst
      generalize (fl9 (xs.take k)).length = y at hfl hst ⊢
      have hlt' : (k : Int) < (xs.length : Int) := by omega
      clear hc c0
      go_wp2
      go_round
      case rel => exact ⟨k + 1, by omega, by go_num, int_eq (by rw [hst.out]; omega)⟩
      case measure => simp [intOf]; omega
    · obtain rfl : k = xs.length := by omega
      rw [List.take_length]
      have hlt' : ¬ (xs.length : Int) < (xs.length : Int) := by omega
      clear hfl
      go_wp2
      go_loop [10, 34] (fun va vi => ∃ k : Nat, k ≤ C.length ∧ vi = .int .i64 k ∧ va = .int .i64 ((fl9 (C.take k)).length : Int)) (fun _ vi => C.length - (intOf vi).toNat)
      case atStart => exact ⟨0, Nat.zero_le _, rfl, rfl⟩
      case round =>
        obtain ⟨k, hk, rfl, rfl⟩ := hrel
        have hfl := fl9_len C k hk CZ.out
        by_cases hlt : k < C.length
        · obtain ⟨a', cap', hv, _, _, _, h3⟩ := H3d.out
          rcases h3 with h3 | ⟨b, off, rfl, hbs, hc⟩
          · rw [h3] at hlt; simp at hlt
          simp only [Value.slice.injEq] at hv
          obtain ⟨rfl, _, rfl⟩ := hv
          have hc1 := hc k hlt
          have hz := CZ.out k hlt
          have hst : Hid ((fl9 (C.take (k + 1))).length = (fl9 (C.take k)).length + (C.getD k ⟨#[]⟩).size) := by show _ = _; rw [fl9_snoc C k hlt, List.length_append, bs_length]
          generalize C.getD k ⟨#[]⟩ = z at hc1 hz hst
          generalize (fl9 (C.take k)).length = y at hfl hst ⊢
          have hlt' : (k : Int) < (C.length : Int) := by omega
          clear hc c0
          go_wp2
          go_round
          case rel => exact ⟨k + 1, by omega, by go_num, int_eq (by rw [hst.out]; omega)⟩
          case measure => simp [intOf]; omega
        · obtain rfl : k = C.length := by omega
          rw [List.take_length]
          have hlt' : ¬ (C.length : Int) < (C.length : Int) := by omega
          clear hfl
          go_wp2
          go_ret3
          exact ⟨rfl, S4.out⟩
end Go.Proofs.Ythmijjcddjlebaa

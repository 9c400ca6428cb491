/-
  The value of a key in a version, by the program and by the model; GetIn of both, call by call. Each contract says what it asks.
-/
import Derived.Test.YthmijjcddjlebaaPlc
namespace Go.Proofs.Ythmijjcddjlebaa
open Go.RowKit
set_option linter.unusedVariables false

set_option linter.unusedSimpArgs false in
set_option maxRecDepth 100000 in
set_option maxHeartbeats 3200000 in
theorem valueIn_calls (p r : Value) (m : List Nd) (vs : List Int) (ver key : Nat) (y : Int) (w : World) (h : RdP w p r m vs) (hok : okP m vs) (hv : ver < vs.length) (hk : key < 16) (hy : getF m vs ver key = y) :
    Calls Try.prog 93 #[.agg #[p, r], .int .i64 ver, .int .i64 key] w fun e' w' => e' = .returned (.int .i64 y) ∧ Below w.heap.size w w' := by
  have R := hide h
  obtain ⟨⟨ap, cp, rfl, _⟩, ⟨ar, cr, rfl, _⟩⟩ := h
  have A0 := hide ((Hand.start w).box #[.slice ap m.length cp, .slice ar vs.length cr] 43)
  obtain ⟨hs, a, b, c, d, he, hkb⟩ := gd_stem hok ver hv
  have HS := hide hs
  have HE := hide he
  obtain ⟨x, hx⟩ : ∃ x, [a, b, c, d].getD (key / 4) 0 = x := ⟨_, rfl⟩
  have hsx := hkb (key / 4) (by omega)
  rw [hx] at hsx
  obtain ⟨e, f, g, h', hl, _⟩ := gd_leaf hok x hsx
  have HX := hide hx
  have HSX := hide hsx
  have HL := hide hl
  have e5 := rem4 key
  obtain ⟨q, hq⟩ : ∃ q, q = key % 4 := ⟨_, rfl⟩
  rw [← hq] at e5
  have HY : Hid ([e, f, g, h'].getD q 0 = y) := by
    show _ = _
    rw [← hy, getF, lfN, he, hx, hl, hq]
  have hq4 : (q : Int) = 0 ∨ (q : Int) = 1 ∨ (q : Int) = 2 ∨ (q : Int) = 3 := by omega
  have Q5 := hide hq4
  have hq3 : (q : Int) ≤ 3 := by omega
  clear hs he hkb hx hsx hl hq hy hok hq4
  go_enter Try.func93, Try.ntmps93
  go_wp2
  refine wp_region_noPanic ?_
  refine wp_region_held_drew (S := fun w' => w'.cell? ⟨w.heap.size, 0, none⟩ = some (.slice ap m.length cp) ∧ w'.cell? ⟨w.heap.size, 1, none⟩ = some (.slice ar vs.length cr)) (by kernel_rfl) ((A0.out.step (Below.refl _ _).drew).atBox 0 rfl |>.c2) (fun hHeld => ?_)
  have G0 := hide (A0.out.step (Below.refl _ _).drew)
  clear A0
  generalize World.drew _ = V0 at *
  refine wpAnyH_take (i := 0) (v := ?v1) rfl (by kernel_rfl) (by kernel_rfl) (by kernel_rfl) (fun _ _ _ h => h) (Or.inl ⟨by rfl, ?hy1⟩) (by assumption) ?rest1
  case hy1 => (intro w' hSw; dsimp only [List.getElem_toArray, List.getElem_cons_zero, List.getElem_cons_succ] at hSw ⊢; go_simp; try (with_reducible rfl))
  try simp only [Act.put, List.getElem_toArray, List.getElem_cons_zero, List.getElem_cons_succ, List.setIfInBounds_toArray, List.set_cons_zero, List.set_cons_succ]
  refine wpAnyH_take (i := 1) (v := ?v2) rfl (by kernel_rfl) (by kernel_rfl) (by kernel_rfl) (fun _ _ _ h => h) (Or.inl ⟨by rfl, ?hy2⟩) (by assumption) ?rest2
  case hy2 => (intro w' hSw; dsimp only [List.getElem_toArray, List.getElem_cons_zero, List.getElem_cons_succ] at hSw ⊢; go_simp; try (with_reducible rfl))
  try simp only [Act.put, List.getElem_toArray, List.getElem_cons_zero, List.getElem_cons_succ, List.setIfInBounds_toArray, List.set_cons_zero, List.set_cons_succ]
  refine wpAnyH_take (i := 2) (v := ?v3) rfl (by kernel_rfl) (by kernel_rfl) (by kernel_rfl) (fun _ _ _ h => h) (Or.inl ⟨by rfl, ?hy3⟩) (by assumption) ?rest3
  case hy3 => (intro w' hSw; dsimp only [List.getElem_toArray, List.getElem_cons_zero, List.getElem_cons_succ] at hSw ⊢; go_simp; try (with_reducible rfl))
  try simp only [Act.put, List.getElem_toArray, List.getElem_cons_zero, List.getElem_cons_succ, List.setIfInBounds_toArray, List.set_cons_zero, List.set_cons_succ]
  refine wpAnyH_take (i := 4) (v := ?v4) rfl (by kernel_rfl) (by kernel_rfl) (by kernel_rfl) (fun _ _ _ h => h) (Or.inl ⟨by rfl, ?hy4⟩) (by assumption) ?rest4
  case hy4 => (intro w' hSw; dsimp only [List.getElem_toArray, List.getElem_cons_zero, List.getElem_cons_succ] at hSw ⊢; go_simp; try (with_reducible rfl))
  try simp only [Act.put, List.getElem_toArray, List.getElem_cons_zero, List.getElem_cons_succ, List.setIfInBounds_toArray, List.set_cons_zero, List.set_cons_succ]
  refine wpAnyH_ready (rs := [3, 6]) (by kernel_rfl) (by simp) ?_
  refine (AllReadyH.cons rfl (fun K hK => ?_) (AllReadyH.cons rfl (fun K hK => ?_) AllReadyH.nil))
  · dsimp only [List.getElem_toArray, List.getElem_cons_zero, List.getElem_cons_succ]
    go_simp
    refine (stemOf_calls _ _ m vs ver a b c d _ (R.out.below G0.out.below) hv HS.out HE.out).mono ?_
    rintro e' u1 ⟨rfl, bb⟩
    have G1 := hide (G0.out.step bb)
    clear bb G0 hHeld
    refine hK.out _ _ ((G1.out.atBox 0 rfl).c2) (fun hHeld => ?_)
    clear hK K
    try simp only [Act.put, List.getElem_toArray, List.getElem_cons_zero, List.getElem_cons_succ, List.setIfInBounds_toArray, List.set_cons_zero, List.set_cons_succ]
    refine wpAnyH_ready (rs := [5, 6]) (by kernel_rfl) (by simp) ?_
    refine (AllReadyH.cons rfl (fun K hK => ?_) (AllReadyH.cons rfl (fun K hK => ?_) AllReadyH.nil))
    · dsimp only [List.getElem_toArray, List.getElem_cons_zero, List.getElem_cons_succ]
      go_simp
      refine (leafUnder_calls _ _ m vs a b c d x key e f g h' _ (R.out.below G1.out.below) hk HX.out HSX.out HL.out).mono ?_
      rintro e' u2 ⟨rfl, bb⟩
      have G2 := hide (G1.out.step bb)
      clear bb G1 hHeld
      refine hK.out _ _ ((G2.out.atBox 0 rfl).c2) (fun hHeld => ?_)
      clear hK K
      try simp only [Act.put, List.getElem_toArray, List.getElem_cons_zero, List.getElem_cons_succ, List.setIfInBounds_toArray, List.set_cons_zero, List.set_cons_succ]
      refine wpAnyH_ready (rs := [6]) (by kernel_rfl) (by simp) ?_
      refine (AllReadyH.cons rfl (fun K hK => ?_) AllReadyH.nil)
      · dsimp only [List.getElem_toArray, List.getElem_cons_zero, List.getElem_cons_succ]
        go_simp
        have bb := G2.out.box #[.int .i64 0, .int .i64 0, .int .i64 0, .int .i64 0] 120
        generalize u2.alloc (.cells #[.int .i64 0, .int .i64 0, .int .i64 0, .int .i64 0] 120) = u3 at bb ⊢
        have G3 := hide bb
        clear bb G2 hHeld
        refine hK.out _ _ ((G3.out.atBox 1 rfl).c2) (fun hHeld => ?_)
        clear hK K
        try simp only [Act.put, List.getElem_toArray, List.getElem_cons_zero, List.getElem_cons_succ, List.setIfInBounds_toArray, List.set_cons_zero, List.set_cons_succ]
        refine wpAnyH_ready (rs := [7]) (by kernel_rfl) (by simp) ?_
        refine (AllReadyH.cons rfl (fun K hK => ?_) AllReadyH.nil)
        have xr := G3.out.atBox 0 rfl
        obtain ⟨d0, d1, d2, d3⟩ := xr.c4
        have f0 := xr.frozen 0
        have f1 := xr.frozen 1
        have f2 := xr.frozen 2
        have f3 := xr.frozen 3
        have G4 := hide (G3.out.store4P 0 rfl (.int .i64 e) (.int .i64 f) (.int .i64 g) (.int .i64 h'))
        dsimp only [List.getElem_toArray, List.getElem_cons_zero, List.getElem_cons_succ]
        go_simp
        clear xr d0 d1 d2 d3 f0 f1 f2 f3 G3
        refine hK.out _ _ ((G4.out.atBox 1 rfl).c2) (fun hHeld => ?_)
        clear hK K
        try simp only [Act.put, List.getElem_toArray, List.getElem_cons_zero, List.getElem_cons_succ, List.setIfInBounds_toArray, List.set_cons_zero, List.set_cons_succ]
        refine wpAnyH_done (by kernel_rfl) ?_ _
        refine NoPanic.normal ?_
        clear hHeld
        have xs := G4.out.atBox 0 rfl
        obtain ⟨d0, d1, d2, d3⟩ := xs.c4
        clear xs
        go_wp2_with fail
        refine (kidAt_calls e f g h' _ y _ Q5.out (by rw [Int.toNat_natCast]; exact HY.out)).mono ?_
        rintro e' wz ⟨rfl, bz⟩
        have GZ := hide (G4.out.step bz)
        clear bz
        go_wp2
        go_ret
        exact ⟨rfl, GZ.out.below⟩
    · dsimp only [List.getElem_toArray, List.getElem_cons_zero, List.getElem_cons_succ]
      go_simp
      have bb := G1.out.box #[.int .i64 0, .int .i64 0, .int .i64 0, .int .i64 0] 120
      generalize u1.alloc (.cells #[.int .i64 0, .int .i64 0, .int .i64 0, .int .i64 0] 120) = u2 at bb ⊢
      have G2 := hide bb
      clear bb G1 hHeld
      refine hK.out _ _ ((G2.out.atBox 1 rfl).c2) (fun hHeld => ?_)
      clear hK K
      try simp only [Act.put, List.getElem_toArray, List.getElem_cons_zero, List.getElem_cons_succ, List.setIfInBounds_toArray, List.set_cons_zero, List.set_cons_succ]
      refine wpAnyH_ready (rs := [5]) (by kernel_rfl) (by simp) ?_
      refine (AllReadyH.cons rfl (fun K hK => ?_) AllReadyH.nil)
      · dsimp only [List.getElem_toArray, List.getElem_cons_zero, List.getElem_cons_succ]
        go_simp
        refine (leafUnder_calls _ _ m vs a b c d x key e f g h' _ (R.out.below G2.out.below) hk HX.out HSX.out HL.out).mono ?_
        rintro e' u3 ⟨rfl, bb⟩
        have G3 := hide (G2.out.step bb)
        clear bb G2 hHeld
        refine hK.out _ _ ((G3.out.atBox 1 rfl).c2) (fun hHeld => ?_)
        clear hK K
        try simp only [Act.put, List.getElem_toArray, List.getElem_cons_zero, List.getElem_cons_succ, List.setIfInBounds_toArray, List.set_cons_zero, List.set_cons_succ]
        refine wpAnyH_ready (rs := [7]) (by kernel_rfl) (by simp) ?_
        refine (AllReadyH.cons rfl (fun K hK => ?_) AllReadyH.nil)
        have xr := G3.out.atBox 0 rfl
        obtain ⟨d0, d1, d2, d3⟩ := xr.c4
        have f0 := xr.frozen 0
        have f1 := xr.frozen 1
        have f2 := xr.frozen 2
        have f3 := xr.frozen 3
        have G4 := hide (G3.out.store4P 0 rfl (.int .i64 e) (.int .i64 f) (.int .i64 g) (.int .i64 h'))
        dsimp only [List.getElem_toArray, List.getElem_cons_zero, List.getElem_cons_succ]
        go_simp
        clear xr d0 d1 d2 d3 f0 f1 f2 f3 G3
        refine hK.out _ _ ((G4.out.atBox 1 rfl).c2) (fun hHeld => ?_)
        clear hK K
        try simp only [Act.put, List.getElem_toArray, List.getElem_cons_zero, List.getElem_cons_succ, List.setIfInBounds_toArray, List.set_cons_zero, List.set_cons_succ]
        refine wpAnyH_done (by kernel_rfl) ?_ _
        refine NoPanic.normal ?_
        clear hHeld
        have xs := G4.out.atBox 0 rfl
        obtain ⟨d0, d1, d2, d3⟩ := xs.c4
        clear xs
        go_wp2_with fail
        refine (kidAt_calls e f g h' _ y _ Q5.out (by rw [Int.toNat_natCast]; exact HY.out)).mono ?_
        rintro e' wz ⟨rfl, bz⟩
        have GZ := hide (G4.out.step bz)
        clear bz
        go_wp2
        go_ret
        exact ⟨rfl, GZ.out.below⟩
  · dsimp only [List.getElem_toArray, List.getElem_cons_zero, List.getElem_cons_succ]
    go_simp
    have bb := G0.out.box #[.int .i64 0, .int .i64 0, .int .i64 0, .int .i64 0] 120
    generalize V0.alloc (.cells #[.int .i64 0, .int .i64 0, .int .i64 0, .int .i64 0] 120) = u1 at bb ⊢
    have G1 := hide bb
    clear bb G0 hHeld
    refine hK.out _ _ ((G1.out.atBox 1 rfl).c2) (fun hHeld => ?_)
    clear hK K
    try simp only [Act.put, List.getElem_toArray, List.getElem_cons_zero, List.getElem_cons_succ, List.setIfInBounds_toArray, List.set_cons_zero, List.set_cons_succ]
    refine wpAnyH_ready (rs := [3]) (by kernel_rfl) (by simp) ?_
    refine (AllReadyH.cons rfl (fun K hK => ?_) AllReadyH.nil)
    · dsimp only [List.getElem_toArray, List.getElem_cons_zero, List.getElem_cons_succ]
      go_simp
      refine (stemOf_calls _ _ m vs ver a b c d _ (R.out.below G1.out.below) hv HS.out HE.out).mono ?_
      rintro e' u2 ⟨rfl, bb⟩
      have G2 := hide (G1.out.step bb)
      clear bb G1 hHeld
      refine hK.out _ _ ((G2.out.atBox 1 rfl).c2) (fun hHeld => ?_)
      clear hK K
      try simp only [Act.put, List.getElem_toArray, List.getElem_cons_zero, List.getElem_cons_succ, List.setIfInBounds_toArray, List.set_cons_zero, List.set_cons_succ]
      refine wpAnyH_ready (rs := [5]) (by kernel_rfl) (by simp) ?_
      refine (AllReadyH.cons rfl (fun K hK => ?_) AllReadyH.nil)
      · dsimp only [List.getElem_toArray, List.getElem_cons_zero, List.getElem_cons_succ]
        go_simp
        refine (leafUnder_calls _ _ m vs a b c d x key e f g h' _ (R.out.below G2.out.below) hk HX.out HSX.out HL.out).mono ?_
        rintro e' u3 ⟨rfl, bb⟩
        have G3 := hide (G2.out.step bb)
        clear bb G2 hHeld
        refine hK.out _ _ ((G3.out.atBox 1 rfl).c2) (fun hHeld => ?_)
        clear hK K
        try simp only [Act.put, List.getElem_toArray, List.getElem_cons_zero, List.getElem_cons_succ, List.setIfInBounds_toArray, List.set_cons_zero, List.set_cons_succ]
        refine wpAnyH_ready (rs := [7]) (by kernel_rfl) (by simp) ?_
        refine (AllReadyH.cons rfl (fun K hK => ?_) AllReadyH.nil)
        have xr := G3.out.atBox 0 rfl
        obtain ⟨d0, d1, d2, d3⟩ := xr.c4
        have f0 := xr.frozen 0
        have f1 := xr.frozen 1
        have f2 := xr.frozen 2
        have f3 := xr.frozen 3
        have G4 := hide (G3.out.store4P 0 rfl (.int .i64 e) (.int .i64 f) (.int .i64 g) (.int .i64 h'))
        dsimp only [List.getElem_toArray, List.getElem_cons_zero, List.getElem_cons_succ]
        go_simp
        clear xr d0 d1 d2 d3 f0 f1 f2 f3 G3
        refine hK.out _ _ ((G4.out.atBox 1 rfl).c2) (fun hHeld => ?_)
        clear hK K
        try simp only [Act.put, List.getElem_toArray, List.getElem_cons_zero, List.getElem_cons_succ, List.setIfInBounds_toArray, List.set_cons_zero, List.set_cons_succ]
        refine wpAnyH_done (by kernel_rfl) ?_ _
        refine NoPanic.normal ?_
        clear hHeld
        have xs := G4.out.atBox 0 rfl
        obtain ⟨d0, d1, d2, d3⟩ := xs.c4
        clear xs
        go_wp2_with fail
        refine (kidAt_calls e f g h' _ y _ Q5.out (by rw [Int.toNat_natCast]; exact HY.out)).mono ?_
        rintro e' wz ⟨rfl, bz⟩
        have GZ := hide (G4.out.step bz)
        clear bz
        go_wp2
        go_ret
        exact ⟨rfl, GZ.out.below⟩

set_option maxRecDepth 100000 in
set_option maxHeartbeats 1600000 in
theorem l11Leaf_calls (p r : Value) (m : List Nd) (vs : List Int) (ver key : Nat) (y : Int) (w : World) (h : RdP w p r m vs) (hok : okP m vs) (hv : ver < vs.length) (hk : key < 16) (hy : lfN m vs ver key = y) :
    Calls Try.prog 95 #[.agg #[p, r], .int .i64 ver, .int .i64 key] w fun e' w' => e' = .returned (.int .i64 y) ∧ Below w.heap.size w w' := by
  have A0 := hide ((Hand.start w).box #[p, r] 43)
  have R := hide (h.below A0.out.below)
  obtain ⟨⟨ap, cp, rfl, _⟩, ⟨ar, cr, rfl, hr1, hr2, _⟩⟩ := h
  have hrm : vs.length ≤ maxLen := by omega
  unfold maxLen at hrm
  clear hr1 hr2
  obtain ⟨hs, a, b, c, d, he, hkb⟩ := gd_stem hok ver hv
  obtain ⟨b1, o1, rfl, cv⟩ := R.out.2.cellP ver hv
  unfold lfN at hy
  obtain ⟨x, hx⟩ : ∃ x, x = vs.getD ver 0 := ⟨_, rfl⟩
  rw [← hx] at cv hs he hy
  clear hx hkb hok
  have hv' : (ver : Int) < (vs.length : Int) := by omega
  by_cases h1 : x < 0
  · obtain rfl : x = -1 := hs.resolve_right (fun h => by have := h.1; omega)
    obtain rfl : -1 = y := by
      rw [← hy, stmF, if_pos rfl]
      have : key / 4 < 4 := by omega
      match key / 4, this with
      | 0, _ => rfl
      | 1, _ => rfl
      | 2, _ => rfl
      | 3, _ => rfl
    clear hy he hs
    go_enter Try.func95, Try.ntmps95
    go_wp2
    go_ret
    exact ⟨rfl, A0.out.below⟩
  obtain ⟨n, rfl⟩ : ∃ n : Nat, x = (n : Int) := ⟨x.toNat, by omega⟩
  have hnm : n < m.length := by have := (hs.resolve_left (by omega)).2.1; omega
  obtain ⟨b2, o2, u, ks, z, rfl, hkk, hu, c0, c1⟩ := R.out.1.at n hnm
  have hnm' : (n : Int) < (m.length : Int) := by omega
  obtain rfl : ks = [a, b, c, d] := by
    rw [← he]
    unfold stmF
    rw [if_neg (by omega), Int.toNat_natCast, hkk]
  obtain ⟨b3, o3, hu3, c3⟩ : ∃ b3 o3, (∃ uc, u = .slice (some ⟨b3, o3, none⟩) 4 uc) ∧ World.cell? (w.alloc (.cells #[.slice (some ⟨b2, o2, none⟩) m.length cp, .slice (some ⟨b1, o1, none⟩) vs.length cr] 43)) ⟨b3, o3 + key / 4, none⟩ = some (.int .i64 y) := by
    obtain ⟨ua, uc, rfl, _, _⟩ := hu.slc
    obtain ⟨b3, o3, rfl, c3⟩ := hu.cellP (key / 4) (by simp; omega)
    refine ⟨b3, o3, ⟨uc, rfl⟩, ?_⟩
    rw [c3, ← he, hy]
  obtain ⟨uc, rfl⟩ := hu3
  have e4 := quo4 key
  obtain ⟨q, hq⟩ : ∃ q, q = key / 4 := ⟨_, rfl⟩
  rw [← hq] at e4 c3
  have hq3 : (q : Int) ≤ 3 := by omega
  have hq4 : (q : Int) < 4 := by omega
  clear hu hkk he hs hy hq
  go_enter Try.func95, Try.ntmps95
  go_wp2
  go_ret
  exact ⟨rfl, A0.out.below⟩

set_option maxRecDepth 100000 in
set_option maxHeartbeats 1600000 in
theorem l11Get_calls (p r : Value) (m : List Nd) (vs : List Int) (ver key : Nat) (y : Int) (w : World) (h : RdP w p r m vs) (hok : okP m vs) (hv : ver < vs.length) (hk : key < 16) (hy : getF m vs ver key = y) :
    Calls Try.prog 90 #[.agg #[p, r], .int .i64 ver, .int .i64 key] w fun e' w' => e' = .returned (.int .i64 y) ∧ Below w.heap.size w w' := by
  have A0 := hide ((Hand.start w).box #[p, r] 43)
  have R := hide (h.below A0.out.below)
  obtain ⟨⟨ap, cp, rfl, _⟩, ⟨ar, cr, rfl, _⟩⟩ := h
  unfold getF at hy
  obtain ⟨x, hx⟩ : ∃ x, lfN m vs ver key = x := ⟨_, rfl⟩
  have hs := gd_lfN hok ver key hv hk
  rw [hx] at hs hy
  obtain ⟨a, b, c, d, he, _⟩ := gd_leaf hok x hs
  have OK := hide hok
  have HX := hide hx
  clear hok hx
  go_enter Try.func90, Try.ntmps90
  go_wp2_with fail
  refine (l11Leaf_calls _ _ m vs ver key x _ R.out OK.out hv hk HX.out).mono ?_
  rintro e' w1 ⟨rfl, b0⟩
  have A1 := hide (A0.out.step b0)
  have R1 := hide (R.out.below b0)
  clear b0 A0 R
  obtain ⟨p0, p1⟩ := (A1.out.atBox 0 rfl).c2
  by_cases h1 : x < 0
  · obtain rfl : x = -1 := hs.resolve_right (fun h => by have := h.1; omega)
    obtain rfl : 0 = y := by
      rw [← hy, lfF, if_pos rfl]
      have : key % 4 < 4 := by omega
      match key % 4, this with
      | 0, _ => rfl
      | 1, _ => rfl
      | 2, _ => rfl
      | 3, _ => rfl
    clear hy he hs
    go_wp2
    go_ret
    exact ⟨rfl, A1.out.below⟩
  obtain ⟨n, rfl⟩ : ∃ n : Nat, x = (n : Int) := ⟨x.toNat, by omega⟩
  have hnm : n < m.length := by have := (hs.resolve_left (by omega)).2.1; omega
  obtain ⟨b2, o2, u, ks, z, rfl, hkk, hu, c0, c1⟩ := R1.out.1.at n hnm
  have hnm' : (n : Int) < (m.length : Int) := by omega
  obtain rfl : ks = [a, b, c, d] := by
    rw [← he]
    unfold lfF
    rw [if_neg (by omega), Int.toNat_natCast, hkk]
  obtain ⟨b3, o3, hu3, c3⟩ : ∃ b3 o3, (∃ uc, u = .slice (some ⟨b3, o3, none⟩) 4 uc) ∧ w1.cell? ⟨b3, o3 + key % 4, none⟩ = some (.int .i64 y) := by
    obtain ⟨ua, uc, rfl, _, _⟩ := hu.slc
    obtain ⟨b3, o3, rfl, c3⟩ := hu.cellP (key % 4) (by simp; omega)
    refine ⟨b3, o3, ⟨uc, rfl⟩, ?_⟩
    rw [c3, ← he, hy]
  obtain ⟨uc, rfl⟩ := hu3
  have e4 := rem4 key
  obtain ⟨q, hq⟩ : ∃ q, q = key % 4 := ⟨_, rfl⟩
  rw [← hq] at e4 c3
  have hq3 : (q : Int) ≤ 3 := by omega
  have hq4 : (q : Int) < 4 := by omega
  clear hu hkk he hs hy hq
  go_wp2
  go_ret
  exact ⟨rfl, A1.out.below⟩

/-- A version is there. -/
abbrev thP (m : List Nd) (vs : List Int) (x : Int) : Prop := okP m vs ∧ 0 ≤ x ∧ x < (vs.length : Int)
theorem bol_of (P : Prop) : ∃ g : Bool, g = true ↔ P := by
  rcases Classical.em P with h | h
  · exact ⟨true, fun _ => h, fun _ => rfl⟩
  · exact ⟨false, fun e => by simp at e, fun e => absurd e h⟩
theorem bol_no {g : Bool} {P : Prop} (h : g = true ↔ P) (hn : ¬ P) : g = false := by
  cases g with
  | false => rfl
  | true => exact absurd (h.1 rfl) hn

set_option maxRecDepth 100000 in
set_option maxHeartbeats 1600000 in
theorem hasVersion_calls (p r : Value) (m : List Nd) (vs : List Int) (x : Int) (t : Bool) (w : World) (h : RdP w p r m vs) (ht : t = true ↔ thP m vs x) :
    Calls Try.prog 91 #[.agg #[p, r], .int .i64 x] w fun e' w' => e' = .returned (.bool t) ∧ Below w.heap.size w w' := by
  have A0 := hide ((Hand.start w).box #[p, r] 43)
  have R := hide (h.below A0.out.below)
  obtain ⟨⟨ap, cp, rfl, _⟩, ⟨ar, cr, rfl, hr1, hr2, _⟩⟩ := h
  have hrm : vs.length ≤ maxLen := by omega
  unfold maxLen at hrm
  clear hr1 hr2
  obtain ⟨g, hg⟩ := okP_bol m vs
  have HG := hide hg
  have HT := hide ht
  clear hg ht
  go_enter Try.func91, Try.ntmps91
  go_wp2_with fail
  refine (goodPool_calls _ _ m vs g _ R.out HG.out).mono ?_
  rintro e' w1 ⟨rfl, b0⟩
  have A1 := hide (A0.out.step b0)
  clear b0 A0
  obtain ⟨p0, p1⟩ := (A1.out.atBox 0 rfl).c2
  cases g with
  | false =>
    obtain rfl := bol_no HT.out (fun h => absurd (HG.out.2 h.1) (by simp))
    go_wp2
    go_ret
    exact ⟨rfl, A1.out.below⟩
  | true =>
    by_cases h0 : 0 ≤ x
    case neg =>
      obtain rfl := bol_no HT.out (fun h => h0 h.2.1)
      have h0b : decide (0 ≤ x) = false := decide_eq_false h0
      go_wp2
      go_ret
      exact ⟨rfl, A1.out.below⟩
    have h0b : decide (0 ≤ x) = true := decide_eq_true h0
    by_cases h1 : x < (vs.length : Int)
    · obtain rfl : t = true := HT.out.2 ⟨HG.out.1 rfl, h0, h1⟩
      go_wp2
      go_ret
      exact ⟨ret_bolP (by simp), A1.out.below⟩
    · obtain rfl := bol_no HT.out (fun h => h1 h.2.2)
      go_wp2
      go_ret
      exact ⟨ret_bolP (by simp; omega), A1.out.below⟩

set_option maxRecDepth 100000 in
set_option maxHeartbeats 1600000 in
theorem l11There_calls (p r : Value) (m : List Nd) (vs : List Int) (x : Int) (t : Bool) (w : World) (h : RdP w p r m vs) (ht : t = true ↔ thP m vs x) :
    Calls Try.prog 88 #[.agg #[p, r], .int .i64 x] w fun e' w' => e' = .returned (.bool t) ∧ Below w.heap.size w w' := by
  have A0 := hide ((Hand.start w).box #[p, r] 43)
  have R := hide (h.below A0.out.below)
  obtain ⟨⟨ap, cp, rfl, _⟩, ⟨ar, cr, rfl, hr1, hr2, _⟩⟩ := h
  have hrm : vs.length ≤ maxLen := by omega
  unfold maxLen at hrm
  clear hr1 hr2
  obtain ⟨g, hg⟩ := okP_bol m vs
  have HG := hide hg
  have HT := hide ht
  clear hg ht
  go_enter Try.func88, Try.ntmps88
  go_wp2_with fail
  refine (sGoodPool_calls _ _ m vs g _ R.out HG.out).mono ?_
  rintro e' w1 ⟨rfl, b0⟩
  have A1 := hide (A0.out.step b0)
  clear b0 A0
  obtain ⟨p0, p1⟩ := (A1.out.atBox 0 rfl).c2
  cases g with
  | false =>
    obtain rfl := bol_no HT.out (fun h => absurd (HG.out.2 h.1) (by simp))
    go_wp2
    go_ret
    exact ⟨rfl, A1.out.below⟩
  | true =>
    by_cases h0 : 0 ≤ x
    case neg =>
      obtain rfl := bol_no HT.out (fun h => h0 h.2.1)
      have h0b : decide (0 ≤ x) = false := decide_eq_false h0
      go_wp2
      go_ret
      exact ⟨rfl, A1.out.below⟩
    have h0b : decide (0 ≤ x) = true := decide_eq_true h0
    by_cases h1 : x < (vs.length : Int)
    · obtain rfl : t = true := HT.out.2 ⟨HG.out.1 rfl, h0, h1⟩
      go_wp2
      go_ret
      exact ⟨ret_bolP (by simp), A1.out.below⟩
    · obtain rfl := bol_no HT.out (fun h => h1 h.2.2)
      go_wp2
      go_ret
      exact ⟨ret_bolP (by simp; omega), A1.out.below⟩

abbrev keyOk (k : Int) : Prop := 0 ≤ k ∧ k < 16
set_option maxRecDepth 100000 in
theorem isMapKey_calls (k : Int) (w : World) :
    Calls Try.prog 92 #[.int .i64 k] w fun e w' => e = .returned (.bool (decide (keyOk k))) ∧ w = w' := by
  by_cases h0 : 0 ≤ k
  · by_cases h1 : k < 16
    · rw [decide_eq_true ⟨h0, h1⟩]
      go_enter Try.func92, Try.ntmps92
      go_wp2
      go_ret
      exact ⟨ret_bolP (by simp), rfl⟩
    · rw [decide_eq_false (fun h => h1 h.2)]
      go_enter Try.func92, Try.ntmps92
      go_wp2
      go_ret
      exact ⟨ret_bolP (by simp), rfl⟩
  · rw [decide_eq_false (fun h => h0 h.1)]
    have h0b : decide (0 ≤ k) = false := decide_eq_false h0
    go_enter Try.func92, Try.ntmps92
    go_wp2
    go_ret
    exact ⟨rfl, rfl⟩
set_option maxRecDepth 100000 in
theorem l11Key_calls (k : Int) (w : World) :
    Calls Try.prog 89 #[.int .i64 k] w fun e w' => e = .returned (.bool (decide (keyOk k))) ∧ w = w' := by
  by_cases hk : keyOk k
  · rw [decide_eq_true hk]
    have HK := hide hk
    clear hk
    go_enter Try.func89, Try.ntmps89
    go_wp2_with fail
    refine (l1In_yes k 0 15 _ HK.out.1 (by have := HK.out.2; omega)).mono ?_
    rintro e' w1 ⟨rfl, rfl⟩
    go_wp2
    go_ret
    exact ⟨rfl, rfl⟩
  · rw [decide_eq_false hk]
    have HK := hide hk
    clear hk
    go_enter Try.func89, Try.ntmps89
    go_wp2_with fail
    refine (l1In_no k 0 15 _ (by have := HK.out; unfold keyOk at this; omega)).mono ?_
    rintro e' w1 ⟨rfl, rfl⟩
    go_wp2
    go_ret
    exact ⟨rfl, rfl⟩

set_option maxRecDepth 100000 in
set_option maxHeartbeats 1600000 in
theorem getIn_calls (p r : Value) (m : List Nd) (vs : List Int) (x k : Int) (t : Bool) (y : Int) (w : World) (h : RdP w p r m vs) (ht : t = true ↔ thP m vs x ∧ keyOk k) (hy : y = if t = true then getF m vs x.toNat k.toNat else 0) :
    Calls Try.prog 36 #[.agg #[p, r], .int .i64 x, .int .i64 k] w fun e' w' => e' = .returned (.tuple #[.int .i64 y, .bool t]) ∧ Below w.heap.size w w' := by
  have A0 := hide ((Hand.start w).box #[p, r] 43)
  have R := hide (h.below A0.out.below)
  obtain ⟨⟨ap, cp, rfl, _⟩, ⟨ar, cr, rfl, _⟩⟩ := h
  obtain ⟨g, hg⟩ := bol_of (thP m vs x)
  have HG := hide hg
  have HT := hide ht
  have HY := hide hy
  clear hg ht hy
  go_enter Try.func36, Try.ntmps36
  go_wp2_with fail
  refine (hasVersion_calls _ _ m vs x g _ R.out HG.out).mono ?_
  rintro e' w1 ⟨rfl, b0⟩
  have A1 := hide (A0.out.step b0)
  have R1 := hide (R.out.below b0)
  clear b0 A0 R
  obtain ⟨p0, p1⟩ := (A1.out.atBox 0 rfl).c2
  cases g with
  | false =>
    obtain rfl := bol_no HT.out (fun h => absurd (HG.out.2 h.1) (by simp))
    obtain rfl : y = 0 := HY.out
    go_wp2
    go_ret2
    exact ⟨rfl, A1.out.below⟩
  | true =>
    have TH := hide (HG.out.1 rfl)
    go_wp2_with fail
    refine (isMapKey_calls k _).mono ?_
    rintro e' w2 ⟨rfl, rfl⟩
    by_cases hk : keyOk k
    case neg =>
      obtain rfl := bol_no HT.out (fun h => hk h.2)
      obtain rfl : y = 0 := HY.out
      rw [decide_eq_false hk]
      clear hk
      go_wp2
      go_ret2
      exact ⟨rfl, A1.out.below⟩
    rw [decide_eq_true hk]
    have th := TH.out
    obtain rfl : t = true := HT.out.2 ⟨th, hk⟩
    obtain ⟨ver, rfl⟩ : ∃ n : Nat, x = (n : Int) := ⟨x.toNat, by have := th.2.1; omega⟩
    obtain ⟨key, rfl⟩ : ∃ n : Nat, k = (n : Int) := ⟨k.toNat, by have := hk.1; omega⟩
    have OK := hide th.1
    have hv : ver < vs.length := by have := th.2.2; omega
    have hk16 : key < 16 := by have := hk.2; omega
    have HE : Hid (getF m vs ver key = y) := HY.out.symm
    clear th hk
    go_wp2_with fail
    refine (valueIn_calls _ _ m vs ver key y _ R1.out OK.out hv hk16 HE.out).mono ?_
    rintro e' w3 ⟨rfl, b0⟩
    have A2 := hide (A1.out.step b0)
    clear b0 A1 R1
    go_wp2
    go_ret2
    exact ⟨rfl, A2.out.below⟩

set_option maxRecDepth 100000 in
set_option maxHeartbeats 1600000 in
theorem sGetIn_calls (p r : Value) (m : List Nd) (vs : List Int) (x k : Int) (t : Bool) (y : Int) (w : World) (h : RdP w p r m vs) (ht : t = true ↔ thP m vs x ∧ keyOk k) (hy : y = if t = true then getF m vs x.toNat k.toNat else 0) :
    Calls Try.prog 35 #[.agg #[p, r], .int .i64 x, .int .i64 k] w fun e' w' => e' = .returned (.tuple #[.int .i64 y, .bool t]) ∧ Below w.heap.size w w' := by
  have A0 := hide ((Hand.start w).box #[p, r] 43)
  have R := hide (h.below A0.out.below)
  obtain ⟨⟨ap, cp, rfl, _⟩, ⟨ar, cr, rfl, _⟩⟩ := h
  obtain ⟨g, hg⟩ := bol_of (thP m vs x)
  have HG := hide hg
  have HT := hide ht
  have HY := hide hy
  clear hg ht hy
  go_enter Try.func35, Try.ntmps35
  go_wp2_with fail
  refine (l11There_calls _ _ m vs x g _ R.out HG.out).mono ?_
  rintro e' w1 ⟨rfl, b0⟩
  have A1 := hide (A0.out.step b0)
  have R1 := hide (R.out.below b0)
  clear b0 A0 R
  obtain ⟨p0, p1⟩ := (A1.out.atBox 0 rfl).c2
  cases g with
  | false =>
    obtain rfl := bol_no HT.out (fun h => absurd (HG.out.2 h.1) (by simp))
    obtain rfl : y = 0 := HY.out
    go_wp2
    go_ret2
    exact ⟨rfl, A1.out.below⟩
  | true =>
    have TH := hide (HG.out.1 rfl)
    go_wp2_with fail
    refine (l11Key_calls k _).mono ?_
    rintro e' w2 ⟨rfl, rfl⟩
    by_cases hk : keyOk k
    case neg =>
      obtain rfl := bol_no HT.out (fun h => hk h.2)
      obtain rfl : y = 0 := HY.out
      rw [decide_eq_false hk]
      clear hk
      go_wp2
      go_ret2
      exact ⟨rfl, A1.out.below⟩
    rw [decide_eq_true hk]
    have th := TH.out
    obtain rfl : t = true := HT.out.2 ⟨th, hk⟩
    obtain ⟨ver, rfl⟩ : ∃ n : Nat, x = (n : Int) := ⟨x.toNat, by have := th.2.1; omega⟩
    obtain ⟨key, rfl⟩ : ∃ n : Nat, k = (n : Int) := ⟨k.toNat, by have := hk.1; omega⟩
    have OK := hide th.1
    have hv : ver < vs.length := by have := th.2.2; omega
    have hk16 : key < 16 := by have := hk.2; omega
    have HE : Hid (getF m vs ver key = y) := HY.out.symm
    clear th hk
    go_wp2_with fail
    refine (l11Get_calls _ _ m vs ver key y _ R1.out OK.out hv hk16 HE.out).mono ?_
    rintro e' w3 ⟨rfl, b0⟩
    have A2 := hide (A1.out.step b0)
    clear b0 A1 R1
    go_wp2
    go_ret2
    exact ⟨rfl, A2.out.below⟩
end Go.Proofs.Ythmijjcddjlebaa

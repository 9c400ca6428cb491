/-
  Copies by the program: copyList, copyNode, eachOf and copyGraph, call by call. Each contract says what it asks.
-/
import Derived.Test.YtakhggnbhjoojaaGnf
import Derived.Test.YtakhggnbhjoojaaNdg
namespace Go.Proofs.Ytakhggnbhjoojaa
open Go.RowKit
set_option linter.unusedVariables false

theorem Hand.twoN (w : World) (c1 c2 : Array Value) (T1 T2 : TypeId) : Hand w ((w.alloc (.cells c1 T1)).alloc (.cells c2 T2)) [TBox (w.heap.size + 1) c2 T2, TBox w.heap.size c1 T1] := by
  have h := ((Hand.start w).box c1 T1).box c2 T2
  simpa only [World.size_alloc] using h

set_option maxRecDepth 100000 in
set_option maxHeartbeats 400000 in
theorem copyInts_calls (v : Value) (xs : List Int) (w : World) (h : Rd w v xs) (hn : xs.length ≤ 1048576) :
    Calls Try.prog 73 #[v] w fun e w' => ∃ v', e = .returned v' ∧ Own w' w.heap.size v' xs ∧ Below w.heap.size w w' := by
  have R := hide h
  obtain ⟨a, cap, rfl, h1, h2, h3⟩ := h
  clear h1 h2 h3
  go_enter Try.func73, Try.ntmps73
  go_wp2_with (at_make; refine wpList_make_ints rfl _ _ rfl w.heap.size _ _ xs.length rfl rfl (by omega) (by omega) (by omega) (Nat.le_refl _) ?_)
  intro w1 ho hg
  have O := hide ho
  have B := hide ((Below.refl w.heap.size w).grown hg (Nat.le_refl _) (fun k h => by cases h))
  clear ho hg
  go_wp2_with (refine wpList_copy_fresh rfl _ _ rfl w.heap.size w.heap.size xs.length (List.replicate xs.length 0) rfl O.out _ rfl xs (R.out.below B.out) (Nat.le_refl _) (Nat.le_refl _) (by unfold maxLen; omega) w.heap.size w B.out (Nat.le_refl _) ?_)
  intro w2 o2 b2 g2
  have O2 := hide o2
  have B2 := hide b2
  clear o2 b2 g2
  go_wp2
  go_ret
  exact ⟨_, rfl, O2.out, B2.out⟩

set_option linter.unusedSimpArgs false in
set_option maxRecDepth 100000 in
set_option maxHeartbeats 800000 in
theorem copyNode_calls (v : Value) (ks : List Int) (z : Bool) (w : World) (h : Rd w v ks) (hks : ks.length ≤ 1048576) :
    Calls Try.prog 72 #[.agg #[v, .bool z]] w fun e w' => ∃ v', e = .returned (.agg #[v', .bool z]) ∧ Own w' w.heap.size v' ks ∧ Below w.heap.size w w' := by
  have U := hide h
  obtain ⟨ua, uc, rfl, _, _⟩ := h.slc
  have A0 := hide (Hand.twoN w #[.slice ua ks.length uc, .bool z] #[.slice none 0 0, .bool false] 84 84)
  clear h
  go_enter Try.func72, Try.ntmps72
  go_wp2
  refine wp_region_noPanic ?_
  refine wp_region_held_drew (S := fun w' => w'.cell? ⟨w.heap.size, 0, none⟩ = some (.slice ua ks.length uc) ∧ w'.cell? ⟨w.heap.size, 1, none⟩ = some (.bool z)) (by kernel_rfl) ((A0.out.step (Below.refl _ _).drew).atBox 1 rfl |>.c2) (fun hHeld => ?_)
  have G0 := hide (A0.out.step (Below.refl _ _).drew)
  clear A0
  generalize World.drew _ = V0 at *
  refine wpAnyH_take (i := 0) (v := ?v1) rfl (by kernel_rfl) (by kernel_rfl) (by kernel_rfl) (fun _ _ _ h => h) (Or.inl ⟨by rfl, ?hy1⟩) (by assumption) ?rest1
  case hy1 => (intro w' hSw; dsimp only [List.getElem_toArray, List.getElem_cons_zero, List.getElem_cons_succ] at hSw ⊢; go_simp; try (with_reducible rfl))
  try simp only [Act.put, List.getElem_toArray, List.getElem_cons_zero, List.getElem_cons_succ, List.setIfInBounds_toArray, List.set_cons_zero, List.set_cons_succ]
  refine wpAnyH_take (i := 1) (v := ?v2) rfl (by kernel_rfl) (by kernel_rfl) (by kernel_rfl) (fun _ _ _ h => h) (Or.inl ⟨by rfl, ?hy2⟩) (by assumption) ?rest2
  case hy2 => (intro w' hSw; dsimp only [List.getElem_toArray, List.getElem_cons_zero, List.getElem_cons_succ] at hSw ⊢; go_simp; try (with_reducible rfl))
  try simp only [Act.put, List.getElem_toArray, List.getElem_cons_zero, List.getElem_cons_succ, List.setIfInBounds_toArray, List.set_cons_zero, List.set_cons_succ]
  refine wpAnyH_take (i := 3) (v := ?v3) rfl (by kernel_rfl) (by kernel_rfl) (by kernel_rfl) (fun _ _ _ h => h) (Or.inl ⟨by rfl, ?hy3⟩) (by assumption) ?rest3
  case hy3 => (intro w' hSw; dsimp only [List.getElem_toArray, List.getElem_cons_zero, List.getElem_cons_succ] at hSw ⊢; go_simp; try (with_reducible rfl))
  try simp only [Act.put, List.getElem_toArray, List.getElem_cons_zero, List.getElem_cons_succ, List.setIfInBounds_toArray, List.set_cons_zero, List.set_cons_succ]
  refine wpAnyH_take (i := 4) (v := ?v4) rfl (by kernel_rfl) (by kernel_rfl) (by kernel_rfl) (fun _ _ _ h => h) (Or.inl ⟨by rfl, ?hy4⟩) (by assumption) ?rest4
  case hy4 => (intro w' hSw; dsimp only [List.getElem_toArray, List.getElem_cons_zero, List.getElem_cons_succ] at hSw ⊢; go_simp; try (with_reducible rfl))
  try simp only [Act.put, List.getElem_toArray, List.getElem_cons_zero, List.getElem_cons_succ, List.setIfInBounds_toArray, List.set_cons_zero, List.set_cons_succ]
  refine wpAnyH_ready (rs := [2]) (by kernel_rfl) (by simp) ?_
  refine AllReadyH.cons rfl (fun K hK => ?_) AllReadyH.nil
  dsimp only [List.getElem_toArray, List.getElem_cons_zero, List.getElem_cons_succ]
  go_simp
  refine (copyInts_calls _ ks _ (U.out.below G0.out.below) hks).mono ?_
  rintro e' u1 ⟨v1, rfl, o1, b1⟩
  obtain ⟨a1, k1, rfl⟩ := row_slice o1
  have G1 := hide (G0.out.add b1 (TInts.st _ _) ⟨o1, row_top o1⟩)
  clear b1 o1 G0
  refine hK.out _ _ ((G1.out.atBox 2 rfl).c2) (fun hHeld => ?_)
  clear hK K
  try simp only [Act.put, List.getElem_toArray, List.getElem_cons_zero, List.getElem_cons_succ, List.setIfInBounds_toArray, List.set_cons_zero, List.set_cons_succ]
  refine wpAnyH_take (i := 5) (v := ?v5) rfl (by kernel_rfl) (by kernel_rfl) (by kernel_rfl) (fun _ _ _ h => h) (Or.inl ⟨by rfl, ?hy5⟩) (by assumption) ?rest5
  case hy5 => (intro w' hSw; dsimp only [List.getElem_toArray, List.getElem_cons_zero, List.getElem_cons_succ] at hSw ⊢; go_simp; try (with_reducible rfl))
  try simp only [Act.put, List.getElem_toArray, List.getElem_cons_zero, List.getElem_cons_succ, List.setIfInBounds_toArray, List.set_cons_zero, List.set_cons_succ]
  refine wpAnyH_ready (rs := [6]) (by kernel_rfl) (by simp) ?_
  refine AllReadyH.cons rfl (fun K hK => ?_) AllReadyH.nil
  have xr := G1.out.atBox 1 rfl
  obtain ⟨d0, d1⟩ := xr.c2
  have g0 := xr.frozen 0
  have g1 := xr.frozen 1
  have G2 := hide (G1.out.store2 1 rfl (.slice a1 ks.length k1) (.bool z))
  dsimp only [List.getElem_toArray, List.getElem_cons_zero, List.getElem_cons_succ]
  go_simp
  clear xr d0 d1 g0 g1 G1
  refine hK.out _ _ ((G2.out.atBox 2 rfl).c2) (fun hHeld => ?_)
  clear hK K
  try simp only [Act.put, List.getElem_toArray, List.getElem_cons_zero, List.getElem_cons_succ, List.setIfInBounds_toArray, List.set_cons_zero, List.set_cons_succ]
  refine wpAnyH_done (by kernel_rfl) ?_ _
  refine NoPanic.normal ?_
  clear hHeld
  go_wp2
  exact bodyPost_ret (res_nd rfl _ _ (w.heap.size + 1) _ _ (0, 0) rfl (G2.out.atBox 1 rfl)) rfl ⟨_, rfl, G2.out.wideI 0 rfl, G2.out.below⟩

set_option linter.unusedSimpArgs false in
set_option maxRecDepth 100000 in
set_option maxHeartbeats 1600000 in
theorem eachOf_calls (v : Value) (m : List Nd) (w : World) (h : RdN w v m) (hn : m.length + totN m ≤ 1048576) :
    Calls Try.prog 71 #[v, .func (.func 72) #[] #[]] w fun e w' => ∃ g, e = .returned (.slice (some ⟨g, 0, none⟩) m.length m.length) ∧ TNds (.slice (some ⟨g, 0, none⟩) m.length m.length) m w.heap.size w'.heap.size w' ∧ Below w.heap.size w w' := by
  have R := hide h
  obtain ⟨a, cap, rfl, h1, h2, h3⟩ := h
  clear h3 h2 h1
  have hn1 : m.length ≤ 1048576 := by omega
  have Hn := hide hn
  clear hn
  go_enter Try.func71, Try.ntmps71
  go_wp2_with (at_make; refine wpList_make_nds rfl _ _ rfl _ _ m.length rfl rfl (by omega) (by omega) hn1 ?_)
  intro w0 hm0 hg0
  have M0 := hide hm0
  have G0 := hide hg0
  clear hm0 hg0
  go_wp2
  go_loopw [13] (fun vi wr => ∃ (k : Nat) (us : List Value), k ≤ m.length ∧ vi = .int .i64 k ∧ NdV wr w.heap.size wr.heap.size (.slice (some ⟨w.heap.size, 0, none⟩) m.length m.length) [] us [] (cpN m k) ∧ Below w.heap.size w wr) (fun vi _ => m.length - (intOf vi).toNat)
  case atStart => exact ⟨0, _, Nat.zero_le _, rfl, by rw [cpN_zero]; exact M0.out, (Below.refl _ _).grown G0.out (Nat.le_refl _) (fun k h => by cases h)⟩
  case round =>
    obtain ⟨k, us, hk, rfl, hm, hb⟩ := hrel
    have M := hide hm
    have B := hide hb
    clear hm hb M0 G0
    by_cases hlt : k < m.length
    · obtain ⟨b, off, u, ks, z, rfl, hx, hu, c0, c1⟩ := (R.out.below B.out).at k hlt
      have HX := hide hx
      have hks : ks.length ≤ 1048576 := by
        have hr := totN_row_le m k hlt
        rw [hx] at hr
        have := Hn.out
        simp only at hr
        omega
      have hlt' : (k : Int) < (m.length : Int) := by omega
      obtain ⟨ua, uc, rfl, _, _⟩ := hu.slc
      obtain ⟨w6, hw6⟩ : ∃ w1, w1 = wr.alloc (.cells #[.slice ua ks.length uc, .bool z] 84) := ⟨_, rfl⟩
      have b6 : Below wr.heap.size wr w6 := by rw [hw6]; exact below_box _ _
      have W6 : Hid (wr.alloc (.cells #[.slice ua ks.length uc, .bool z] 84) = w6) := hw6.symm
      have U := hide (hu.below b6)
      have M6 := hide (M.out.below b6)
      have B6 := hide (B.out.trans (b6.mono B.out.size))
      have hs6 := b6.size
      clear hu hx b6 hw6
      go_wp2_with fail
      rw [W6.out]
      refine (copyNode_calls _ ks z _ U.out hks).mono ?_
      rintro e w1 ⟨x, rfl, hx, hb1⟩
      obtain ⟨xa, xc, rfl⟩ := row_slice hx
      have M1 := hide (M6.out.below hb1)
      obtain ⟨d0, d1, f0, f1⟩ := M1.out.cells k (by rw [cpN_len m k hk]; exact hlt)
      have P := M1.out.setBoth (z := z) (hi2 := w1.heap.size) k (by rw [cpN_len m k hk]; exact hlt) hx hs6 B6.out.size (Nat.le_trans hs6 hb1.size) (row_top hx)
      have e1 : (cpN m k).set k (ks, z) = cpN m (k + 1) := by rw [← HX.out]; exact cpN_step m k hlt
      rw [e1] at P
      have Q4 := hide P
      have B1 := hide (B6.out.trans (hb1.mono B6.out.size))
      clear hb1 hx P e1 M1 M M6 hs6 B6
      go_wp2
      go_roundw
      case rel =>
        refine ⟨k + 1, us.set k (.slice xa ks.length xc), by omega, by go_num, ?_, ?_⟩
        · simpa using Q4.out
        · exact (B1.out.setCell (Nat.le_refl _) _).setCell (Nat.le_refl _) _
      case measure => simp [intOf]; omega
    · obtain rfl : k = m.length := by omega
      go_wp2
      go_ret
      refine ⟨_, rfl, ⟨us, ?_⟩, B.out⟩
      have := M.out
      rwa [cpN_end] at this

set_option linter.unusedSimpArgs false in
set_option maxRecDepth 100000 in
set_option maxHeartbeats 1600000 in
theorem copyGraph_calls (p r c : Value) (m : List Nd) (rs cs : List Int) (w : World) (h : RdG w p r c m rs cs) (hz : SzG m rs cs) :
    Calls Try.prog 86 #[.agg #[p, r, c]] w fun e w' => ∃ p' r' c', e = .returned (.agg #[p', r', c']) ∧ TGrf p' r' c' m rs cs w.heap.size w'.heap.size w' ∧ Below w.heap.size w w' := by
  have R := hide h
  have Z := hide hz
  obtain ⟨⟨ap, cp, rfl, _⟩, ⟨ar, cr, rfl, _⟩, ⟨ac, cc, rfl, _⟩⟩ := h
  have A0 := hide (Hand.twoN w #[.slice ap m.length cp, .slice ar rs.length cr, .slice ac cs.length cc] nilG 27 27)
  clear hz
  go_enter Try.func86, Try.ntmps86
  go_wp2
  refine wp_region_noPanic ?_
  refine wp_region_held_drew (S := fun w' => w'.cell? ⟨w.heap.size, 0, none⟩ = some (.slice ap m.length cp) ∧ w'.cell? ⟨w.heap.size, 1, none⟩ = some (.slice ar rs.length cr) ∧ w'.cell? ⟨w.heap.size, 2, none⟩ = some (.slice ac cs.length cc)) (by kernel_rfl) ((A0.out.step (Below.refl _ _).drew).atBox 1 rfl |>.c3) (fun hHeld => ?_)
  have G0 := hide (A0.out.step (Below.refl _ _).drew)
  clear A0
  generalize World.drew _ = V0 at *
  refine wpAnyH_take (i := 0) (v := ?v6) rfl (by kernel_rfl) (by kernel_rfl) (by kernel_rfl) (fun _ _ _ h => h) (Or.inl ⟨by rfl, ?hy6⟩) (by assumption) ?rest6
  case hy6 => (intro w' hSw; dsimp only [List.getElem_toArray, List.getElem_cons_zero, List.getElem_cons_succ] at hSw ⊢; go_simp; try (with_reducible rfl))
  try simp only [Act.put, List.getElem_toArray, List.getElem_cons_zero, List.getElem_cons_succ, List.setIfInBounds_toArray, List.set_cons_zero, List.set_cons_succ]
  refine wpAnyH_take (i := 1) (v := ?v7) rfl (by kernel_rfl) (by kernel_rfl) (by kernel_rfl) (fun _ _ _ h => h) (Or.inl ⟨by rfl, ?hy7⟩) (by assumption) ?rest7
  case hy7 => (intro w' hSw; dsimp only [List.getElem_toArray, List.getElem_cons_zero, List.getElem_cons_succ] at hSw ⊢; go_simp; try (with_reducible rfl))
  try simp only [Act.put, List.getElem_toArray, List.getElem_cons_zero, List.getElem_cons_succ, List.setIfInBounds_toArray, List.set_cons_zero, List.set_cons_succ]
  refine wpAnyH_take (i := 3) (v := ?v8) rfl (by kernel_rfl) (by kernel_rfl) (by kernel_rfl) (fun _ _ _ h => h) (Or.inl ⟨by rfl, ?hy8⟩) (by assumption) ?rest8
  case hy8 => (intro w' hSw; dsimp only [List.getElem_toArray, List.getElem_cons_zero, List.getElem_cons_succ] at hSw ⊢; go_simp; try (with_reducible rfl))
  try simp only [Act.put, List.getElem_toArray, List.getElem_cons_zero, List.getElem_cons_succ, List.setIfInBounds_toArray, List.set_cons_zero, List.set_cons_succ]
  refine wpAnyH_take (i := 4) (v := ?v9) rfl (by kernel_rfl) (by kernel_rfl) (by kernel_rfl) (fun _ _ _ h => h) (Or.inl ⟨by rfl, ?hy9⟩) (by assumption) ?rest9
  case hy9 => (intro w' hSw; dsimp only [List.getElem_toArray, List.getElem_cons_zero, List.getElem_cons_succ] at hSw ⊢; go_simp; try (with_reducible rfl))
  try simp only [Act.put, List.getElem_toArray, List.getElem_cons_zero, List.getElem_cons_succ, List.setIfInBounds_toArray, List.set_cons_zero, List.set_cons_succ]
  refine wpAnyH_take (i := 6) (v := ?v10) rfl (by kernel_rfl) (by kernel_rfl) (by kernel_rfl) (fun _ _ _ h => h) (Or.inl ⟨by rfl, ?hy10⟩) (by assumption) ?rest10
  case hy10 => (intro w' hSw; dsimp only [List.getElem_toArray, List.getElem_cons_zero, List.getElem_cons_succ] at hSw ⊢; go_simp; try (with_reducible rfl))
  try simp only [Act.put, List.getElem_toArray, List.getElem_cons_zero, List.getElem_cons_succ, List.setIfInBounds_toArray, List.set_cons_zero, List.set_cons_succ]
  refine wpAnyH_take (i := 7) (v := ?v11) rfl (by kernel_rfl) (by kernel_rfl) (by kernel_rfl) (fun _ _ _ h => h) (Or.inl ⟨by rfl, ?hy11⟩) (by assumption) ?rest11
  case hy11 => (intro w' hSw; dsimp only [List.getElem_toArray, List.getElem_cons_zero, List.getElem_cons_succ] at hSw ⊢; go_simp; try (with_reducible rfl))
  try simp only [Act.put, List.getElem_toArray, List.getElem_cons_zero, List.getElem_cons_succ, List.setIfInBounds_toArray, List.set_cons_zero, List.set_cons_succ]
  refine wpAnyH_ready (rs := [2]) (by kernel_rfl) (by simp) ?_
  refine AllReadyH.cons rfl (fun K hK => ?_) AllReadyH.nil
  dsimp only [List.getElem_toArray, List.getElem_cons_zero, List.getElem_cons_succ]
  go_simp
  refine (eachOf_calls _ m _ (R.out.1.below G0.out.below) Z.out.1).mono ?_
  rintro e' u1 ⟨g1, rfl, d1, b1⟩
  have G1 := hide (G0.out.add b1 (TNds.st _ _) d1)
  clear b1 d1 G0
  refine hK.out _ _ ((G1.out.atBox 2 rfl).c3) (fun hHeld => ?_)
  clear hK K
  try simp only [Act.put, List.getElem_toArray, List.getElem_cons_zero, List.getElem_cons_succ, List.setIfInBounds_toArray, List.set_cons_zero, List.set_cons_succ]
  refine wpAnyH_ready (rs := [5]) (by kernel_rfl) (by simp) ?_
  refine AllReadyH.cons rfl (fun K hK => ?_) AllReadyH.nil
  dsimp only [List.getElem_toArray, List.getElem_cons_zero, List.getElem_cons_succ]
  go_simp
  refine (copyInts_calls _ rs _ (R.out.2.1.below G1.out.below) Z.out.2.1).mono ?_
  rintro e' u2 ⟨v2, rfl, o2, b2⟩
  obtain ⟨a2, k2, rfl⟩ := row_slice o2
  have G2 := hide (G1.out.add b2 (TInts.st _ _) ⟨o2, row_top o2⟩)
  clear b2 o2 G1
  refine hK.out _ _ ((G2.out.atBox 3 rfl).c3) (fun hHeld => ?_)
  clear hK K
  try simp only [Act.put, List.getElem_toArray, List.getElem_cons_zero, List.getElem_cons_succ, List.setIfInBounds_toArray, List.set_cons_zero, List.set_cons_succ]
  refine wpAnyH_ready (rs := [8]) (by kernel_rfl) (by simp) ?_
  refine AllReadyH.cons rfl (fun K hK => ?_) AllReadyH.nil
  dsimp only [List.getElem_toArray, List.getElem_cons_zero, List.getElem_cons_succ]
  go_simp
  refine (copyInts_calls _ cs _ (R.out.2.2.below G2.out.below) Z.out.2.2).mono ?_
  rintro e' u3 ⟨v3, rfl, o3, b3⟩
  obtain ⟨a3, k3, rfl⟩ := row_slice o3
  have G3 := hide (G2.out.add b3 (TInts.st _ _) ⟨o3, row_top o3⟩)
  clear b3 o3 G2
  refine hK.out _ _ ((G3.out.atBox 4 rfl).c3) (fun hHeld => ?_)
  clear hK K
  try simp only [Act.put, List.getElem_toArray, List.getElem_cons_zero, List.getElem_cons_succ, List.setIfInBounds_toArray, List.set_cons_zero, List.set_cons_succ]
  refine wpAnyH_take (i := 9) (v := ?v12) rfl (by kernel_rfl) (by kernel_rfl) (by kernel_rfl) (fun _ _ _ h => h) (Or.inl ⟨by rfl, ?hy12⟩) (by assumption) ?rest12
  case hy12 => (intro w' hSw; dsimp only [List.getElem_toArray, List.getElem_cons_zero, List.getElem_cons_succ] at hSw ⊢; go_simp; try (with_reducible rfl))
  try simp only [Act.put, List.getElem_toArray, List.getElem_cons_zero, List.getElem_cons_succ, List.setIfInBounds_toArray, List.set_cons_zero, List.set_cons_succ]
  refine wpAnyH_ready (rs := [10]) (by kernel_rfl) (by simp) ?_
  refine AllReadyH.cons rfl (fun K hK => ?_) AllReadyH.nil
  have xr := G3.out.atBox 3 rfl
  obtain ⟨d0, d1, d2⟩ := xr.c3
  have f0 := xr.frozen 0
  have f1 := xr.frozen 1
  have f2 := xr.frozen 2
  have G4 := hide (G3.out.store3G 3 rfl (.slice (some ⟨g1, 0, none⟩) m.length m.length) (.slice a2 rs.length k2) (.slice a3 cs.length k3))
  dsimp only [List.getElem_toArray, List.getElem_cons_zero, List.getElem_cons_succ]
  go_simp
  clear xr d0 d1 d2 f0 f1 f2 G3
  refine hK.out _ _ ((G4.out.atBox 4 rfl).c3) (fun hHeld => ?_)
  clear hK K
  try simp only [Act.put, List.getElem_toArray, List.getElem_cons_zero, List.getElem_cons_succ, List.setIfInBounds_toArray, List.set_cons_zero, List.set_cons_succ]
  refine wpAnyH_done (by kernel_rfl) ?_ _
  refine NoPanic.normal ?_
  clear hHeld
  go_wp2
  exact bodyPost_ret (res_gr rfl _ _ (w.heap.size + 1) _ _ _ (0, 0) rfl (G4.out.atBox 3 rfl)) rfl ⟨_, _, _, rfl, G4.out.graph, G4.out.below⟩
end Go.Proofs.Ytakhggnbhjoojaa

/-
  One node holds another: LinkNode of the program and of the model, call by call. Each contract says what it asks.
-/
import Derived.Test.YtakhggnbhjoojaaGnk
namespace Go.Proofs.Ytakhggnbhjoojaa
open Go.RowKit
set_option linter.unusedVariables false

/-- What a node holds grows (where it lay, or in a new block), and is stored. -/
theorem NdV.appHold {w w' : World} {lo hi g n cap : Nat} {v' : Value} {es us : List Value} {qs : List (List Int)} {xs : List Nd} {r : List Int} (h : NdV w lo hi (.slice (some ⟨g, 0, none⟩) n cap) es us qs xs) (i : Nat) (hi' : i < xs.length) (ho : Own w' lo v' r) (hg : w.grownBy w' (us.getD i nilRow).ownBlock) (hat : v'.ownBlock = (us.getD i nilRow).ownBlock ∨ v'.ownBlock = some w.heap.size) (hh : hi ≤ w.heap.size) :
    NdV (w'.setCell ⟨g, i * 2, none⟩ v') lo w'.heap.size (.slice (some ⟨g, 0, none⟩) n cap) es (us.set i v') qs (xs.set i (r, (xs.getD i nd0).2)) := by
  obtain rfl := h.lenEq
  have e1 : (es ++ us).getD (qs.length + i) nilRow = us.getD i nilRow := getD_app_right es us _ i _ h.lenE
  have hk := World.ownsRow.kept h.head hg (h.off (h.row i hi'))
  have st := World.ownsRow.stored hk (i * 2) v'
  refine ⟨?_, fun k hk' => ?_, h.lenE, ?_⟩
  · have e := ndC_setHold us xs i v' (r, (xs.getD i nd0).2) rfl h.len hi'
    rw [List.length_set, ← e]
    exact st.1
  · have := h.top k hk'
    have := hg.size
    omega
  · rw [← nd_set, ← set_app_right qs _ _ i _ rfl, ← set_app_right es us _ i _ h.lenE]
    have P := h.rws.app (qs.length + i) (by simp; omega) ho (by rw [e1]; exact hg) (by rw [e1]; exact hat) hh
    refine P.kept st.2 fun j hj => ?_
    exact types_apart (P.row j hj) hk (by decide)
theorem BoxAt.offRow {w : World} {g : Nat} {cs : Array Value} {T e : TypeId} {lo n s g' c : Nat} {xs : List Value} (h : BoxAt w g cs T) (ho : w.ownsRow lo e s (.slice (some ⟨g', 0, none⟩) n c) n xs) (hne : e ≠ T) : g ≠ g' := by
  have := h.offT ho hne
  intro e
  subst e
  exact this rfl
theorem NdV.hiLe {w : World} {lo : Nat} {v : Value} {es us : List Value} {qs : List (List Int)} {xs : List Nd} (h : NdV w lo w.heap.size v es us qs xs) : w.heap.size ≤ w.heap.size := Nat.le_refl _
/-- A node can hold another. -/
abbrev lkOk (m : List Nd) (rs cs : List Int) (f t : Int) : Prop := thG m rs cs f ∧ okH m f.toNat t ∧ (m.getD f.toNat nd0).1.length ≠ 6
def lkN (m : List Nd) (f t : Int) : List Nd := m.set f.toNat ((m.getD f.toNat nd0).1 ++ [t], (m.getD f.toNat nd0).2)

set_option linter.unusedSimpArgs false in
set_option maxRecDepth 100000 in
set_option maxHeartbeats 1600000 in
theorem sLinkNode_calls (p r c : Value) (m : List Nd) (rs cs : List Int) (f t : Int) (ok : Bool) (w : World) (h : RdG w p r c m rs cs) (hok : ok = decide (lkOk m rs cs f t)) :
    Calls Try.prog 39 #[.agg #[p, r, c], .int .i64 f, .int .i64 t] w fun e w' => ∃ p' r' c', e = .returned (.tuple #[.agg #[p', r', c'], .bool ok]) ∧ TGrf p' r' c' (gX ok (lkN m f t)) (gX ok rs) (gX ok (bump cs t)) w.heap.size w'.heap.size w' ∧ Below w.heap.size w w' := by
  have R := hide h
  obtain ⟨⟨ap, cp, rfl, h1, h2, h3⟩, ⟨ar, cr, rfl, hr1, hr2, _⟩, ⟨ac, cc, rfl, _⟩⟩ := h
  have hmm : m.length ≤ maxLen := by omega
  have hcp : m.length ≤ cp := h1
  unfold maxLen at hmm
  have A0 := hide (Hand.twoN w #[.slice ap m.length cp, .slice ar rs.length cr, .slice ac cs.length cc] nilG 27 27)
  clear h1 h2 h3 hr1 hr2
  by_cases hf : thG m rs cs f
  case neg =>
    obtain rfl : ok = false := by rw [hok]; exact decide_eq_false (fun h => hf h.1)
    have E1 : Hid (decide (thG m rs cs f) = false) := decide_eq_false hf
    clear hok hf
    go_enter Try.func39, Try.ntmps39
    go_wp2_with fail
    refine (l10There_calls _ _ _ m rs cs _ _ (R.out.below A0.out.below)).mono ?_
    rw [E1.out]
    rintro e w1 ⟨rfl, b1⟩
    have A1 := hide (A0.out.step b1)
    clear b1
    have A8 := hide (A1.out)
    have x := A8.out.atBox 0 rfl
    obtain ⟨z0, z1, z2⟩ := x.c3
    have f0 := x.frozen 0
    have f1 := x.frozen 1
    have f2 := x.frozen 2
    obtain ⟨c0, c1, c2⟩ := (A8.out.atBox 1 rfl).c3
    have A9 := hide (A8.out.store3G 0 rfl nilRow nilRow nilRow)
    clear x A8
    go_wp2
    exact bodyPost_ret (res_gr2 rfl _ _ (w.heap.size + 1) _ _ _ (0, 0) rfl (A9.out.atBox 0 rfl)) rfl ⟨_, _, _, rfl, TGrf.nil _ _ _, A9.out.below⟩
  have E1 : Hid (decide (thG m rs cs f) = true) := decide_eq_true hf
  by_cases ht : thG m rs cs t
  case neg =>
    obtain rfl : ok = false := by
      rw [hok]
      refine decide_eq_false (fun h => ht ⟨hf.1, h.2.1.1, ?_, h.2.1.2.2⟩)
      have h8 := h.2.1.2.1
      have h9 := hf.2.1
      have h10 := hf.2.2.1
      omega
    have E2 : Hid (decide (thG m rs cs t) = false) := decide_eq_false ht
    clear hok hf ht
    go_enter Try.func39, Try.ntmps39
    go_wp2_with fail
    refine (l10There_calls _ _ _ m rs cs _ _ (R.out.below A0.out.below)).mono ?_
    rw [E1.out]
    rintro e w1 ⟨rfl, b1⟩
    have A1 := hide (A0.out.step b1)
    clear b1
    obtain ⟨c0, c1, c2⟩ := (A1.out.atBox 1 rfl).c3
    go_wp2_with fail
    refine (l10There_calls _ _ _ m rs cs _ _ (R.out.below A1.out.below)).mono ?_
    rw [E2.out]
    rintro e w2 ⟨rfl, b1⟩
    have A2 := hide (A1.out.step b1)
    clear b1 c0 c1 c2
    have A8 := hide (A2.out)
    have x := A8.out.atBox 0 rfl
    obtain ⟨z0, z1, z2⟩ := x.c3
    have f0 := x.frozen 0
    have f1 := x.frozen 1
    have f2 := x.frozen 2
    obtain ⟨c0, c1, c2⟩ := (A8.out.atBox 1 rfl).c3
    have A9 := hide (A8.out.store3G 0 rfl nilRow nilRow nilRow)
    clear x A8
    go_wp2
    exact bodyPost_ret (res_gr2 rfl _ _ (w.heap.size + 1) _ _ _ (0, 0) rfl (A9.out.atBox 0 rfl)) rfl ⟨_, _, _, rfl, TGrf.nil _ _ _, A9.out.below⟩
  have E2 : Hid (decide (thG m rs cs t) = true) := decide_eq_true ht
  by_cases hft : f ≤ t
  case pos =>
    obtain rfl : ok = false := by
      rw [hok]
      refine decide_eq_false (fun h => ?_)
      have h8 := h.2.1.2.1
      have h9 := hf.2.1
      omega
    clear hok hf ht
    go_enter Try.func39, Try.ntmps39
    go_wp2_with fail
    refine (l10There_calls _ _ _ m rs cs _ _ (R.out.below A0.out.below)).mono ?_
    rw [E1.out]
    rintro e w1 ⟨rfl, b1⟩
    have A1 := hide (A0.out.step b1)
    clear b1
    obtain ⟨c0, c1, c2⟩ := (A1.out.atBox 1 rfl).c3
    go_wp2_with fail
    refine (l10There_calls _ _ _ m rs cs _ _ (R.out.below A1.out.below)).mono ?_
    rw [E2.out]
    rintro e w2 ⟨rfl, b1⟩
    have A2 := hide (A1.out.step b1)
    clear b1 c0 c1 c2
    have A8 := hide (A2.out)
    have x := A8.out.atBox 0 rfl
    obtain ⟨z0, z1, z2⟩ := x.c3
    have f0 := x.frozen 0
    have f1 := x.frozen 1
    have f2 := x.frozen 2
    obtain ⟨c0, c1, c2⟩ := (A8.out.atBox 1 rfl).c3
    have A9 := hide (A8.out.store3G 0 rfl nilRow nilRow nilRow)
    clear x A8
    go_wp2
    exact bodyPost_ret (res_gr2 rfl _ _ (w.heap.size + 1) _ _ _ (0, 0) rfl (A9.out.atBox 0 rfl)) rfl ⟨_, _, _, rfl, TGrf.nil _ _ _, A9.out.below⟩
  have hft' : ¬ f ≤ t := hft
  obtain ⟨fn, hfn⟩ : ∃ fn : Nat, f = (fn : Int) := ⟨f.toNat, by have := hf.2.1; omega⟩
  obtain ⟨tn, htn⟩ : ∃ tn : Nat, t = (tn : Int) := ⟨t.toNat, by have := ht.2.1; omega⟩
  subst hfn htn
  have hfm : fn < m.length := by have := hf.2.2.1; omega
  have htf : tn < fn := by omega
  have TH : Hid (thG m rs cs (fn : Int)) := hf
  have OT : Hid (okH m fn (tn : Int)) := ⟨by omega, by omega, ht.2.2.2⟩
  by_cases h6 : (m.getD fn nd0).1.length = 6
  case pos =>
    obtain rfl : ok = false := by rw [hok]; exact decide_eq_false (fun h => h.2.2 (by rw [Int.toNat_natCast]; exact h6))
    have H6 := hide h6
    have HFM := hide hfm
    clear hok hf ht h6 htf hfm
    go_enter Try.func39, Try.ntmps39
    go_wp2_with fail
    refine (l10There_calls _ _ _ m rs cs _ _ (R.out.below A0.out.below)).mono ?_
    rw [E1.out]
    rintro e w1 ⟨rfl, b1⟩
    have A1 := hide (A0.out.step b1)
    clear b1
    obtain ⟨c0, c1, c2⟩ := (A1.out.atBox 1 rfl).c3
    go_wp2_with fail
    refine (l10There_calls _ _ _ m rs cs _ _ (R.out.below A1.out.below)).mono ?_
    rw [E2.out]
    rintro e w2 ⟨rfl, b1⟩
    have A2 := hide (A1.out.step b1)
    clear b1 c0 c1 c2
    obtain ⟨b, off, u, ks, z, rfl, hx, hu, d0, d1⟩ := (R.out.below A2.out.below).1.at fn HFM.out
    obtain ⟨ua, uc, rfl, _, _⟩ := hu.slc
    have hk6 : ks.length = 6 := by have := H6.out; rw [hx] at this; exact this
    have h6b : ((ks.length : Int) == 6) = true := by simp; omega
    have hfm : (fn : Int) < (m.length : Int) := by have := HFM.out; omega
    clear hx hu d1 hk6
    have A8 := hide (A2.out)
    have x := A8.out.atBox 0 rfl
    obtain ⟨z0, z1, z2⟩ := x.c3
    have f0 := x.frozen 0
    have f1 := x.frozen 1
    have f2 := x.frozen 2
    obtain ⟨c0, c1, c2⟩ := (A8.out.atBox 1 rfl).c3
    have A9 := hide (A8.out.store3G 0 rfl nilRow nilRow nilRow)
    clear x A8
    go_wp2
    exact bodyPost_ret (res_gr2 rfl _ _ (w.heap.size + 1) _ _ _ (0, 0) rfl (A9.out.atBox 0 rfl)) rfl ⟨_, _, _, rfl, TGrf.nil _ _ _, A9.out.below⟩
  obtain rfl : ok = true := by rw [hok]; exact decide_eq_true ⟨hf, by rw [Int.toNat_natCast]; exact OT.out, by rw [Int.toNat_natCast]; exact h6⟩
  have H6 := hide h6
  have HFM := hide hfm
  have HTF := hide htf
  clear hok hf ht h6 hfm htf
  have HCL := hide (good_len TH.out.1)
  have HBD : Hid (0 ≤ cs.getD tn 0 ∧ cs.getD tn 0 ≤ 90) := by
    have h8 := HTF.out
    have h9 := HFM.out
    exact (good_bd TH.out.1) tn (by rw [HCL.out]; omega)
  have SZ := hide (good_sz TH.out.1)
  have HK6 : Hid ((m.getD fn nd0).1.length ≤ 6) := (TH.out.1.1.1.2 fn HFM.out).2.1
  go_enter Try.func39, Try.ntmps39
  go_wp2_with fail
  refine (l10There_calls _ _ _ m rs cs _ _ (R.out.below A0.out.below)).mono ?_
  rw [E1.out]
  rintro e w1 ⟨rfl, b1⟩
  have A1 := hide (A0.out.step b1)
  clear b1
  obtain ⟨c0, c1, c2⟩ := (A1.out.atBox 1 rfl).c3
  go_wp2_with fail
  refine (l10There_calls _ _ _ m rs cs _ _ (R.out.below A1.out.below)).mono ?_
  rw [E2.out]
  rintro e w2 ⟨rfl, b1⟩
  have A2 := hide (A1.out.step b1)
  clear b1 c0 c1 c2
  obtain ⟨b, off, u, ks, z, rfl, hx, hu, d0, d1⟩ := (R.out.below A2.out.below).1.at fn HFM.out
  obtain ⟨ua, uc, rfl, _, _⟩ := hu.slc
  have hk6 : ks.length ≠ 6 := by have := H6.out; rw [hx] at this; exact this
  have h6b : ((ks.length : Int) == 6) = false := by simp; omega
  have hfm : (fn : Int) < (m.length : Int) := by have := HFM.out; omega
  clear hx hu d1 hk6
  obtain ⟨c0, c1, c2⟩ := (A2.out.atBox 1 rfl).c3
  go_wp2_with fail
  refine (l10Own_calls _ _ _ m rs cs _ (R.out.below A2.out.below) SZ.out).mono ?_
  rintro e w4 ⟨p4, r4, c4, rfl, d4, b4⟩
  obtain ⟨ap4, cp4, ar4, cr4, ac4, cc4, rfl, rfl, rfl⟩ := d4.sls
  have A5 := (A2.out.add b4 (TGrf.st _ _ _ _ _ _) d4).box #[.slice ap4 m.length cp4, .slice ar4 rs.length cr4, .slice ac4 cs.length cc4] 27
  obtain ⟨lo5, hi5, ⟨us5, d5⟩, hl5, hh5, put5⟩ := A5.open 1 rfl
  have d5' := d5.wider (lo' := w.heap.size) (hi' := (w4.alloc (.cells #[.slice ap4 m.length cp4, .slice ar4 rs.length cr4, .slice ac4 cs.length cc4] 27)).heap.size) hl5 hh5
  have gb := A5.atBox 0 rfl
  have xb := A5.atBox 2 rfl
  have ab := A5.below
  have hfm0 := HFM.out
  have htc : tn < cs.length := by have h8 := HTF.out; have h9 := HCL.out; omega
  have HTC := hide htc
  obtain ⟨gc, kc, hc, _⟩ := own_put (d5'.rowE 1 (by simp)) (n := tn) htc
  simp only [List.getD_cons_zero, List.getD_cons_succ, Value.slice.injEq, true_and] at hc
  obtain ⟨rfl, rfl⟩ := hc
  obtain ⟨gp, kp, hp, _⟩ := d5'.form (by omega)
  simp only [Value.slice.injEq, true_and] at hp
  obtain ⟨rfl, rfl⟩ := hp
  obtain ⟨nc, _, _, _⟩ := d5'.cells fn hfm0
  obtain ⟨hb, hc, hu⟩ := row_slice (d5'.row fn hfm0)
  obtain ⟨hl, hhl⟩ : ∃ hl, hl = (m.getD fn nd0).1.length := ⟨_, rfl⟩
  rw [← hhl] at hu
  have HU := hide hu
  rw [hu] at nc
  have NC := hide nc
  obtain ⟨w4b, hw4b⟩ : ∃ w4b, w4b = w4.alloc (.cells #[.slice (some ⟨gp, 0, none⟩) m.length cp4, .slice ar4 rs.length cr4, .slice (some ⟨gc, 0, none⟩) cs.length cc4] 27) := ⟨_, rfl⟩
  have W4B : Hid (w4.alloc (.cells #[.slice (some ⟨gp, 0, none⟩) m.length cp4, .slice ar4 rs.length cr4, .slice (some ⟨gc, 0, none⟩) cs.length cc4] 27) = w4b) := hw4b.symm
  rw [W4B.out] at d5' gb xb ab NC
  have D4 := hide d5'
  have GB := hide gb
  have XB := hide xb
  have AB := hide ab
  clear b4 d4 A2 A5 d5 d5' gb xb ab nc hw4b put5 lo5 hi5 hl5 hh5 hfm0 htc c0 c1 c2 d0 h6b hu hhl
  have hfm : (fn : Int) < (m.length : Int) := by have := HFM.out; omega
  have hf0 : (0 : Int) ≤ (fn : Int) := by omega
  go_wp2
  rw [W4B.out]
  refine wp_region_noPanic ?_
  refine wp_region_held_drew (S := fun w' => w'.cell? ⟨w4.heap.size, 0, none⟩ = some (.slice (some ⟨gp, 0, none⟩) m.length cp4)) (by kernel_rfl) ((GB.out.below (Below.refl _ _).drew).cell 0) (fun hHeld => ?_)
  have D5 : Hid (NdV (World.drew w4b) w.heap.size (World.drew w4b).heap.size _ _ _ _ _) := D4.out.below (Below.refl _ _).drew
  have GB5 := hide (GB.out.below (Below.refl _ _).drew)
  have XB5 := hide (XB.out.below (Below.refl _ _).drew)
  have AB5 := hide (AB.out.trans ((Below.refl _ _).drew.mono AB.out.size))
  have NC5 := hide (cell_below NC.out (Below.refl _ _).drew)
  clear D4 GB XB AB NC
  generalize World.drew _ = V0 at *
  refine wpAnyH_take (i := 0) (v := ?v1) rfl (by kernel_rfl) (by kernel_rfl) (by kernel_rfl) (fun _ _ _ h => h) (Or.inl ⟨by rfl, ?hy1⟩) (by assumption) ?rest1
  case hy1 => (intro w' hSw; dsimp only [List.getElem_toArray, List.getElem_cons_zero, List.getElem_cons_succ] at hSw ⊢; go_simp; try (with_reducible rfl))
  try simp only [Act.put, List.getElem_toArray, List.getElem_cons_zero, List.getElem_cons_succ, List.setIfInBounds_toArray, List.set_cons_zero, List.set_cons_succ]
  refine wpAnyH_take (i := 1) (v := ?v2) rfl (by kernel_rfl) (by kernel_rfl) (by kernel_rfl) (fun _ _ _ h => h) (Or.inl ⟨by rfl, ?hy2⟩) (by assumption) ?rest2
  case hy2 => (intro w' hSw; dsimp only [List.getElem_toArray, List.getElem_cons_zero, List.getElem_cons_succ] at hSw ⊢; go_simp; try (with_reducible rfl))
  try simp only [Act.put, List.getElem_toArray, List.getElem_cons_zero, List.getElem_cons_succ, List.setIfInBounds_toArray, List.set_cons_zero, List.set_cons_succ]
  refine wpAnyH_take (i := 2) (v := ?v3) rfl (by kernel_rfl) (by kernel_rfl) (by kernel_rfl) (fun _ _ _ h => h) (Or.inl ⟨by rfl, ?hy3⟩) (by assumption) ?rest3
  case hy3 => (intro w' hSw; dsimp only [List.getElem_toArray, List.getElem_cons_zero, List.getElem_cons_succ] at hSw ⊢; go_simp; try (with_reducible rfl))
  try simp only [Act.put, List.getElem_toArray, List.getElem_cons_zero, List.getElem_cons_succ, List.setIfInBounds_toArray, List.set_cons_zero, List.set_cons_succ]
  refine wpAnyH_take (i := 3) (v := ?v4) rfl (by kernel_rfl) (by kernel_rfl) (by kernel_rfl) (fun _ _ _ h => h) (Or.inl ⟨by rfl, ?hy4⟩) (by assumption) ?rest4
  case hy4 => (intro w' hSw; dsimp only [List.getElem_toArray, List.getElem_cons_zero, List.getElem_cons_succ] at hSw ⊢; go_simp; try (with_reducible rfl))
  try simp only [Act.put, List.getElem_toArray, List.getElem_cons_zero, List.getElem_cons_succ, List.setIfInBounds_toArray, List.set_cons_zero, List.set_cons_succ]
  refine wpAnyH_take (i := 4) (v := ?v5) rfl (by kernel_rfl) (by kernel_rfl) (by kernel_rfl) (fun _ _ _ h => h) (Or.inl ⟨by rfl, ?hy5⟩) (by assumption) ?rest5
  case hy5 => (intro w' hSw; dsimp only [List.getElem_toArray, List.getElem_cons_zero, List.getElem_cons_succ] at hSw ⊢; go_simp; try (with_reducible rfl))
  try simp only [Act.put, List.getElem_toArray, List.getElem_cons_zero, List.getElem_cons_succ, List.setIfInBounds_toArray, List.set_cons_zero, List.set_cons_succ]
  refine wpAnyH_take (i := 5) (v := ?v6) rfl (by kernel_rfl) (by kernel_rfl) (by kernel_rfl) (fun _ _ _ h => h) (Or.inl ⟨by rfl, ?hy6⟩) (by assumption) ?rest6
  case hy6 => (intro w' hSw; dsimp only [List.getElem_toArray, List.getElem_cons_zero, List.getElem_cons_succ] at hSw ⊢; go_simp; try (with_reducible rfl))
  try simp only [Act.put, List.getElem_toArray, List.getElem_cons_zero, List.getElem_cons_succ, List.setIfInBounds_toArray, List.set_cons_zero, List.set_cons_succ]
  refine wpAnyH_take (i := 6) (v := ?v7) rfl (by kernel_rfl) (by kernel_rfl) (by kernel_rfl) (fun _ _ _ h => h) (Or.inl ⟨by rfl, ?hy7⟩) (by assumption) ?rest7
  case hy7 => (intro w' hSw; dsimp only [List.getElem_toArray, List.getElem_cons_zero, List.getElem_cons_succ] at hSw ⊢; go_simp; try (with_reducible rfl))
  try simp only [Act.put, List.getElem_toArray, List.getElem_cons_zero, List.getElem_cons_succ, List.setIfInBounds_toArray, List.set_cons_zero, List.set_cons_succ]
  refine wpAnyH_take (i := 7) (v := ?v8) rfl (by kernel_rfl) (by kernel_rfl) (by kernel_rfl) (fun _ _ _ h => h) (Or.inl ⟨by rfl, ?hy8⟩) (by assumption) ?rest8
  case hy8 => (intro w' hSw; dsimp only [List.getElem_toArray, List.getElem_cons_zero, List.getElem_cons_succ] at hSw ⊢; go_simp; try (with_reducible rfl))
  try simp only [Act.put, List.getElem_toArray, List.getElem_cons_zero, List.getElem_cons_succ, List.setIfInBounds_toArray, List.set_cons_zero, List.set_cons_succ]
  refine wpAnyH_take (i := 9) (v := ?v9) rfl (by kernel_rfl) (by kernel_rfl) (by kernel_rfl) (fun _ _ _ h => h) (Or.inl ⟨by rfl, ?hy9⟩) (by assumption) ?rest9
  case hy9 => (intro w' hSw; dsimp only [List.getElem_toArray, List.getElem_cons_zero, List.getElem_cons_succ] at hSw ⊢; go_simp; try (with_reducible rfl))
  try simp only [Act.put, List.getElem_toArray, List.getElem_cons_zero, List.getElem_cons_succ, List.setIfInBounds_toArray, List.set_cons_zero, List.set_cons_succ]
  refine wpAnyH_ready (rs := [8, 10]) (by kernel_rfl) (by simp) ?_
  refine AllReadyH.cons rfl (fun K hK => ?_) (AllReadyH.cons rfl (fun K hK => ?_) AllReadyH.nil)
  · have nc := NC5.out
    dsimp only [List.getElem_toArray, List.getElem_cons_zero, List.getElem_cons_succ]
    go_simp
    clear nc hHeld
    refine hK.out _ _ (GB5.out.cell 0) (fun hHeld => ?_)
    clear hK K
    try simp only [Act.put, List.getElem_toArray, List.getElem_cons_zero, List.getElem_cons_succ, List.setIfInBounds_toArray, List.set_cons_zero, List.set_cons_succ]
    refine wpAnyH_ready (rs := [10]) (by kernel_rfl) (by simp) ?_
    refine AllReadyH.cons rfl (fun K hK => ?_) AllReadyH.nil
    dsimp only [List.getElem_toArray, List.getElem_cons_zero, List.getElem_cons_succ]
    go_simp
    have bb := below_box V0 (.cells #[.int .i64 (tn : Int)] 3)
    have xx := BoxAt.new V0 #[.int .i64 (tn : Int)] 3
    obtain ⟨w5, hw5⟩ : ∃ w5, w5 = V0.alloc (.cells #[.int .i64 (tn : Int)] 3) := ⟨_, rfl⟩
    rw [← hw5] at bb xx ⊢
    obtain ⟨g5, hg5⟩ : ∃ g5, g5 = V0.heap.size := ⟨_, rfl⟩
    rw [← hg5] at xx ⊢
    have RX := hide (rd_one xx)
    have D6 := hide ((D5.out.below bb).wider (Nat.le_refl _) bb.size)
    have GB6 := hide (GB5.out.below bb)
    have XB6 := hide (XB5.out.below bb)
    have AB6 := hide (AB5.out.trans (bb.mono AB5.out.size))
    have NC6 := hide (cell_below NC5.out bb)
    clear bb xx hw5 hg5 D5 GB5 XB5 AB5 NC5 hHeld
    refine hK.out _ _ (GB6.out.cell 0) (fun hHeld => ?_)
    clear hK K
    try simp only [Act.put, List.getElem_toArray, List.getElem_cons_zero, List.getElem_cons_succ, List.setIfInBounds_toArray, List.set_cons_zero, List.set_cons_succ]
    refine wpAnyH_ready (rs := [11]) (by kernel_rfl) (by simp) ?_
    refine AllReadyH.cons rfl (fun K hK => ?_) AllReadyH.nil
    refine step_app_int (by rfl) _ _ (by rfl) w.heap.size (.slice hb hl hc) (by rfl) (m.getD fn nd0).1 (by have := D6.out.row fn HFM.out; rw [HU.out] at this; exact this) (.slice (some ⟨g5, 0, none⟩) 1 1) (by rfl) [(tn : Int)] RX.out (by have := HK6.out; simp only [List.length_singleton]; omega) AB6.out.size ?_
    intro v7 w7 o7 g7 at7
    obtain ⟨a7, k7, hv7⟩ := row_slice o7
    obtain ⟨L7, hL7⟩ : ∃ L, L = ((m.getD fn nd0).1 ++ [(tn : Int)]).length := ⟨_, rfl⟩
    rw [← hL7] at hv7
    subst hv7
    clear hL7
    have orow := D6.out.row fn HFM.out
    rw [HU.out] at orow
    have gb7 := GB6.out.kept g7 (GB6.out.offT orow (by decide))
    have xb7 := XB6.out.kept g7 (XB6.out.offT orow (by decide))
    have hoff := D6.out.off orow
    have nc7 : w7.cell? ⟨gp, fn * 2, none⟩ = some (.slice hb hl hc) := g7.cell NC6.out (hoff.resolve_left (by simp [Value.ownBlock]))
    have b7 : Below w.heap.size w w7 := AB6.out.grown g7 AB6.out.size (fun k hk => (World.ownsRow.lt orow k hk).1)
    have d8 := D6.out.appHold fn HFM.out o7 (by rw [HU.out]; exact g7) (by rw [HU.out]; exact at7) (Nat.le_refl _)
    have hk7 := World.ownsRow.kept D6.out.head g7 hoff
    have nf7 : w7.frozen? ⟨gp, fn * 2, none⟩ = false := World.ownsRow.frozenAt hk7 _
    have hpg : w4.heap.size ≠ gp := gb7.offRow hk7 (by decide)
    have hpx : w.heap.size + 1 ≠ gp := xb7.offRow hk7 (by decide)
    have hgp0 := (World.ownsRow.lt hk7 gp rfl).1
    have D8 := hide d8
    have GB8 := hide (gb7.other (g' := gp) (j := fn * 2) (x := .slice a7 L7 k7) hpg)
    have XB8 := hide (xb7.other (g' := gp) (j := fn * 2) (x := .slice a7 L7 k7) hpx)
    have AB8 := hide (b7.setCell (p := ⟨gp, fn * 2, none⟩) (by exact hgp0) (.slice a7 L7 k7))
    have NC7 := hide nc7
    have NF7 := hide nf7
    have GB7 := hide gb7
    clear o7 g7 at7 orow gb7 xb7 b7 d8 hk7 hpg hpx hgp0 hoff nc7 nf7 D6 GB6 XB6 AB6 NC6 hHeld
    refine hK.out _ _ (GB7.out.cell 0) (fun hHeld => ?_)
    clear hK K
    try simp only [Act.put, List.getElem_toArray, List.getElem_cons_zero, List.getElem_cons_succ, List.setIfInBounds_toArray, List.set_cons_zero, List.set_cons_succ]
    refine wpAnyH_take (i := 12) (v := ?v10) rfl (by kernel_rfl) (by kernel_rfl) (by kernel_rfl) (fun _ _ _ h => h) (Or.inl ⟨by rfl, ?hy10⟩) (by assumption) ?rest10
    case hy10 => (intro w' hSw; dsimp only [List.getElem_toArray, List.getElem_cons_zero, List.getElem_cons_succ] at hSw ⊢; go_simp; try (with_reducible rfl))
    try simp only [Act.put, List.getElem_toArray, List.getElem_cons_zero, List.getElem_cons_succ, List.setIfInBounds_toArray, List.set_cons_zero, List.set_cons_succ]
    refine wpAnyH_take (i := 13) (v := ?v11) rfl (by kernel_rfl) (by kernel_rfl) (by kernel_rfl) (fun _ _ _ h => h) (Or.inl ⟨by rfl, ?hy11⟩) (by assumption) ?rest11
    case hy11 => (intro w' hSw; dsimp only [List.getElem_toArray, List.getElem_cons_zero, List.getElem_cons_succ] at hSw ⊢; go_simp; try (with_reducible rfl))
    try simp only [Act.put, List.getElem_toArray, List.getElem_cons_zero, List.getElem_cons_succ, List.setIfInBounds_toArray, List.set_cons_zero, List.set_cons_succ]
    refine wpAnyH_ready (rs := [14]) (by kernel_rfl) (by simp) ?_
    refine AllReadyH.cons rfl (fun K hK => ?_) AllReadyH.nil
    have nc := NC7.out
    have nf := NF7.out
    dsimp only [List.getElem_toArray, List.getElem_cons_zero, List.getElem_cons_succ]
    go_simp
    clear nc nf hHeld
    refine hK.out _ _ (GB8.out.cell 0) (fun hHeld => ?_)
    clear hK K
    try simp only [Act.put, List.getElem_toArray, List.getElem_cons_zero, List.getElem_cons_succ, List.setIfInBounds_toArray, List.set_cons_zero, List.set_cons_succ]
    refine wpAnyH_done (by kernel_rfl) ?_ _
    refine NoPanic.normal ?_
    clear hHeld
    obtain ⟨w8, hw8⟩ : ∃ w8, w8 = w7.setCell ⟨gp, fn * 2, none⟩ (.slice a7 L7 k7) := ⟨_, rfl⟩
    rw [← hw8] at D8 GB8 XB8 AB8 ⊢
    have HW8 : Hid (w7.heap.size ≤ w8.heap.size) := by show _ ≤ _; rw [hw8]; simp
    clear hw8 NC7 NF7 GB7
    have o8 := D8.out.rowE 1 (by simp)
    obtain ⟨g', k', he, n8, nf8, put8⟩ := own_put o8 (n := tn) HTC.out
    simp only [List.getD_cons_zero, List.getD_cons_succ, Value.slice.injEq, Option.some.injEq, Addr.mk.injEq, and_true, true_and] at he
    obtain ⟨rfl, rfl⟩ := he
    have n8' : w8.cell? ⟨gc, tn, none⟩ = some (.int .i64 (cs.getD tn 0)) := n8
    have hbd := HBD.out
    obtain ⟨y, hy⟩ : ∃ y, y = cs.getD tn 0 := ⟨_, rfl⟩
    rw [← hy] at n8' hbd
    have p8 := put8 (y + 1)
    have d9 := D8.out.writeE 1 (by simp) p8.1 p8.2
    have gb9 := GB8.out.kept p8.2 (GB8.out.offT o8 (by decide))
    have xb9 := XB8.out.kept p8.2 (XB8.out.offT o8 (by decide))
    have b9 : Below w.heap.size w (w8.setCell ⟨gc, tn, none⟩ (.int .i64 (y + 1))) := AB8.out.grown p8.2 AB8.out.size (fun k hk => (World.ownsRow.lt o8 k hk).1)
    obtain ⟨hc0, hc1, hc2⟩ := GB8.out.c3
    obtain ⟨ic0, ic1, ic2⟩ := gb9.c3
    obtain ⟨jc0, jc1, jc2⟩ := xb9.c3
    have jf0 := xb9.frozen 0
    have jf1 := xb9.frozen 1
    have jf2 := xb9.frozen 2
    have hnc : (tn : Int) < (cs.length : Int) := by have := HTC.out; omega
    have hy0 := hbd.1
    have hy1 := hbd.2
    have xb10 := (xb9.store3 (.slice (some ⟨gp, 0, none⟩) m.length cp4) (.slice ar4 rs.length cr4) (.slice (some ⟨gc, 0, none⟩) cs.length cc4))
    have d10 := ((d9.atBox xb9 (by decide) (by decide) 0 (.slice (some ⟨gp, 0, none⟩) m.length cp4)).atBox (xb9.set 0 (.slice (some ⟨gp, 0, none⟩) m.length cp4)) (by decide) (by decide) 1 (.slice ar4 rs.length cr4)).atBox ((xb9.set 0 (.slice (some ⟨gp, 0, none⟩) m.length cp4)).set 1 (.slice ar4 rs.length cr4)) (by decide) (by decide) 2 (.slice (some ⟨gc, 0, none⟩) cs.length cc4)
    have b10 := ((b9.setCell (p := ⟨w.heap.size + 1, 0, none⟩) (by show w.heap.size ≤ w.heap.size + 1; omega) (.slice (some ⟨gp, 0, none⟩) m.length cp4)).setCell (p := ⟨w.heap.size + 1, 1, none⟩) (by show w.heap.size ≤ w.heap.size + 1; omega) (.slice ar4 rs.length cr4)).setCell (p := ⟨w.heap.size + 1, 2, none⟩) (by show w.heap.size ≤ w.heap.size + 1; omega) (.slice (some ⟨gc, 0, none⟩) cs.length cc4)
    have hbp : cs.set tn (y + 1) = bump cs (tn : Int) := by rw [hy]; simp [bump]
    simp only [List.set_cons_zero, List.set_cons_succ, List.getD_cons_zero, List.getD_cons_succ] at d10
    rw [hbp] at d10
    have D10 := hide (d10.wider (lo' := w.heap.size) (hi' := ((((w8.setCell ⟨gc, tn, none⟩ (.int .i64 (y + 1))).setCell ⟨w.heap.size + 1, 0, none⟩ (.slice (some ⟨gp, 0, none⟩) m.length cp4)).setCell ⟨w.heap.size + 1, 1, none⟩ (.slice ar4 rs.length cr4)).setCell ⟨w.heap.size + 1, 2, none⟩ (.slice (some ⟨gc, 0, none⟩) cs.length cc4)).heap.size) (Nat.le_refl _) (by simp; exact HW8.out))
    have X10 := hide xb10
    have B10 := hide b10
    have LN : Hid (lkN m (fn : Int) (tn : Int) = m.set fn ((m.getD fn nd0).1 ++ [(tn : Int)], (m.getD fn nd0).2)) := by show _ = _; unfold lkN; rw [Int.toNat_natCast]
    clear d9 d10 gb9 xb9 xb10 b9 b10 o8 p8 put8 hbd hbp n8 hy D8 GB8 XB8 AB8
    go_wp2
    exact bodyPost_ret (res_gr2 rfl _ _ (w.heap.size + 1) _ _ _ (0, 0) rfl X10.out) rfl ⟨_, _, _, rfl, ⟨_, by rw [gX_true, LN.out]; exact D10.out⟩, B10.out⟩
  · dsimp only [List.getElem_toArray, List.getElem_cons_zero, List.getElem_cons_succ]
    go_simp
    have bb := below_box V0 (.cells #[.int .i64 (tn : Int)] 3)
    have xx := BoxAt.new V0 #[.int .i64 (tn : Int)] 3
    obtain ⟨w5, hw5⟩ : ∃ w5, w5 = V0.alloc (.cells #[.int .i64 (tn : Int)] 3) := ⟨_, rfl⟩
    rw [← hw5] at bb xx ⊢
    obtain ⟨g5, hg5⟩ : ∃ g5, g5 = V0.heap.size := ⟨_, rfl⟩
    rw [← hg5] at xx ⊢
    have RX := hide (rd_one xx)
    have D6 := hide ((D5.out.below bb).wider (Nat.le_refl _) bb.size)
    have GB6 := hide (GB5.out.below bb)
    have XB6 := hide (XB5.out.below bb)
    have AB6 := hide (AB5.out.trans (bb.mono AB5.out.size))
    have NC6 := hide (cell_below NC5.out bb)
    clear bb xx hw5 hg5 D5 GB5 XB5 AB5 NC5 hHeld
    refine hK.out _ _ (GB6.out.cell 0) (fun hHeld => ?_)
    clear hK K
    try simp only [Act.put, List.getElem_toArray, List.getElem_cons_zero, List.getElem_cons_succ, List.setIfInBounds_toArray, List.set_cons_zero, List.set_cons_succ]
    refine wpAnyH_ready (rs := [8]) (by kernel_rfl) (by simp) ?_
    refine AllReadyH.cons rfl (fun K hK => ?_) AllReadyH.nil
    have nc := NC6.out
    dsimp only [List.getElem_toArray, List.getElem_cons_zero, List.getElem_cons_succ]
    go_simp
    clear nc hHeld
    refine hK.out _ _ (GB6.out.cell 0) (fun hHeld => ?_)
    clear hK K
    try simp only [Act.put, List.getElem_toArray, List.getElem_cons_zero, List.getElem_cons_succ, List.setIfInBounds_toArray, List.set_cons_zero, List.set_cons_succ]
    refine wpAnyH_ready (rs := [11]) (by kernel_rfl) (by simp) ?_
    refine AllReadyH.cons rfl (fun K hK => ?_) AllReadyH.nil
    refine step_app_int (by rfl) _ _ (by rfl) w.heap.size (.slice hb hl hc) (by rfl) (m.getD fn nd0).1 (by have := D6.out.row fn HFM.out; rw [HU.out] at this; exact this) (.slice (some ⟨g5, 0, none⟩) 1 1) (by rfl) [(tn : Int)] RX.out (by have := HK6.out; simp only [List.length_singleton]; omega) AB6.out.size ?_
    intro v7 w7 o7 g7 at7
    obtain ⟨a7, k7, hv7⟩ := row_slice o7
    obtain ⟨L7, hL7⟩ : ∃ L, L = ((m.getD fn nd0).1 ++ [(tn : Int)]).length := ⟨_, rfl⟩
    rw [← hL7] at hv7
    subst hv7
    clear hL7
    have orow := D6.out.row fn HFM.out
    rw [HU.out] at orow
    have gb7 := GB6.out.kept g7 (GB6.out.offT orow (by decide))
    have xb7 := XB6.out.kept g7 (XB6.out.offT orow (by decide))
    have hoff := D6.out.off orow
    have nc7 : w7.cell? ⟨gp, fn * 2, none⟩ = some (.slice hb hl hc) := g7.cell NC6.out (hoff.resolve_left (by simp [Value.ownBlock]))
    have b7 : Below w.heap.size w w7 := AB6.out.grown g7 AB6.out.size (fun k hk => (World.ownsRow.lt orow k hk).1)
    have d8 := D6.out.appHold fn HFM.out o7 (by rw [HU.out]; exact g7) (by rw [HU.out]; exact at7) (Nat.le_refl _)
    have hk7 := World.ownsRow.kept D6.out.head g7 hoff
    have nf7 : w7.frozen? ⟨gp, fn * 2, none⟩ = false := World.ownsRow.frozenAt hk7 _
    have hpg : w4.heap.size ≠ gp := gb7.offRow hk7 (by decide)
    have hpx : w.heap.size + 1 ≠ gp := xb7.offRow hk7 (by decide)
    have hgp0 := (World.ownsRow.lt hk7 gp rfl).1
    have D8 := hide d8
    have GB8 := hide (gb7.other (g' := gp) (j := fn * 2) (x := .slice a7 L7 k7) hpg)
    have XB8 := hide (xb7.other (g' := gp) (j := fn * 2) (x := .slice a7 L7 k7) hpx)
    have AB8 := hide (b7.setCell (p := ⟨gp, fn * 2, none⟩) (by exact hgp0) (.slice a7 L7 k7))
    have NC7 := hide nc7
    have NF7 := hide nf7
    have GB7 := hide gb7
    clear o7 g7 at7 orow gb7 xb7 b7 d8 hk7 hpg hpx hgp0 hoff nc7 nf7 D6 GB6 XB6 AB6 NC6 hHeld
    refine hK.out _ _ (GB7.out.cell 0) (fun hHeld => ?_)
    clear hK K
    try simp only [Act.put, List.getElem_toArray, List.getElem_cons_zero, List.getElem_cons_succ, List.setIfInBounds_toArray, List.set_cons_zero, List.set_cons_succ]
    refine wpAnyH_take (i := 12) (v := ?v12) rfl (by kernel_rfl) (by kernel_rfl) (by kernel_rfl) (fun _ _ _ h => h) (Or.inl ⟨by rfl, ?hy12⟩) (by assumption) ?rest12
    case hy12 => (intro w' hSw; dsimp only [List.getElem_toArray, List.getElem_cons_zero, List.getElem_cons_succ] at hSw ⊢; go_simp; try (with_reducible rfl))
    try simp only [Act.put, List.getElem_toArray, List.getElem_cons_zero, List.getElem_cons_succ, List.setIfInBounds_toArray, List.set_cons_zero, List.set_cons_succ]
    refine wpAnyH_take (i := 13) (v := ?v13) rfl (by kernel_rfl) (by kernel_rfl) (by kernel_rfl) (fun _ _ _ h => h) (Or.inl ⟨by rfl, ?hy13⟩) (by assumption) ?rest13
    case hy13 => (intro w' hSw; dsimp only [List.getElem_toArray, List.getElem_cons_zero, List.getElem_cons_succ] at hSw ⊢; go_simp; try (with_reducible rfl))
    try simp only [Act.put, List.getElem_toArray, List.getElem_cons_zero, List.getElem_cons_succ, List.setIfInBounds_toArray, List.set_cons_zero, List.set_cons_succ]
    refine wpAnyH_ready (rs := [14]) (by kernel_rfl) (by simp) ?_
    refine AllReadyH.cons rfl (fun K hK => ?_) AllReadyH.nil
    have nc := NC7.out
    have nf := NF7.out
    dsimp only [List.getElem_toArray, List.getElem_cons_zero, List.getElem_cons_succ]
    go_simp
    clear nc nf hHeld
    refine hK.out _ _ (GB8.out.cell 0) (fun hHeld => ?_)
    clear hK K
    try simp only [Act.put, List.getElem_toArray, List.getElem_cons_zero, List.getElem_cons_succ, List.setIfInBounds_toArray, List.set_cons_zero, List.set_cons_succ]
    refine wpAnyH_done (by kernel_rfl) ?_ _
    refine NoPanic.normal ?_
    clear hHeld
    obtain ⟨w8, hw8⟩ : ∃ w8, w8 = w7.setCell ⟨gp, fn * 2, none⟩ (.slice a7 L7 k7) := ⟨_, rfl⟩
    rw [← hw8] at D8 GB8 XB8 AB8 ⊢
    have HW8 : Hid (w7.heap.size ≤ w8.heap.size) := by show _ ≤ _; rw [hw8]; simp
    clear hw8 NC7 NF7 GB7
    have o8 := D8.out.rowE 1 (by simp)
    obtain ⟨g', k', he, n8, nf8, put8⟩ := own_put o8 (n := tn) HTC.out
    simp only [List.getD_cons_zero, List.getD_cons_succ, Value.slice.injEq, Option.some.injEq, Addr.mk.injEq, and_true, true_and] at he
    obtain ⟨rfl, rfl⟩ := he
    have n8' : w8.cell? ⟨gc, tn, none⟩ = some (.int .i64 (cs.getD tn 0)) := n8
    have hbd := HBD.out
    obtain ⟨y, hy⟩ : ∃ y, y = cs.getD tn 0 := ⟨_, rfl⟩
    rw [← hy] at n8' hbd
    have p8 := put8 (y + 1)
    have d9 := D8.out.writeE 1 (by simp) p8.1 p8.2
    have gb9 := GB8.out.kept p8.2 (GB8.out.offT o8 (by decide))
    have xb9 := XB8.out.kept p8.2 (XB8.out.offT o8 (by decide))
    have b9 : Below w.heap.size w (w8.setCell ⟨gc, tn, none⟩ (.int .i64 (y + 1))) := AB8.out.grown p8.2 AB8.out.size (fun k hk => (World.ownsRow.lt o8 k hk).1)
    obtain ⟨hc0, hc1, hc2⟩ := GB8.out.c3
    obtain ⟨ic0, ic1, ic2⟩ := gb9.c3
    obtain ⟨jc0, jc1, jc2⟩ := xb9.c3
    have jf0 := xb9.frozen 0
    have jf1 := xb9.frozen 1
    have jf2 := xb9.frozen 2
    have hnc : (tn : Int) < (cs.length : Int) := by have := HTC.out; omega
    have hy0 := hbd.1
    have hy1 := hbd.2
    have xb10 := (xb9.store3 (.slice (some ⟨gp, 0, none⟩) m.length cp4) (.slice ar4 rs.length cr4) (.slice (some ⟨gc, 0, none⟩) cs.length cc4))
    have d10 := ((d9.atBox xb9 (by decide) (by decide) 0 (.slice (some ⟨gp, 0, none⟩) m.length cp4)).atBox (xb9.set 0 (.slice (some ⟨gp, 0, none⟩) m.length cp4)) (by decide) (by decide) 1 (.slice ar4 rs.length cr4)).atBox ((xb9.set 0 (.slice (some ⟨gp, 0, none⟩) m.length cp4)).set 1 (.slice ar4 rs.length cr4)) (by decide) (by decide) 2 (.slice (some ⟨gc, 0, none⟩) cs.length cc4)
    have b10 := ((b9.setCell (p := ⟨w.heap.size + 1, 0, none⟩) (by show w.heap.size ≤ w.heap.size + 1; omega) (.slice (some ⟨gp, 0, none⟩) m.length cp4)).setCell (p := ⟨w.heap.size + 1, 1, none⟩) (by show w.heap.size ≤ w.heap.size + 1; omega) (.slice ar4 rs.length cr4)).setCell (p := ⟨w.heap.size + 1, 2, none⟩) (by show w.heap.size ≤ w.heap.size + 1; omega) (.slice (some ⟨gc, 0, none⟩) cs.length cc4)
    have hbp : cs.set tn (y + 1) = bump cs (tn : Int) := by rw [hy]; simp [bump]
    simp only [List.set_cons_zero, List.set_cons_succ, List.getD_cons_zero, List.getD_cons_succ] at d10
    rw [hbp] at d10
    have D10 := hide (d10.wider (lo' := w.heap.size) (hi' := ((((w8.setCell ⟨gc, tn, none⟩ (.int .i64 (y + 1))).setCell ⟨w.heap.size + 1, 0, none⟩ (.slice (some ⟨gp, 0, none⟩) m.length cp4)).setCell ⟨w.heap.size + 1, 1, none⟩ (.slice ar4 rs.length cr4)).setCell ⟨w.heap.size + 1, 2, none⟩ (.slice (some ⟨gc, 0, none⟩) cs.length cc4)).heap.size) (Nat.le_refl _) (by simp; exact HW8.out))
    have X10 := hide xb10
    have B10 := hide b10
    have LN : Hid (lkN m (fn : Int) (tn : Int) = m.set fn ((m.getD fn nd0).1 ++ [(tn : Int)], (m.getD fn nd0).2)) := by show _ = _; unfold lkN; rw [Int.toNat_natCast]
    clear d9 d10 gb9 xb9 xb10 b9 b10 o8 p8 put8 hbd hbp n8 hy D8 GB8 XB8 AB8
    go_wp2
    exact bodyPost_ret (res_gr2 rfl _ _ (w.heap.size + 1) _ _ _ (0, 0) rfl X10.out) rfl ⟨_, _, _, rfl, ⟨_, by rw [gX_true, LN.out]; exact D10.out⟩, B10.out⟩

set_option linter.unusedSimpArgs false in
set_option maxRecDepth 100000 in
set_option maxHeartbeats 1600000 in
theorem linkNode_calls (p r c : Value) (m : List Nd) (rs cs : List Int) (f t : Int) (ok : Bool) (w : World) (h : RdG w p r c m rs cs) (hok : ok = decide (lkOk m rs cs f t)) :
    Calls Try.prog 40 #[.agg #[p, r, c], .int .i64 f, .int .i64 t] w fun e w' => ∃ p' r' c', e = .returned (.tuple #[.agg #[p', r', c'], .bool ok]) ∧ TGrf p' r' c' (gX ok (lkN m f t)) (gX ok rs) (gX ok (bump cs t)) w.heap.size w'.heap.size w' ∧ Below w.heap.size w w' := by
  have R := hide h
  obtain ⟨⟨ap, cp, rfl, h1, h2, h3⟩, ⟨ar, cr, rfl, hr1, hr2, _⟩, ⟨ac, cc, rfl, _⟩⟩ := h
  have hmm : m.length ≤ maxLen := by omega
  have hcp : m.length ≤ cp := h1
  unfold maxLen at hmm
  have A0 := hide (Hand.twoN w #[.slice ap m.length cp, .slice ar rs.length cr, .slice ac cs.length cc] nilG 27 27)
  clear h1 h2 h3 hr1 hr2
  by_cases hg : goodG m rs cs
  case neg =>
    obtain rfl : ok = false := by rw [hok]; exact decide_eq_false (fun h => hg h.1.1)
    have E1 : Hid (decide (goodG m rs cs) = false) := decide_eq_false hg
    clear hok hg
    go_enter Try.func40, Try.ntmps40
    go_wp2_with fail
    refine (goodGraph_calls _ _ _ m rs cs _ (R.out.below A0.out.below)).mono ?_
    rw [E1.out]
    rintro e w1 ⟨rfl, b1⟩
    have A1 := hide (A0.out.step b1)
    obtain ⟨c0, c1, c2⟩ := (A1.out.atBox 1 rfl).c3
    clear b1
    clear c0 c1 c2
    have A8 := hide (A1.out)
    have x := A8.out.atBox 0 rfl
    obtain ⟨z0, z1, z2⟩ := x.c3
    have f0 := x.frozen 0
    have f1 := x.frozen 1
    have f2 := x.frozen 2
    obtain ⟨c0, c1, c2⟩ := (A8.out.atBox 1 rfl).c3
    have A9 := hide (A8.out.store3G 0 rfl nilRow nilRow nilRow)
    clear x A8
    go_wp2
    exact bodyPost_ret (res_gr2 rfl _ _ (w.heap.size + 1) _ _ _ (0, 0) rfl (A9.out.atBox 0 rfl)) rfl ⟨_, _, _, rfl, TGrf.nil _ _ _, A9.out.below⟩
  have E1 : Hid (decide (goodG m rs cs) = true) := decide_eq_true hg
  by_cases hf : okH m m.length f
  case neg =>
    obtain rfl : ok = false := by rw [hok]; exact decide_eq_false (fun h => hf h.1.2)
    have E2 : Hid (decide (okH m m.length f) = false) := decide_eq_false hf
    clear hok hg hf
    go_enter Try.func40, Try.ntmps40
    go_wp2_with fail
    refine (goodGraph_calls _ _ _ m rs cs _ (R.out.below A0.out.below)).mono ?_
    rw [E1.out]
    rintro e w1 ⟨rfl, b1⟩
    have A1 := hide (A0.out.step b1)
    obtain ⟨c0, c1, c2⟩ := (A1.out.atBox 1 rfl).c3
    clear b1
    go_wp2_with fail
    refine (hasNode_calls _ m _ _ (R.out.below A1.out.below).1).mono ?_
    rw [E2.out]
    rintro e w2 ⟨rfl, rfl⟩
    clear c0 c1 c2
    have A8 := hide (A1.out)
    have x := A8.out.atBox 0 rfl
    obtain ⟨z0, z1, z2⟩ := x.c3
    have f0 := x.frozen 0
    have f1 := x.frozen 1
    have f2 := x.frozen 2
    obtain ⟨c0, c1, c2⟩ := (A8.out.atBox 1 rfl).c3
    have A9 := hide (A8.out.store3G 0 rfl nilRow nilRow nilRow)
    clear x A8
    go_wp2
    exact bodyPost_ret (res_gr2 rfl _ _ (w.heap.size + 1) _ _ _ (0, 0) rfl (A9.out.atBox 0 rfl)) rfl ⟨_, _, _, rfl, TGrf.nil _ _ _, A9.out.below⟩
  have E2 : Hid (decide (okH m m.length f) = true) := decide_eq_true hf
  obtain ⟨fn, hfn⟩ : ∃ fn : Nat, f = (fn : Int) := ⟨f.toNat, by have := hf.1; omega⟩
  subst hfn
  have hfm : fn < m.length := by have := hf.2.1; omega
  have HFL : Hid (fn ≤ m.length) := by show _ ≤ _; omega
  have hf0 : (0 : Int) ≤ (fn : Int) := by omega
  have hfl : (fn : Int) ≤ (m.length : Int) := by omega
  have hfc : (fn : Int) ≤ (cp : Int) := by omega
  by_cases ht : okH m fn t
  case neg =>
    obtain rfl : ok = false := by rw [hok]; exact decide_eq_false (fun h => ht (by have := h.2.1; rw [Int.toNat_natCast] at this; exact this))
    have E3 : Hid (decide (okH (m.take fn) (m.take fn).length t) = false) := decide_eq_false (fun h => ht ((okH_take m fn t HFL.out).1 h))
    have HFM := hide hfm
    clear hok hg hf ht hfm
    go_enter Try.func40, Try.ntmps40
    go_wp2_with fail
    refine (goodGraph_calls _ _ _ m rs cs _ (R.out.below A0.out.below)).mono ?_
    rw [E1.out]
    rintro e w1 ⟨rfl, b1⟩
    have A1 := hide (A0.out.step b1)
    obtain ⟨c0, c1, c2⟩ := (A1.out.atBox 1 rfl).c3
    clear b1
    go_wp2_with fail
    refine (hasNode_calls _ m _ _ (R.out.below A1.out.below).1).mono ?_
    rw [E2.out]
    rintro e w2 ⟨rfl, rfl⟩
    go_wp2_with fail
    refine (hasNode_calls _ (m.take fn) _ _ ((R.out.below A1.out.below).1.take fn HFL.out)).mono ?_
    rw [E3.out]
    rintro e w2 ⟨rfl, rfl⟩
    clear c0 c1 c2
    have A8 := hide (A1.out)
    have x := A8.out.atBox 0 rfl
    obtain ⟨z0, z1, z2⟩ := x.c3
    have f0 := x.frozen 0
    have f1 := x.frozen 1
    have f2 := x.frozen 2
    obtain ⟨c0, c1, c2⟩ := (A8.out.atBox 1 rfl).c3
    have A9 := hide (A8.out.store3G 0 rfl nilRow nilRow nilRow)
    clear x A8
    go_wp2
    exact bodyPost_ret (res_gr2 rfl _ _ (w.heap.size + 1) _ _ _ (0, 0) rfl (A9.out.atBox 0 rfl)) rfl ⟨_, _, _, rfl, TGrf.nil _ _ _, A9.out.below⟩
  have E3 : Hid (decide (okH (m.take fn) (m.take fn).length t) = true) := decide_eq_true ((okH_take m fn t HFL.out).2 ht)
  obtain ⟨tn, htn⟩ : ∃ tn : Nat, t = (tn : Int) := ⟨t.toNat, by have := ht.1; omega⟩
  subst htn
  have htf : tn < fn := by have := ht.2.1; omega
  have TH : Hid (thG m rs cs (fn : Int)) := ⟨hg, hf⟩
  by_cases h6 : (m.getD fn nd0).1.length = 6
  case pos =>
    obtain rfl : ok = false := by rw [hok]; exact decide_eq_false (fun h => h.2.2 (by rw [Int.toNat_natCast]; exact h6))
    have H6 := hide h6
    have HFM := hide hfm
    clear hok hg hf ht h6 htf hfm
    go_enter Try.func40, Try.ntmps40
    go_wp2_with fail
    refine (goodGraph_calls _ _ _ m rs cs _ (R.out.below A0.out.below)).mono ?_
    rw [E1.out]
    rintro e w1 ⟨rfl, b1⟩
    have A1 := hide (A0.out.step b1)
    obtain ⟨c0, c1, c2⟩ := (A1.out.atBox 1 rfl).c3
    clear b1
    go_wp2_with fail
    refine (hasNode_calls _ m _ _ (R.out.below A1.out.below).1).mono ?_
    rw [E2.out]
    rintro e w2 ⟨rfl, rfl⟩
    go_wp2_with fail
    refine (hasNode_calls _ (m.take fn) _ _ ((R.out.below A1.out.below).1.take fn HFL.out)).mono ?_
    rw [E3.out]
    rintro e w2 ⟨rfl, rfl⟩
    obtain ⟨b, off, u, ks, z, rfl, hx, hu, d0, d1⟩ := (R.out.below A1.out.below).1.at fn HFM.out
    obtain ⟨ua, uc, rfl, _, _⟩ := hu.slc
    have hk6 : ks.length = 6 := by have := H6.out; rw [hx] at this; exact this
    have h6b : ((ks.length : Int) == 6) = true := by simp; omega
    have hfm : (fn : Int) < (m.length : Int) := by have := HFM.out; omega
    clear hx hu d1 hk6
    clear c0 c1 c2
    have A8 := hide (A1.out)
    have x := A8.out.atBox 0 rfl
    obtain ⟨z0, z1, z2⟩ := x.c3
    have f0 := x.frozen 0
    have f1 := x.frozen 1
    have f2 := x.frozen 2
    obtain ⟨c0, c1, c2⟩ := (A8.out.atBox 1 rfl).c3
    have A9 := hide (A8.out.store3G 0 rfl nilRow nilRow nilRow)
    clear x A8
    go_wp2
    exact bodyPost_ret (res_gr2 rfl _ _ (w.heap.size + 1) _ _ _ (0, 0) rfl (A9.out.atBox 0 rfl)) rfl ⟨_, _, _, rfl, TGrf.nil _ _ _, A9.out.below⟩
  obtain rfl : ok = true := by rw [hok]; exact decide_eq_true ⟨⟨hg, hf⟩, by rw [Int.toNat_natCast]; exact ht, by rw [Int.toNat_natCast]; exact h6⟩
  have H6 := hide h6
  have HFM := hide hfm
  have HTF := hide htf
  clear hok hg hf ht h6 hfm htf
  have HCL := hide (good_len TH.out.1)
  have HBD : Hid (0 ≤ cs.getD tn 0 ∧ cs.getD tn 0 ≤ 90) := by
    have h8 := HTF.out
    have h9 := HFM.out
    exact (good_bd TH.out.1) tn (by rw [HCL.out]; omega)
  have SZ := hide (good_sz TH.out.1)
  have HK6 : Hid ((m.getD fn nd0).1.length ≤ 6) := (TH.out.1.1.1.2 fn HFM.out).2.1
  go_enter Try.func40, Try.ntmps40
  go_wp2_with fail
  refine (goodGraph_calls _ _ _ m rs cs _ (R.out.below A0.out.below)).mono ?_
  rw [E1.out]
  rintro e w1 ⟨rfl, b1⟩
  have A1 := hide (A0.out.step b1)
  obtain ⟨c0, c1, c2⟩ := (A1.out.atBox 1 rfl).c3
  clear b1
  go_wp2_with fail
  refine (hasNode_calls _ m _ _ (R.out.below A1.out.below).1).mono ?_
  rw [E2.out]
  rintro e w2 ⟨rfl, rfl⟩
  go_wp2_with fail
  refine (hasNode_calls _ (m.take fn) _ _ ((R.out.below A1.out.below).1.take fn HFL.out)).mono ?_
  rw [E3.out]
  rintro e w2 ⟨rfl, rfl⟩
  obtain ⟨b, off, u, ks, z, rfl, hx, hu, d0, d1⟩ := (R.out.below A1.out.below).1.at fn HFM.out
  obtain ⟨ua, uc, rfl, _, _⟩ := hu.slc
  have hk6 : ks.length ≠ 6 := by have := H6.out; rw [hx] at this; exact this
  have h6b : ((ks.length : Int) == 6) = false := by simp; omega
  have hfm : (fn : Int) < (m.length : Int) := by have := HFM.out; omega
  clear hx hu d1 hk6
  go_wp2_with fail
  refine (copyGraph_calls _ _ _ m rs cs _ (R.out.below A1.out.below) SZ.out).mono ?_
  rintro e w4 ⟨p4, r4, c4, rfl, d4, b4⟩
  obtain ⟨ap4, cp4, ar4, cr4, ac4, cc4, rfl, rfl, rfl⟩ := d4.sls
  have A5 := (A1.out.add b4 (TGrf.st _ _ _ _ _ _) d4).box #[.slice ap4 m.length cp4, .slice ar4 rs.length cr4, .slice ac4 cs.length cc4] 27
  obtain ⟨lo5, hi5, ⟨us5, d5⟩, hl5, hh5, put5⟩ := A5.open 1 rfl
  have d5' := d5.wider (lo' := w.heap.size) (hi' := (w4.alloc (.cells #[.slice ap4 m.length cp4, .slice ar4 rs.length cr4, .slice ac4 cs.length cc4] 27)).heap.size) hl5 hh5
  have gb := A5.atBox 0 rfl
  have xb := A5.atBox 2 rfl
  have ab := A5.below
  have hfm0 := HFM.out
  have htc : tn < cs.length := by have h8 := HTF.out; have h9 := HCL.out; omega
  have HTC := hide htc
  obtain ⟨gc, kc, hc, _⟩ := own_put (d5'.rowE 1 (by simp)) (n := tn) htc
  simp only [List.getD_cons_zero, List.getD_cons_succ, Value.slice.injEq, true_and] at hc
  obtain ⟨rfl, rfl⟩ := hc
  obtain ⟨gp, kp, hp, _⟩ := d5'.form (by omega)
  simp only [Value.slice.injEq, true_and] at hp
  obtain ⟨rfl, rfl⟩ := hp
  obtain ⟨nc, _, _, _⟩ := d5'.cells fn hfm0
  obtain ⟨hb, hc, hu⟩ := row_slice (d5'.row fn hfm0)
  obtain ⟨hl, hhl⟩ : ∃ hl, hl = (m.getD fn nd0).1.length := ⟨_, rfl⟩
  rw [← hhl] at hu
  have HU := hide hu
  rw [hu] at nc
  have NC := hide nc
  obtain ⟨w4b, hw4b⟩ : ∃ w4b, w4b = w4.alloc (.cells #[.slice (some ⟨gp, 0, none⟩) m.length cp4, .slice ar4 rs.length cr4, .slice (some ⟨gc, 0, none⟩) cs.length cc4] 27) := ⟨_, rfl⟩
  have W4B : Hid (w4.alloc (.cells #[.slice (some ⟨gp, 0, none⟩) m.length cp4, .slice ar4 rs.length cr4, .slice (some ⟨gc, 0, none⟩) cs.length cc4] 27) = w4b) := hw4b.symm
  rw [W4B.out] at d5' gb xb ab NC
  have D4 := hide d5'
  have GB := hide gb
  have XB := hide xb
  have AB := hide ab
  clear b4 d4 A1 A5 d5 d5' gb xb ab nc hw4b put5 lo5 hi5 hl5 hh5 hfm0 htc c0 c1 c2 d0 h6b hu hhl
  have hfm : (fn : Int) < (m.length : Int) := by have := HFM.out; omega
  have hf0 : (0 : Int) ≤ (fn : Int) := by omega
  go_wp2
  rw [W4B.out]
  refine wp_region_noPanic ?_
  refine wp_region_held_drew (S := fun w' => w'.cell? ⟨w4.heap.size, 0, none⟩ = some (.slice (some ⟨gp, 0, none⟩) m.length cp4)) (by kernel_rfl) ((GB.out.below (Below.refl _ _).drew).cell 0) (fun hHeld => ?_)
  have D5 : Hid (NdV (World.drew w4b) w.heap.size (World.drew w4b).heap.size _ _ _ _ _) := D4.out.below (Below.refl _ _).drew
  have GB5 := hide (GB.out.below (Below.refl _ _).drew)
  have XB5 := hide (XB.out.below (Below.refl _ _).drew)
  have AB5 := hide (AB.out.trans ((Below.refl _ _).drew.mono AB.out.size))
  have NC5 := hide (cell_below NC.out (Below.refl _ _).drew)
  clear D4 GB XB AB NC
  generalize World.drew _ = V0 at *
  refine wpAnyH_take (i := 0) (v := ?v14) rfl (by kernel_rfl) (by kernel_rfl) (by kernel_rfl) (fun _ _ _ h => h) (Or.inl ⟨by rfl, ?hy14⟩) (by assumption) ?rest14
  case hy14 => (intro w' hSw; dsimp only [List.getElem_toArray, List.getElem_cons_zero, List.getElem_cons_succ] at hSw ⊢; go_simp; try (with_reducible rfl))
  try simp only [Act.put, List.getElem_toArray, List.getElem_cons_zero, List.getElem_cons_succ, List.setIfInBounds_toArray, List.set_cons_zero, List.set_cons_succ]
  refine wpAnyH_take (i := 1) (v := ?v15) rfl (by kernel_rfl) (by kernel_rfl) (by kernel_rfl) (fun _ _ _ h => h) (Or.inl ⟨by rfl, ?hy15⟩) (by assumption) ?rest15
  case hy15 => (intro w' hSw; dsimp only [List.getElem_toArray, List.getElem_cons_zero, List.getElem_cons_succ] at hSw ⊢; go_simp; try (with_reducible rfl))
  try simp only [Act.put, List.getElem_toArray, List.getElem_cons_zero, List.getElem_cons_succ, List.setIfInBounds_toArray, List.set_cons_zero, List.set_cons_succ]
  refine wpAnyH_take (i := 2) (v := ?v16) rfl (by kernel_rfl) (by kernel_rfl) (by kernel_rfl) (fun _ _ _ h => h) (Or.inl ⟨by rfl, ?hy16⟩) (by assumption) ?rest16
  case hy16 => (intro w' hSw; dsimp only [List.getElem_toArray, List.getElem_cons_zero, List.getElem_cons_succ] at hSw ⊢; go_simp; try (with_reducible rfl))
  try simp only [Act.put, List.getElem_toArray, List.getElem_cons_zero, List.getElem_cons_succ, List.setIfInBounds_toArray, List.set_cons_zero, List.set_cons_succ]
  refine wpAnyH_take (i := 3) (v := ?v17) rfl (by kernel_rfl) (by kernel_rfl) (by kernel_rfl) (fun _ _ _ h => h) (Or.inl ⟨by rfl, ?hy17⟩) (by assumption) ?rest17
  case hy17 => (intro w' hSw; dsimp only [List.getElem_toArray, List.getElem_cons_zero, List.getElem_cons_succ] at hSw ⊢; go_simp; try (with_reducible rfl))
  try simp only [Act.put, List.getElem_toArray, List.getElem_cons_zero, List.getElem_cons_succ, List.setIfInBounds_toArray, List.set_cons_zero, List.set_cons_succ]
  refine wpAnyH_take (i := 4) (v := ?v18) rfl (by kernel_rfl) (by kernel_rfl) (by kernel_rfl) (fun _ _ _ h => h) (Or.inl ⟨by rfl, ?hy18⟩) (by assumption) ?rest18
  case hy18 => (intro w' hSw; dsimp only [List.getElem_toArray, List.getElem_cons_zero, List.getElem_cons_succ] at hSw ⊢; go_simp; try (with_reducible rfl))
  try simp only [Act.put, List.getElem_toArray, List.getElem_cons_zero, List.getElem_cons_succ, List.setIfInBounds_toArray, List.set_cons_zero, List.set_cons_succ]
  refine wpAnyH_take (i := 5) (v := ?v19) rfl (by kernel_rfl) (by kernel_rfl) (by kernel_rfl) (fun _ _ _ h => h) (Or.inl ⟨by rfl, ?hy19⟩) (by assumption) ?rest19
  case hy19 => (intro w' hSw; dsimp only [List.getElem_toArray, List.getElem_cons_zero, List.getElem_cons_succ] at hSw ⊢; go_simp; try (with_reducible rfl))
  try simp only [Act.put, List.getElem_toArray, List.getElem_cons_zero, List.getElem_cons_succ, List.setIfInBounds_toArray, List.set_cons_zero, List.set_cons_succ]
  refine wpAnyH_take (i := 6) (v := ?v20) rfl (by kernel_rfl) (by kernel_rfl) (by kernel_rfl) (fun _ _ _ h => h) (Or.inl ⟨by rfl, ?hy20⟩) (by assumption) ?rest20
  case hy20 => (intro w' hSw; dsimp only [List.getElem_toArray, List.getElem_cons_zero, List.getElem_cons_succ] at hSw ⊢; go_simp; try (with_reducible rfl))
  try simp only [Act.put, List.getElem_toArray, List.getElem_cons_zero, List.getElem_cons_succ, List.setIfInBounds_toArray, List.set_cons_zero, List.set_cons_succ]
  refine wpAnyH_take (i := 7) (v := ?v21) rfl (by kernel_rfl) (by kernel_rfl) (by kernel_rfl) (fun _ _ _ h => h) (Or.inl ⟨by rfl, ?hy21⟩) (by assumption) ?rest21
  case hy21 => (intro w' hSw; dsimp only [List.getElem_toArray, List.getElem_cons_zero, List.getElem_cons_succ] at hSw ⊢; go_simp; try (with_reducible rfl))
  try simp only [Act.put, List.getElem_toArray, List.getElem_cons_zero, List.getElem_cons_succ, List.setIfInBounds_toArray, List.set_cons_zero, List.set_cons_succ]
  refine wpAnyH_take (i := 9) (v := ?v22) rfl (by kernel_rfl) (by kernel_rfl) (by kernel_rfl) (fun _ _ _ h => h) (Or.inl ⟨by rfl, ?hy22⟩) (by assumption) ?rest22
  case hy22 => (intro w' hSw; dsimp only [List.getElem_toArray, List.getElem_cons_zero, List.getElem_cons_succ] at hSw ⊢; go_simp; try (with_reducible rfl))
  try simp only [Act.put, List.getElem_toArray, List.getElem_cons_zero, List.getElem_cons_succ, List.setIfInBounds_toArray, List.set_cons_zero, List.set_cons_succ]
  refine wpAnyH_ready (rs := [8, 10]) (by kernel_rfl) (by simp) ?_
  refine AllReadyH.cons rfl (fun K hK => ?_) (AllReadyH.cons rfl (fun K hK => ?_) AllReadyH.nil)
  · have nc := NC5.out
    dsimp only [List.getElem_toArray, List.getElem_cons_zero, List.getElem_cons_succ]
    go_simp
    clear nc hHeld
    refine hK.out _ _ (GB5.out.cell 0) (fun hHeld => ?_)
    clear hK K
    try simp only [Act.put, List.getElem_toArray, List.getElem_cons_zero, List.getElem_cons_succ, List.setIfInBounds_toArray, List.set_cons_zero, List.set_cons_succ]
    refine wpAnyH_ready (rs := [10]) (by kernel_rfl) (by simp) ?_
    refine AllReadyH.cons rfl (fun K hK => ?_) AllReadyH.nil
    dsimp only [List.getElem_toArray, List.getElem_cons_zero, List.getElem_cons_succ]
    go_simp
    have bb := below_box V0 (.cells #[.int .i64 (tn : Int)] 3)
    have xx := BoxAt.new V0 #[.int .i64 (tn : Int)] 3
    obtain ⟨w5, hw5⟩ : ∃ w5, w5 = V0.alloc (.cells #[.int .i64 (tn : Int)] 3) := ⟨_, rfl⟩
    rw [← hw5] at bb xx ⊢
    obtain ⟨g5, hg5⟩ : ∃ g5, g5 = V0.heap.size := ⟨_, rfl⟩
    rw [← hg5] at xx ⊢
    have RX := hide (rd_one xx)
    have D6 := hide ((D5.out.below bb).wider (Nat.le_refl _) bb.size)
    have GB6 := hide (GB5.out.below bb)
    have XB6 := hide (XB5.out.below bb)
    have AB6 := hide (AB5.out.trans (bb.mono AB5.out.size))
    have NC6 := hide (cell_below NC5.out bb)
    clear bb xx hw5 hg5 D5 GB5 XB5 AB5 NC5 hHeld
    refine hK.out _ _ (GB6.out.cell 0) (fun hHeld => ?_)
    clear hK K
    try simp only [Act.put, List.getElem_toArray, List.getElem_cons_zero, List.getElem_cons_succ, List.setIfInBounds_toArray, List.set_cons_zero, List.set_cons_succ]
    refine wpAnyH_ready (rs := [11]) (by kernel_rfl) (by simp) ?_
    refine AllReadyH.cons rfl (fun K hK => ?_) AllReadyH.nil
    refine step_app_int (by rfl) _ _ (by rfl) w.heap.size (.slice hb hl hc) (by rfl) (m.getD fn nd0).1 (by have := D6.out.row fn HFM.out; rw [HU.out] at this; exact this) (.slice (some ⟨g5, 0, none⟩) 1 1) (by rfl) [(tn : Int)] RX.out (by have := HK6.out; simp only [List.length_singleton]; omega) AB6.out.size ?_
    intro v7 w7 o7 g7 at7
    obtain ⟨a7, k7, hv7⟩ := row_slice o7
    obtain ⟨L7, hL7⟩ : ∃ L, L = ((m.getD fn nd0).1 ++ [(tn : Int)]).length := ⟨_, rfl⟩
    rw [← hL7] at hv7
    subst hv7
    clear hL7
    have orow := D6.out.row fn HFM.out
    rw [HU.out] at orow
    have gb7 := GB6.out.kept g7 (GB6.out.offT orow (by decide))
    have xb7 := XB6.out.kept g7 (XB6.out.offT orow (by decide))
    have hoff := D6.out.off orow
    have nc7 : w7.cell? ⟨gp, fn * 2, none⟩ = some (.slice hb hl hc) := g7.cell NC6.out (hoff.resolve_left (by simp [Value.ownBlock]))
    have b7 : Below w.heap.size w w7 := AB6.out.grown g7 AB6.out.size (fun k hk => (World.ownsRow.lt orow k hk).1)
    have d8 := D6.out.appHold fn HFM.out o7 (by rw [HU.out]; exact g7) (by rw [HU.out]; exact at7) (Nat.le_refl _)
    have hk7 := World.ownsRow.kept D6.out.head g7 hoff
    have nf7 : w7.frozen? ⟨gp, fn * 2, none⟩ = false := World.ownsRow.frozenAt hk7 _
    have hpg : w4.heap.size ≠ gp := gb7.offRow hk7 (by decide)
    have hpx : w.heap.size + 1 ≠ gp := xb7.offRow hk7 (by decide)
    have hgp0 := (World.ownsRow.lt hk7 gp rfl).1
    have D8 := hide d8
    have GB8 := hide (gb7.other (g' := gp) (j := fn * 2) (x := .slice a7 L7 k7) hpg)
    have XB8 := hide (xb7.other (g' := gp) (j := fn * 2) (x := .slice a7 L7 k7) hpx)
    have AB8 := hide (b7.setCell (p := ⟨gp, fn * 2, none⟩) (by exact hgp0) (.slice a7 L7 k7))
    have NC7 := hide nc7
    have NF7 := hide nf7
    have GB7 := hide gb7
    clear o7 g7 at7 orow gb7 xb7 b7 d8 hk7 hpg hpx hgp0 hoff nc7 nf7 D6 GB6 XB6 AB6 NC6 hHeld
    refine hK.out _ _ (GB7.out.cell 0) (fun hHeld => ?_)
    clear hK K
    try simp only [Act.put, List.getElem_toArray, List.getElem_cons_zero, List.getElem_cons_succ, List.setIfInBounds_toArray, List.set_cons_zero, List.set_cons_succ]
    refine wpAnyH_take (i := 12) (v := ?v23) rfl (by kernel_rfl) (by kernel_rfl) (by kernel_rfl) (fun _ _ _ h => h) (Or.inl ⟨by rfl, ?hy23⟩) (by assumption) ?rest23
    case hy23 => (intro w' hSw; dsimp only [List.getElem_toArray, List.getElem_cons_zero, List.getElem_cons_succ] at hSw ⊢; go_simp; try (with_reducible rfl))
    try simp only [Act.put, List.getElem_toArray, List.getElem_cons_zero, List.getElem_cons_succ, List.setIfInBounds_toArray, List.set_cons_zero, List.set_cons_succ]
    refine wpAnyH_take (i := 13) (v := ?v24) rfl (by kernel_rfl) (by kernel_rfl) (by kernel_rfl) (fun _ _ _ h => h) (Or.inl ⟨by rfl, ?hy24⟩) (by assumption) ?rest24
    case hy24 => (intro w' hSw; dsimp only [List.getElem_toArray, List.getElem_cons_zero, List.getElem_cons_succ] at hSw ⊢; go_simp; try (with_reducible rfl))
    try simp only [Act.put, List.getElem_toArray, List.getElem_cons_zero, List.getElem_cons_succ, List.setIfInBounds_toArray, List.set_cons_zero, List.set_cons_succ]
    refine wpAnyH_ready (rs := [14]) (by kernel_rfl) (by simp) ?_
    refine AllReadyH.cons rfl (fun K hK => ?_) AllReadyH.nil
    have nc := NC7.out
    have nf := NF7.out
    dsimp only [List.getElem_toArray, List.getElem_cons_zero, List.getElem_cons_succ]
    go_simp
    clear nc nf hHeld
    refine hK.out _ _ (GB8.out.cell 0) (fun hHeld => ?_)
    clear hK K
    try simp only [Act.put, List.getElem_toArray, List.getElem_cons_zero, List.getElem_cons_succ, List.setIfInBounds_toArray, List.set_cons_zero, List.set_cons_succ]
    refine wpAnyH_done (by kernel_rfl) ?_ _
    refine NoPanic.normal ?_
    clear hHeld
    obtain ⟨w8, hw8⟩ : ∃ w8, w8 = w7.setCell ⟨gp, fn * 2, none⟩ (.slice a7 L7 k7) := ⟨_, rfl⟩
    rw [← hw8] at D8 GB8 XB8 AB8 ⊢
    have HW8 : Hid (w7.heap.size ≤ w8.heap.size) := by show _ ≤ _; rw [hw8]; simp
    clear hw8 NC7 NF7 GB7
    have o8 := D8.out.rowE 1 (by simp)
    obtain ⟨g', k', he, n8, nf8, put8⟩ := own_put o8 (n := tn) HTC.out
    simp only [List.getD_cons_zero, List.getD_cons_succ, Value.slice.injEq, Option.some.injEq, Addr.mk.injEq, and_true, true_and] at he
    obtain ⟨rfl, rfl⟩ := he
    have n8' : w8.cell? ⟨gc, tn, none⟩ = some (.int .i64 (cs.getD tn 0)) := n8
    have hbd := HBD.out
    obtain ⟨y, hy⟩ : ∃ y, y = cs.getD tn 0 := ⟨_, rfl⟩
    rw [← hy] at n8' hbd
    have p8 := put8 (y + 1)
    have d9 := D8.out.writeE 1 (by simp) p8.1 p8.2
    have gb9 := GB8.out.kept p8.2 (GB8.out.offT o8 (by decide))
    have xb9 := XB8.out.kept p8.2 (XB8.out.offT o8 (by decide))
    have b9 : Below w.heap.size w (w8.setCell ⟨gc, tn, none⟩ (.int .i64 (y + 1))) := AB8.out.grown p8.2 AB8.out.size (fun k hk => (World.ownsRow.lt o8 k hk).1)
    obtain ⟨hc0, hc1, hc2⟩ := GB8.out.c3
    obtain ⟨ic0, ic1, ic2⟩ := gb9.c3
    obtain ⟨jc0, jc1, jc2⟩ := xb9.c3
    have jf0 := xb9.frozen 0
    have jf1 := xb9.frozen 1
    have jf2 := xb9.frozen 2
    have hnc : (tn : Int) < (cs.length : Int) := by have := HTC.out; omega
    have hy0 := hbd.1
    have hy1 := hbd.2
    have xb10 := (xb9.store3 (.slice (some ⟨gp, 0, none⟩) m.length cp4) (.slice ar4 rs.length cr4) (.slice (some ⟨gc, 0, none⟩) cs.length cc4))
    have d10 := ((d9.atBox xb9 (by decide) (by decide) 0 (.slice (some ⟨gp, 0, none⟩) m.length cp4)).atBox (xb9.set 0 (.slice (some ⟨gp, 0, none⟩) m.length cp4)) (by decide) (by decide) 1 (.slice ar4 rs.length cr4)).atBox ((xb9.set 0 (.slice (some ⟨gp, 0, none⟩) m.length cp4)).set 1 (.slice ar4 rs.length cr4)) (by decide) (by decide) 2 (.slice (some ⟨gc, 0, none⟩) cs.length cc4)
    have b10 := ((b9.setCell (p := ⟨w.heap.size + 1, 0, none⟩) (by show w.heap.size ≤ w.heap.size + 1; omega) (.slice (some ⟨gp, 0, none⟩) m.length cp4)).setCell (p := ⟨w.heap.size + 1, 1, none⟩) (by show w.heap.size ≤ w.heap.size + 1; omega) (.slice ar4 rs.length cr4)).setCell (p := ⟨w.heap.size + 1, 2, none⟩) (by show w.heap.size ≤ w.heap.size + 1; omega) (.slice (some ⟨gc, 0, none⟩) cs.length cc4)
    have hbp : cs.set tn (y + 1) = bump cs (tn : Int) := by rw [hy]; simp [bump]
    simp only [List.set_cons_zero, List.set_cons_succ, List.getD_cons_zero, List.getD_cons_succ] at d10
    rw [hbp] at d10
    have D10 := hide (d10.wider (lo' := w.heap.size) (hi' := ((((w8.setCell ⟨gc, tn, none⟩ (.int .i64 (y + 1))).setCell ⟨w.heap.size + 1, 0, none⟩ (.slice (some ⟨gp, 0, none⟩) m.length cp4)).setCell ⟨w.heap.size + 1, 1, none⟩ (.slice ar4 rs.length cr4)).setCell ⟨w.heap.size + 1, 2, none⟩ (.slice (some ⟨gc, 0, none⟩) cs.length cc4)).heap.size) (Nat.le_refl _) (by simp; exact HW8.out))
    have X10 := hide xb10
    have B10 := hide b10
    have LN : Hid (lkN m (fn : Int) (tn : Int) = m.set fn ((m.getD fn nd0).1 ++ [(tn : Int)], (m.getD fn nd0).2)) := by show _ = _; unfold lkN; rw [Int.toNat_natCast]
    clear d9 d10 gb9 xb9 xb10 b9 b10 o8 p8 put8 hbd hbp n8 hy D8 GB8 XB8 AB8
    go_wp2
    exact bodyPost_ret (res_gr2 rfl _ _ (w.heap.size + 1) _ _ _ (0, 0) rfl X10.out) rfl ⟨_, _, _, rfl, ⟨_, by rw [gX_true, LN.out]; exact D10.out⟩, B10.out⟩
  · dsimp only [List.getElem_toArray, List.getElem_cons_zero, List.getElem_cons_succ]
    go_simp
    have bb := below_box V0 (.cells #[.int .i64 (tn : Int)] 3)
    have xx := BoxAt.new V0 #[.int .i64 (tn : Int)] 3
    obtain ⟨w5, hw5⟩ : ∃ w5, w5 = V0.alloc (.cells #[.int .i64 (tn : Int)] 3) := ⟨_, rfl⟩
    rw [← hw5] at bb xx ⊢
    obtain ⟨g5, hg5⟩ : ∃ g5, g5 = V0.heap.size := ⟨_, rfl⟩
    rw [← hg5] at xx ⊢
    have RX := hide (rd_one xx)
    have D6 := hide ((D5.out.below bb).wider (Nat.le_refl _) bb.size)
    have GB6 := hide (GB5.out.below bb)
    have XB6 := hide (XB5.out.below bb)
    have AB6 := hide (AB5.out.trans (bb.mono AB5.out.size))
    have NC6 := hide (cell_below NC5.out bb)
    clear bb xx hw5 hg5 D5 GB5 XB5 AB5 NC5 hHeld
    refine hK.out _ _ (GB6.out.cell 0) (fun hHeld => ?_)
    clear hK K
    try simp only [Act.put, List.getElem_toArray, List.getElem_cons_zero, List.getElem_cons_succ, List.setIfInBounds_toArray, List.set_cons_zero, List.set_cons_succ]
    refine wpAnyH_ready (rs := [8]) (by kernel_rfl) (by simp) ?_
    refine AllReadyH.cons rfl (fun K hK => ?_) AllReadyH.nil
    have nc := NC6.out
    dsimp only [List.getElem_toArray, List.getElem_cons_zero, List.getElem_cons_succ]
    go_simp
    clear nc hHeld
    refine hK.out _ _ (GB6.out.cell 0) (fun hHeld => ?_)
    clear hK K
    try simp only [Act.put, List.getElem_toArray, List.getElem_cons_zero, List.getElem_cons_succ, List.setIfInBounds_toArray, List.set_cons_zero, List.set_cons_succ]
    refine wpAnyH_ready (rs := [11]) (by kernel_rfl) (by simp) ?_
    refine AllReadyH.cons rfl (fun K hK => ?_) AllReadyH.nil
    refine step_app_int (by rfl) _ _ (by rfl) w.heap.size (.slice hb hl hc) (by rfl) (m.getD fn nd0).1 (by have := D6.out.row fn HFM.out; rw [HU.out] at this; exact this) (.slice (some ⟨g5, 0, none⟩) 1 1) (by rfl) [(tn : Int)] RX.out (by have := HK6.out; simp only [List.length_singleton]; omega) AB6.out.size ?_
    intro v7 w7 o7 g7 at7
    obtain ⟨a7, k7, hv7⟩ := row_slice o7
    obtain ⟨L7, hL7⟩ : ∃ L, L = ((m.getD fn nd0).1 ++ [(tn : Int)]).length := ⟨_, rfl⟩
    rw [← hL7] at hv7
    subst hv7
    clear hL7
    have orow := D6.out.row fn HFM.out
    rw [HU.out] at orow
    have gb7 := GB6.out.kept g7 (GB6.out.offT orow (by decide))
    have xb7 := XB6.out.kept g7 (XB6.out.offT orow (by decide))
    have hoff := D6.out.off orow
    have nc7 : w7.cell? ⟨gp, fn * 2, none⟩ = some (.slice hb hl hc) := g7.cell NC6.out (hoff.resolve_left (by simp [Value.ownBlock]))
    have b7 : Below w.heap.size w w7 := AB6.out.grown g7 AB6.out.size (fun k hk => (World.ownsRow.lt orow k hk).1)
    have d8 := D6.out.appHold fn HFM.out o7 (by rw [HU.out]; exact g7) (by rw [HU.out]; exact at7) (Nat.le_refl _)
    have hk7 := World.ownsRow.kept D6.out.head g7 hoff
    have nf7 : w7.frozen? ⟨gp, fn * 2, none⟩ = false := World.ownsRow.frozenAt hk7 _
    have hpg : w4.heap.size ≠ gp := gb7.offRow hk7 (by decide)
    have hpx : w.heap.size + 1 ≠ gp := xb7.offRow hk7 (by decide)
    have hgp0 := (World.ownsRow.lt hk7 gp rfl).1
    have D8 := hide d8
    have GB8 := hide (gb7.other (g' := gp) (j := fn * 2) (x := .slice a7 L7 k7) hpg)
    have XB8 := hide (xb7.other (g' := gp) (j := fn * 2) (x := .slice a7 L7 k7) hpx)
    have AB8 := hide (b7.setCell (p := ⟨gp, fn * 2, none⟩) (by exact hgp0) (.slice a7 L7 k7))
    have NC7 := hide nc7
    have NF7 := hide nf7
    have GB7 := hide gb7
    clear o7 g7 at7 orow gb7 xb7 b7 d8 hk7 hpg hpx hgp0 hoff nc7 nf7 D6 GB6 XB6 AB6 NC6 hHeld
    refine hK.out _ _ (GB7.out.cell 0) (fun hHeld => ?_)
    clear hK K
    try simp only [Act.put, List.getElem_toArray, List.getElem_cons_zero, List.getElem_cons_succ, List.setIfInBounds_toArray, List.set_cons_zero, List.set_cons_succ]
    refine wpAnyH_take (i := 12) (v := ?v25) rfl (by kernel_rfl) (by kernel_rfl) (by kernel_rfl) (fun _ _ _ h => h) (Or.inl ⟨by rfl, ?hy25⟩) (by assumption) ?rest25
    case hy25 => (intro w' hSw; dsimp only [List.getElem_toArray, List.getElem_cons_zero, List.getElem_cons_succ] at hSw ⊢; go_simp; try (with_reducible rfl))
    try simp only [Act.put, List.getElem_toArray, List.getElem_cons_zero, List.getElem_cons_succ, List.setIfInBounds_toArray, List.set_cons_zero, List.set_cons_succ]
    refine wpAnyH_take (i := 13) (v := ?v26) rfl (by kernel_rfl) (by kernel_rfl) (by kernel_rfl) (fun _ _ _ h => h) (Or.inl ⟨by rfl, ?hy26⟩) (by assumption) ?rest26
    case hy26 => (intro w' hSw; dsimp only [List.getElem_toArray, List.getElem_cons_zero, List.getElem_cons_succ] at hSw ⊢; go_simp; try (with_reducible rfl))
    try simp only [Act.put, List.getElem_toArray, List.getElem_cons_zero, List.getElem_cons_succ, List.setIfInBounds_toArray, List.set_cons_zero, List.set_cons_succ]
    refine wpAnyH_ready (rs := [14]) (by kernel_rfl) (by simp) ?_
    refine AllReadyH.cons rfl (fun K hK => ?_) AllReadyH.nil
    have nc := NC7.out
    have nf := NF7.out
    dsimp only [List.getElem_toArray, List.getElem_cons_zero, List.getElem_cons_succ]
    go_simp
    clear nc nf hHeld
    refine hK.out _ _ (GB8.out.cell 0) (fun hHeld => ?_)
    clear hK K
    try simp only [Act.put, List.getElem_toArray, List.getElem_cons_zero, List.getElem_cons_succ, List.setIfInBounds_toArray, List.set_cons_zero, List.set_cons_succ]
    refine wpAnyH_done (by kernel_rfl) ?_ _
    refine NoPanic.normal ?_
    clear hHeld
    obtain ⟨w8, hw8⟩ : ∃ w8, w8 = w7.setCell ⟨gp, fn * 2, none⟩ (.slice a7 L7 k7) := ⟨_, rfl⟩
    rw [← hw8] at D8 GB8 XB8 AB8 ⊢
    have HW8 : Hid (w7.heap.size ≤ w8.heap.size) := by show _ ≤ _; rw [hw8]; simp
    clear hw8 NC7 NF7 GB7
    have o8 := D8.out.rowE 1 (by simp)
    obtain ⟨g', k', he, n8, nf8, put8⟩ := own_put o8 (n := tn) HTC.out
    simp only [List.getD_cons_zero, List.getD_cons_succ, Value.slice.injEq, Option.some.injEq, Addr.mk.injEq, and_true, true_and] at he
    obtain ⟨rfl, rfl⟩ := he
    have n8' : w8.cell? ⟨gc, tn, none⟩ = some (.int .i64 (cs.getD tn 0)) := n8
    have hbd := HBD.out
    obtain ⟨y, hy⟩ : ∃ y, y = cs.getD tn 0 := ⟨_, rfl⟩
    rw [← hy] at n8' hbd
    have p8 := put8 (y + 1)
    have d9 := D8.out.writeE 1 (by simp) p8.1 p8.2
    have gb9 := GB8.out.kept p8.2 (GB8.out.offT o8 (by decide))
    have xb9 := XB8.out.kept p8.2 (XB8.out.offT o8 (by decide))
    have b9 : Below w.heap.size w (w8.setCell ⟨gc, tn, none⟩ (.int .i64 (y + 1))) := AB8.out.grown p8.2 AB8.out.size (fun k hk => (World.ownsRow.lt o8 k hk).1)
    obtain ⟨hc0, hc1, hc2⟩ := GB8.out.c3
    obtain ⟨ic0, ic1, ic2⟩ := gb9.c3
    obtain ⟨jc0, jc1, jc2⟩ := xb9.c3
    have jf0 := xb9.frozen 0
    have jf1 := xb9.frozen 1
    have jf2 := xb9.frozen 2
    have hnc : (tn : Int) < (cs.length : Int) := by have := HTC.out; omega
    have hy0 := hbd.1
    have hy1 := hbd.2
    have xb10 := (xb9.store3 (.slice (some ⟨gp, 0, none⟩) m.length cp4) (.slice ar4 rs.length cr4) (.slice (some ⟨gc, 0, none⟩) cs.length cc4))
    have d10 := ((d9.atBox xb9 (by decide) (by decide) 0 (.slice (some ⟨gp, 0, none⟩) m.length cp4)).atBox (xb9.set 0 (.slice (some ⟨gp, 0, none⟩) m.length cp4)) (by decide) (by decide) 1 (.slice ar4 rs.length cr4)).atBox ((xb9.set 0 (.slice (some ⟨gp, 0, none⟩) m.length cp4)).set 1 (.slice ar4 rs.length cr4)) (by decide) (by decide) 2 (.slice (some ⟨gc, 0, none⟩) cs.length cc4)
    have b10 := ((b9.setCell (p := ⟨w.heap.size + 1, 0, none⟩) (by show w.heap.size ≤ w.heap.size + 1; omega) (.slice (some ⟨gp, 0, none⟩) m.length cp4)).setCell (p := ⟨w.heap.size + 1, 1, none⟩) (by show w.heap.size ≤ w.heap.size + 1; omega) (.slice ar4 rs.length cr4)).setCell (p := ⟨w.heap.size + 1, 2, none⟩) (by show w.heap.size ≤ w.heap.size + 1; omega) (.slice (some ⟨gc, 0, none⟩) cs.length cc4)
    have hbp : cs.set tn (y + 1) = bump cs (tn : Int) := by rw [hy]; simp [bump]
    simp only [List.set_cons_zero, List.set_cons_succ, List.getD_cons_zero, List.getD_cons_succ] at d10
    rw [hbp] at d10
    have D10 := hide (d10.wider (lo' := w.heap.size) (hi' := ((((w8.setCell ⟨gc, tn, none⟩ (.int .i64 (y + 1))).setCell ⟨w.heap.size + 1, 0, none⟩ (.slice (some ⟨gp, 0, none⟩) m.length cp4)).setCell ⟨w.heap.size + 1, 1, none⟩ (.slice ar4 rs.length cr4)).setCell ⟨w.heap.size + 1, 2, none⟩ (.slice (some ⟨gc, 0, none⟩) cs.length cc4)).heap.size) (Nat.le_refl _) (by simp; exact HW8.out))
    have X10 := hide xb10
    have B10 := hide b10
    have LN : Hid (lkN m (fn : Int) (tn : Int) = m.set fn ((m.getD fn nd0).1 ++ [(tn : Int)], (m.getD fn nd0).2)) := by show _ = _; unfold lkN; rw [Int.toNat_natCast]
    clear d9 d10 gb9 xb9 xb10 b9 b10 o8 p8 put8 hbd hbp n8 hy D8 GB8 XB8 AB8
    go_wp2
    exact bodyPost_ret (res_gr2 rfl _ _ (w.heap.size + 1) _ _ _ (0, 0) rfl X10.out) rfl ⟨_, _, _, rfl, ⟨_, by rw [gX_true, LN.out]; exact D10.out⟩, B10.out⟩
end Go.Proofs.Ytakhggnbhjoojaa

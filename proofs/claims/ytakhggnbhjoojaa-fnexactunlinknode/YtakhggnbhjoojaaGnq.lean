/-
  A node holds another no more: UnlinkNode of the program and of the model, call by call. Each contract says what it asks.
-/
import Derived.Test.YtakhggnbhjoojaaGnr
namespace Go.Proofs.Ytakhggnbhjoojaa
open Go.RowKit
set_option linter.unusedVariables false

/-- What a node holds can go. -/
abbrev ukOk (m : List Nd) (rs cs : List Int) (f a : Int) : Prop := thG m rs cs f ∧ 0 ≤ a ∧ a < ((m.getD f.toNat nd0).1.length : Int)
def ukN (m : List Nd) (f a : Int) : List Nd := m.set f.toNat (outL (m.getD f.toNat nd0).1 a, (m.getD f.toNat nd0).2)
/-- What is left. -/
def ukS (m : List Nd) (cs : List Int) (f a : Int) : Ls := lsF 14 (ukN m f a) cs ((m.getD f.toNat nd0).1.getD a.toNat 0).toNat
theorem out_at (ks : List Int) (n i : Nat) (hn : n < ks.length) : (ks.take n ++ ks.drop (n + 1)).getD i 0 = ks.getD (if i < n then i else i + 1) 0 := by
  by_cases h : i < n
  · rw [if_pos h, getD_app_left _ _ _ _ (by simp; omega), getD_take _ _ _ _ h]
  · rw [if_neg h]
    obtain ⟨j, rfl⟩ : ∃ j, i = n + j := ⟨i - n, by omega⟩
    rw [getD_app_right (ks.take n) _ n j _ (by simp; omega)]
    simp only [List.getD_eq_getElem?_getD, List.getElem?_drop]
    rw [show n + 1 + j = n + j + 1 from by omega]
theorem LsN.put {m : List Nd} (h : LsN m) (n : Nat) (r : List Int) (z : Bool) (h1 : r.length ≤ 6) (h2 : ∀ i, i < r.length → 0 ≤ r.getD i 0 ∧ r.getD i 0 < (n : Int)) : LsN (m.set n (r, z)) := by
  intro k hk
  rw [List.length_set] at hk
  by_cases hn : n < m.length
  · rw [getD_set _ _ _ _ _ hn]
    by_cases e : k = n
    · subst e
      rw [if_pos rfl]
      exact ⟨h1, h2⟩
    · rw [if_neg e]
      exact h k hk
  · rw [List.set_eq_of_length_le (by omega)]
    exact h k hk
theorem uk_ls {m : List Nd} {rs cs ks : List Int} {z : Bool} {fn an : Nat} (h : goodG m rs cs) (hf : fn < m.length) (hx : m.getD fn nd0 = (ks, z)) (ha : an < ks.length) : LsOk m.length 0 0 (m.set fn (ks.take an ++ ks.drop (an + 1), z), cs, []) := by
  have g := good_ls h
  have g2 := g.nd fn hf
  simp only [hx] at g2
  refine ⟨by simp, g.lc, LsN.put g.nd fn _ z (by simp; omega) (fun i hi => ?_), g.bd, by simp⟩
  rw [out_at ks an i ha]
  simp only [List.length_append, List.length_take, List.length_drop] at hi
  exact g2.2 _ (by split <;> omega)

set_option linter.unusedSimpArgs false in
set_option maxRecDepth 100000 in
set_option maxHeartbeats 6400000 in
theorem sUnlinkNode_calls (p r c : Value) (m : List Nd) (rs cs : List Int) (f a : Int) (ok : Bool) (w : World) (h : RdG w p r c m rs cs) (hok : ok = decide (ukOk m rs cs f a)) :
    Calls Try.prog 41 #[.agg #[p, r, c], .int .i64 f, .int .i64 a] w fun e w' => ∃ p' r' c' y', e = .returned (.tuple #[.agg #[p', r', c'], y', .bool ok]) ∧ TGrY p' r' c' y' (gX ok (ukS m cs f a).1) (gX ok rs) (gX ok (ukS m cs f a).2.1) (gX ok (ukS m cs f a).2.2) w.heap.size w'.heap.size w' ∧ Below w.heap.size w w' := by
  have R := hide h
  obtain ⟨⟨ap, cp, rfl, h1, h2, h3⟩, ⟨ar, cr, rfl, hr1, hr2, _⟩, ⟨ac, cc, rfl, _⟩⟩ := h
  have A0 := hide (Hand.twoN w #[.slice ap m.length cp, .slice ar rs.length cr, .slice ac cs.length cc] nilG 27 27)
  clear h1 h2 h3 hr1 hr2
  by_cases hth : thG m rs cs f
  case neg =>
    obtain rfl : ok = false := by rw [hok]; exact decide_eq_false (fun h => hth h.1)
    have E1 : Hid (decide (thG m rs cs f) = false) := decide_eq_false hth
    clear hok hth
    go_enter Try.func41, Try.ntmps41
    go_wp2_with fail
    refine (l10There_calls _ _ _ m rs cs _ _ (R.out.below A0.out.below)).mono ?_
    rw [E1.out]
    rintro e w1 ⟨rfl, b1⟩
    have A1 := hide (A0.out.step b1)
    clear b1
    have A8 := hide (A1.out)
    have x := A8.out.atBox 0 rfl
    obtain ⟨z0, z1, z2⟩ := x.c3
    have f0 := x.frozen 0
    have f1 := x.frozen 1
    have f2 := x.frozen 2
    obtain ⟨c0, c1, c2⟩ := (A8.out.atBox 1 rfl).c3
    have A9 := hide (A8.out.store3G 0 rfl nilRow nilRow nilRow)
    clear x A8
    go_wp2
    exact bodyPost_ret (res_gr3 rfl _ _ (w.heap.size + 1) _ _ _ (0, 0) rfl (A9.out.atBox 0 rfl)) rfl ⟨_, _, _, _, rfl, TGrY.nil _ _ _, A9.out.below⟩
  have E1 : Hid (decide (thG m rs cs f) = true) := decide_eq_true hth
  obtain ⟨fn, hfn⟩ : ∃ fn : Nat, f = (fn : Int) := ⟨f.toNat, by have := hth.2.1; omega⟩
  subst hfn
  have hfm : fn < m.length := by have := hth.2.2.1; omega
  have HFM := hide hfm
  by_cases ha0 : 0 ≤ a
  case neg =>
    obtain rfl : ok = false := by rw [hok]; exact decide_eq_false (fun h => ha0 h.2.1)
    have ha0' : a < 0 := by omega
    clear hok hth ha0 hfm
    go_enter Try.func41, Try.ntmps41
    go_wp2_with fail
    refine (l10There_calls _ _ _ m rs cs _ _ (R.out.below A0.out.below)).mono ?_
    rw [E1.out]
    rintro e w1 ⟨rfl, b1⟩
    have A1 := hide (A0.out.step b1)
    clear b1
    have A8 := hide (A1.out)
    have x := A8.out.atBox 0 rfl
    obtain ⟨z0, z1, z2⟩ := x.c3
    have f0 := x.frozen 0
    have f1 := x.frozen 1
    have f2 := x.frozen 2
    obtain ⟨c0, c1, c2⟩ := (A8.out.atBox 1 rfl).c3
    have A9 := hide (A8.out.store3G 0 rfl nilRow nilRow nilRow)
    clear x A8
    go_wp2
    exact bodyPost_ret (res_gr3 rfl _ _ (w.heap.size + 1) _ _ _ (0, 0) rfl (A9.out.atBox 0 rfl)) rfl ⟨_, _, _, _, rfl, TGrY.nil _ _ _, A9.out.below⟩
  have ha0' : ¬ a < 0 := by omega
  by_cases ha1 : a < ((m.getD fn nd0).1.length : Int)
  case neg =>
    obtain rfl : ok = false := by rw [hok]; exact decide_eq_false (fun h => ha1 (by have := h.2.2; rw [Int.toNat_natCast] at this; exact this))
    have HA1 := hide ha1
    clear hok hth ha0 hfm ha1
    go_enter Try.func41, Try.ntmps41
    go_wp2_with fail
    refine (l10There_calls _ _ _ m rs cs _ _ (R.out.below A0.out.below)).mono ?_
    rw [E1.out]
    rintro e w1 ⟨rfl, b1⟩
    have A1 := hide (A0.out.step b1)
    clear b1
    obtain ⟨b, off, u, ks, z, rfl, hx, hu, d0, d1⟩ := R.out.1.at fn HFM.out
    replace d0 := cell_below d0 A1.out.below
    obtain ⟨ua, uc, rfl, _, _⟩ := hu.slc
    have hfm : (fn : Int) < (m.length : Int) := by have := HFM.out; omega
    have hf0 : (0 : Int) ≤ (fn : Int) := by omega
    have HX := hide hx
    have HU0 := hide hu
    clear hx hu d1
    obtain ⟨c0, c1, c2⟩ := (A1.out.atBox 1 rfl).c3
    have ha1 : (ks.length : Int) ≤ a := by have := HA1.out; rw [HX.out] at this; omega
    clear HA1 HX HU0
    clear c0 c1 c2
    have A8 := hide (A1.out)
    have x := A8.out.atBox 0 rfl
    obtain ⟨z0, z1, z2⟩ := x.c3
    have f0 := x.frozen 0
    have f1 := x.frozen 1
    have f2 := x.frozen 2
    obtain ⟨c0, c1, c2⟩ := (A8.out.atBox 1 rfl).c3
    have A9 := hide (A8.out.store3G 0 rfl nilRow nilRow nilRow)
    clear x A8
    go_wp2
    exact bodyPost_ret (res_gr3 rfl _ _ (w.heap.size + 1) _ _ _ (0, 0) rfl (A9.out.atBox 0 rfl)) rfl ⟨_, _, _, _, rfl, TGrY.nil _ _ _, A9.out.below⟩
  obtain rfl : ok = true := by rw [hok]; exact decide_eq_true ⟨hth, ha0, by rw [Int.toNat_natCast]; exact ha1⟩
  obtain ⟨an, han⟩ : ∃ an : Nat, a = (an : Int) := ⟨a.toNat, by omega⟩
  subst han
  have HAM : Hid (an < (m.getD fn nd0).1.length) := by show _ < _; omega
  have GG := hide hth.1
  have SZ := hide (good_sz hth.1)
  have HX6 : Hid ((m.getD fn nd0).1.length ≤ 6) := (hth.1.1.1.2 fn hfm).2.1
  have HXO := hide ((hth.1.1.1.2 fn hfm).1 an HAM.out)
  have H14 : Hid (m.length ≤ 14) := hth.1.1.1.1
  have HR6 : Hid (rs.length ≤ 6) := hth.1.1.2.1
  have HCL := hide (good_len hth.1)
  obtain ⟨S, hS⟩ : ∃ S, S = ukS m cs (fn : Int) (an : Int) := ⟨_, rfl⟩
  rw [← hS]
  have HS := hide hS
  clear hok hth ha0 ha1 hfm hS
  go_enter Try.func41, Try.ntmps41
  go_wp2_with fail
  refine (l10There_calls _ _ _ m rs cs _ _ (R.out.below A0.out.below)).mono ?_
  rw [E1.out]
  rintro e w1 ⟨rfl, b1⟩
  have A1 := hide (A0.out.step b1)
  clear b1
  obtain ⟨b, off, u, ks, z, rfl, hx, hu, d0, d1⟩ := R.out.1.at fn HFM.out
  replace d0 := cell_below d0 A1.out.below
  obtain ⟨ua, uc, rfl, _, _⟩ := hu.slc
  have hfm : (fn : Int) < (m.length : Int) := by have := HFM.out; omega
  have hf0 : (0 : Int) ≤ (fn : Int) := by omega
  have HX := hide hx
  have HU0 := hide hu
  clear hx hu d1
  obtain ⟨c0, c1, c2⟩ := (A1.out.atBox 1 rfl).c3
  have ha1 : (an : Int) < (ks.length : Int) := by have := HAM.out; rw [HX.out] at this; simp only at this; omega
  have ha1' : ¬ (ks.length : Int) ≤ (an : Int) := by omega
  go_wp2_with fail
  refine (l10Own_calls _ _ _ m rs cs _ (R.out.below A1.out.below) SZ.out).mono ?_
  rintro e w4 ⟨p4, r4, c4, rfl, d4, b4⟩
  obtain ⟨ap4, cp4, ar4, cr4, ac4, cc4, rfl, rfl, rfl⟩ := d4.sls
  have hgx : w.heap.size + 1 < w4.heap.size := Nat.lt_of_lt_of_le (A1.out.atBox 0 rfl).lt b4.size
  have hak : an < ks.length := by omega
  have HAK := hide hak
  have hk6 : ks.length ≤ 6 := by have := HX6.out; rw [HX.out] at this; exact this
  have HK6 := hide hk6
  have hxo := HXO.out
  rw [HX.out] at hxo
  simp only at hxo
  obtain ⟨x, hxx⟩ : ∃ x : Nat, ks.getD an 0 = (x : Int) := ⟨(ks.getD an 0).toNat, by have := hxo.1; omega⟩
  have HXX := hide hxx
  have HXM : Hid (x < m.length) := by have h1 := hxo.2.1; have h2 := HFM.out; show x < _; omega
  obtain ⟨kz, hkz⟩ : ∃ kz, kz = ks.take an ++ ks.drop (an + 1) := ⟨_, rfl⟩
  have hkz6 : kz.length ≤ 6 := by rw [hkz]; simp; omega
  have GL0 := uk_ls GG.out HFM.out HX.out hak
  rw [← hkz] at GL0
  obtain ⟨M, hM⟩ : ∃ M, M = m.set fn (kz, z) := ⟨_, rfl⟩
  have HM := hide hM
  have HKE := hide hkz
  rw [← hM] at GL0
  have GL := hide GL0
  have ES : Hid (S = lsF 14 M cs x) := by show _ = _; rw [HS.out, hM, hkz]; unfold ukS ukN outL; rw [Int.toNat_natCast, Int.toNat_natCast, HX.out, hxx, Int.toNat_natCast]
  have A5 := (A1.out.add b4 (TGrf.st _ _ _ _ _ _) d4).box #[.slice ap4 m.length cp4, .slice ar4 rs.length cr4, .slice ac4 cs.length cc4] 27
  obtain ⟨lo5, hi5, ⟨us5, d5⟩, hl5, hh5, put5⟩ := A5.open 1 rfl
  have d5' := d5.wider (lo' := w.heap.size) (hi' := (w4.alloc (.cells #[.slice ap4 m.length cp4, .slice ar4 rs.length cr4, .slice ac4 cs.length cc4] 27)).heap.size) hl5 hh5
  have gb := A5.atBox 0 rfl
  have xb := A5.atBox 2 rfl
  have ab := A5.below
  have hfm0 := HFM.out
  obtain ⟨gp, kp, hp, _⟩ := d5'.form (by omega)
  simp only [Value.slice.injEq, true_and] at hp
  obtain ⟨rfl, rfl⟩ := hp
  obtain ⟨nc, _, nf, _⟩ := d5'.cells fn hfm0
  have o5 := d5'.row fn hfm0
  rw [HX.out] at o5
  obtain ⟨gh, kh, hu, rc5, rf5, _⟩ := own_put o5 (n := an) hak
  rw [hxx] at rc5
  have HU := hide hu
  rw [hu] at nc
  have NC := hide nc
  have RC := hide rc5
  obtain ⟨w4b, hw4b⟩ : ∃ w4b, w4b = w4.alloc (.cells #[.slice (some ⟨gp, 0, none⟩) m.length cp4, .slice ar4 rs.length cr4, .slice ac4 cs.length cc4] 27) := ⟨_, rfl⟩
  have W4B : Hid (w4.alloc (.cells #[.slice (some ⟨gp, 0, none⟩) m.length cp4, .slice ar4 rs.length cr4, .slice ac4 cs.length cc4] 27) = w4b) := hw4b.symm
  rw [W4B.out] at d5' gb xb ab NC RC
  have D4 := hide d5'
  have GB := hide gb
  have XB := hide xb
  have AB := hide ab
  have HGX := hide hgx
  clear b4 d4 A1 A5 d5 d5' gb xb ab nc nf hw4b put5 lo5 hi5 hl5 hh5 hfm0 c0 c1 c2 d0 hu hgx hxo hxx hkz hM GL0 o5 rc5 rf5 hak hk6
  obtain ⟨gc0, gc1, gc2⟩ := GB.out.c3
  have nc := NC.out
  have rc := RC.out
  go_upto_region 4 with fail
  rw [W4B.out]
  go_wp2
  clear gc0 gc1 gc2 nc rc
  refine wp_region_noPanic ?_
  refine wp_region_held_drew (S := fun w' => w'.cell? ⟨w4.heap.size, 0, none⟩ = some (.slice (some ⟨gp, 0, none⟩) m.length cp4)) (by kernel_rfl) ((GB.out.below (Below.refl _ _).drew).cell 0) (fun hHeld => ?_)
  have D5 : Hid (NdV (World.drew w4b) w.heap.size (World.drew w4b).heap.size _ _ _ _ _) := D4.out.below (Below.refl _ _).drew
  have GB5 := hide (GB.out.below (Below.refl _ _).drew)
  have XB5 := hide (XB.out.below (Below.refl _ _).drew)
  have AB5 := hide (AB.out.trans ((Below.refl _ _).drew.mono AB.out.size))
  have NC5 := hide (cell_below NC.out (Below.refl _ _).drew)
  clear D4 GB XB AB NC
  generalize World.drew _ = V0 at *
  refine wpAnyH_take (i := 0) (v := ?v1) rfl (by kernel_rfl) (by kernel_rfl) (by kernel_rfl) (fun _ _ _ h => h) (Or.inl ⟨by rfl, ?hy1⟩) (by assumption) ?rest1
  case hy1 => (intro w' hSw; dsimp only [List.getElem_toArray, List.getElem_cons_zero, List.getElem_cons_succ] at hSw ⊢; go_simp; try (with_reducible rfl))
  try simp only [Act.put, List.getElem_toArray, List.getElem_cons_zero, List.getElem_cons_succ, List.setIfInBounds_toArray, List.set_cons_zero, List.set_cons_succ]
  refine wpAnyH_take (i := 1) (v := ?v2) rfl (by kernel_rfl) (by kernel_rfl) (by kernel_rfl) (fun _ _ _ h => h) (Or.inl ⟨by rfl, ?hy2⟩) (by assumption) ?rest2
  case hy2 => (intro w' hSw; dsimp only [List.getElem_toArray, List.getElem_cons_zero, List.getElem_cons_succ] at hSw ⊢; go_simp; try (with_reducible rfl))
  try simp only [Act.put, List.getElem_toArray, List.getElem_cons_zero, List.getElem_cons_succ, List.setIfInBounds_toArray, List.set_cons_zero, List.set_cons_succ]
  refine wpAnyH_take (i := 2) (v := ?v3) rfl (by kernel_rfl) (by kernel_rfl) (by kernel_rfl) (fun _ _ _ h => h) (Or.inl ⟨by rfl, ?hy3⟩) (by assumption) ?rest3
  case hy3 => (intro w' hSw; dsimp only [List.getElem_toArray, List.getElem_cons_zero, List.getElem_cons_succ] at hSw ⊢; go_simp; try (with_reducible rfl))
  try simp only [Act.put, List.getElem_toArray, List.getElem_cons_zero, List.getElem_cons_succ, List.setIfInBounds_toArray, List.set_cons_zero, List.set_cons_succ]
  refine wpAnyH_take (i := 3) (v := ?v4) rfl (by kernel_rfl) (by kernel_rfl) (by kernel_rfl) (fun _ _ _ h => h) (Or.inl ⟨by rfl, ?hy4⟩) (by assumption) ?rest4
  case hy4 => (intro w' hSw; dsimp only [List.getElem_toArray, List.getElem_cons_zero, List.getElem_cons_succ] at hSw ⊢; go_simp; try (with_reducible rfl))
  try simp only [Act.put, List.getElem_toArray, List.getElem_cons_zero, List.getElem_cons_succ, List.setIfInBounds_toArray, List.set_cons_zero, List.set_cons_succ]
  refine wpAnyH_take (i := 4) (v := ?v5) rfl (by kernel_rfl) (by kernel_rfl) (by kernel_rfl) (fun _ _ _ h => h) (Or.inl ⟨by rfl, ?hy5⟩) (by assumption) ?rest5
  case hy5 => (intro w' hSw; dsimp only [List.getElem_toArray, List.getElem_cons_zero, List.getElem_cons_succ] at hSw ⊢; go_simp; try (with_reducible rfl))
  try simp only [Act.put, List.getElem_toArray, List.getElem_cons_zero, List.getElem_cons_succ, List.setIfInBounds_toArray, List.set_cons_zero, List.set_cons_succ]
  refine wpAnyH_take (i := 5) (v := ?v6) rfl (by kernel_rfl) (by kernel_rfl) (by kernel_rfl) (fun _ _ _ h => h) (Or.inl ⟨by rfl, ?hy6⟩) (by assumption) ?rest6
  case hy6 => (intro w' hSw; dsimp only [List.getElem_toArray, List.getElem_cons_zero, List.getElem_cons_succ] at hSw ⊢; go_simp; try (with_reducible rfl))
  try simp only [Act.put, List.getElem_toArray, List.getElem_cons_zero, List.getElem_cons_succ, List.setIfInBounds_toArray, List.set_cons_zero, List.set_cons_succ]
  refine wpAnyH_take (i := 6) (v := ?v7) rfl (by kernel_rfl) (by kernel_rfl) (by kernel_rfl) (fun _ _ _ h => h) (Or.inl ⟨by rfl, ?hy7⟩) (by assumption) ?rest7
  case hy7 => (intro w' hSw; dsimp only [List.getElem_toArray, List.getElem_cons_zero, List.getElem_cons_succ] at hSw ⊢; go_simp; try (with_reducible rfl))
  try simp only [Act.put, List.getElem_toArray, List.getElem_cons_zero, List.getElem_cons_succ, List.setIfInBounds_toArray, List.set_cons_zero, List.set_cons_succ]
  refine wpAnyH_take (i := 7) (v := ?v8) rfl (by kernel_rfl) (by kernel_rfl) (by kernel_rfl) (fun _ _ _ h => h) (Or.inl ⟨by rfl, ?hy8⟩) (by assumption) ?rest8
  case hy8 => (intro w' hSw; dsimp only [List.getElem_toArray, List.getElem_cons_zero, List.getElem_cons_succ] at hSw ⊢; go_simp; try (with_reducible rfl))
  try simp only [Act.put, List.getElem_toArray, List.getElem_cons_zero, List.getElem_cons_succ, List.setIfInBounds_toArray, List.set_cons_zero, List.set_cons_succ]
  refine wpAnyH_take (i := 9) (v := ?v9) rfl (by kernel_rfl) (by kernel_rfl) (by kernel_rfl) (fun _ _ _ h => h) (Or.inl ⟨by rfl, ?hy9⟩) (by assumption) ?rest9
  case hy9 => (intro w' hSw; dsimp only [List.getElem_toArray, List.getElem_cons_zero, List.getElem_cons_succ] at hSw ⊢; go_simp; try (with_reducible rfl))
  try simp only [Act.put, List.getElem_toArray, List.getElem_cons_zero, List.getElem_cons_succ, List.setIfInBounds_toArray, List.set_cons_zero, List.set_cons_succ]
  refine wpAnyH_ready (rs := [8]) (by kernel_rfl) (by simp) ?_
  refine AllReadyH.cons rfl (fun K hK => ?_) AllReadyH.nil
  have nc := NC5.out
  dsimp only [List.getElem_toArray, List.getElem_cons_zero, List.getElem_cons_succ]
  go_simp
  clear nc hHeld
  refine hK.out _ _ (GB5.out.cell 0) (fun hHeld => ?_)
  clear hK K
  try simp only [Act.put, List.getElem_toArray, List.getElem_cons_zero, List.getElem_cons_succ, List.setIfInBounds_toArray, List.set_cons_zero, List.set_cons_succ]
  have OROW := hide (D5.out.row fn HFM.out)
  have orow := OROW.out
  rw [HU.out, HX.out] at orow
  refine wpAnyH_ready (rs := [10]) (by kernel_rfl) (by simp) ?_
  refine AllReadyH.cons rfl (fun K hK => ?_) AllReadyH.nil
  dsimp only [List.getElem_toArray, List.getElem_cons_zero, List.getElem_cons_succ]
  go_simp
  refine (l10Without_calls _ ks an V0 (Own.rd orow) HAK.out (by have := HK6.out; omega)).mono ?_
  rintro e' w6 ⟨v6, rfl, o6, b6⟩
  rw [← HKE.out] at o6
  obtain ⟨a6, k6, hv6⟩ := row_slice o6
  obtain ⟨L6, hL6⟩ : ∃ L, L = kz.length := ⟨_, rfl⟩
  rw [← hL6] at hv6
  subst hv6
  clear hL6
  have gb6 := GB5.out.below b6
  have xb6 := XB5.out.below b6
  have d6 := D5.out.below b6
  have ab6 := AB5.out.trans (b6.mono AB5.out.size)
  have nc6 := cell_below NC5.out b6
  have nf6 : w6.frozen? ⟨gp, fn * 2, none⟩ = false := (d6.cells fn HFM.out).2.2.1
  have d8 := d6.setHold (hi2 := w6.heap.size) fn HFM.out (Own.mono o6 AB5.out.size) b6.size (fun b hb => ⟨row_top o6 b hb, .inl (row_low o6 b hb)⟩)
  rw [HX.out] at d8
  simp only at d8
  rw [← HM.out] at d8
  have hpg : w4.heap.size ≠ gp := gb6.offRow d6.head (by decide)
  have hpx : w.heap.size + 1 ≠ gp := xb6.offRow d6.head (by decide)
  have hgp0 := (World.ownsRow.lt d6.head gp rfl).1
  have D8 := hide d8
  have GB8 := hide (gb6.other (g' := gp) (j := fn * 2) (x := .slice a6 L6 k6) hpg)
  have XB8 := hide (xb6.other (g' := gp) (j := fn * 2) (x := .slice a6 L6 k6) hpx)
  have AB8 := hide (ab6.setCell (p := ⟨gp, fn * 2, none⟩) (by exact hgp0) (.slice a6 L6 k6))
  have NC7 := hide nc6
  have NF7 := hide nf6
  have GB7 := hide gb6
  clear o6 b6 orow OROW gb6 xb6 ab6 d6 d8 hpg hpx hgp0 nc6 nf6 D5 GB5 XB5 AB5 NC5 hHeld
  refine hK.out _ _ (GB7.out.cell 0) (fun hHeld => ?_)
  clear hK K
  try simp only [Act.put, List.getElem_toArray, List.getElem_cons_zero, List.getElem_cons_succ, List.setIfInBounds_toArray, List.set_cons_zero, List.set_cons_succ]
  refine wpAnyH_take (i := 11) (v := ?v10) rfl (by kernel_rfl) (by kernel_rfl) (by kernel_rfl) (fun _ _ _ h => h) (Or.inl ⟨by rfl, ?hy10⟩) (by assumption) ?rest10
  case hy10 => (intro w' hSw; dsimp only [List.getElem_toArray, List.getElem_cons_zero, List.getElem_cons_succ] at hSw ⊢; go_simp; try (with_reducible rfl))
  try simp only [Act.put, List.getElem_toArray, List.getElem_cons_zero, List.getElem_cons_succ, List.setIfInBounds_toArray, List.set_cons_zero, List.set_cons_succ]
  refine wpAnyH_take (i := 12) (v := ?v11) rfl (by kernel_rfl) (by kernel_rfl) (by kernel_rfl) (fun _ _ _ h => h) (Or.inl ⟨by rfl, ?hy11⟩) (by assumption) ?rest11
  case hy11 => (intro w' hSw; dsimp only [List.getElem_toArray, List.getElem_cons_zero, List.getElem_cons_succ] at hSw ⊢; go_simp; try (with_reducible rfl))
  try simp only [Act.put, List.getElem_toArray, List.getElem_cons_zero, List.getElem_cons_succ, List.setIfInBounds_toArray, List.set_cons_zero, List.set_cons_succ]
  refine wpAnyH_ready (rs := [13]) (by kernel_rfl) (by simp) ?_
  refine AllReadyH.cons rfl (fun K hK => ?_) AllReadyH.nil
  have nc := NC7.out
  have nf := NF7.out
  dsimp only [List.getElem_toArray, List.getElem_cons_zero, List.getElem_cons_succ]
  go_simp
  clear nc nf hHeld
  refine hK.out _ _ (GB8.out.cell 0) (fun hHeld => ?_)
  clear hK K
  try simp only [Act.put, List.getElem_toArray, List.getElem_cons_zero, List.getElem_cons_succ, List.setIfInBounds_toArray, List.set_cons_zero, List.set_cons_succ]
  refine wpAnyH_done (by kernel_rfl) ?_ _
  refine NoPanic.normal ?_
  clear hHeld
  obtain ⟨w8, hw8⟩ : ∃ w8, w8 = w6.setCell ⟨gp, fn * 2, none⟩ (.slice a6 L6 k6) := ⟨_, rfl⟩
  have s8 : w8.heap.size = w6.heap.size := by rw [hw8]; simp
  rw [← hw8] at D8 GB8 XB8 AB8 ⊢
  clear hw8 NC7 NF7 GB7
  have D7 := hide (D8.out.addLast (u := nilRow) (r := []) (hi2 := w8.heap.size) (World.ownsRow_nil _ _ _ _) (by omega) (fun b hb => by simp [Value.ownBlock] at hb))
  obtain ⟨hc0, hc1, hc2⟩ := GB8.out.c3
  go_wp2_with fail
  refine (l10Less_calls m.length H14.out 14 x 0 _ _ _ nilRow [] _ [] rs cs [] M w.heap.size w8 (by have := HXM.out; have := H14.out; omega) HXM.out GL.out (by rw [lsT_14]; omega) (by rw [lsT_14]; simp) D7.out AB8.out.size).mono ?_
  rintro e w9 ⟨y8, us8, rfl, d8, bl8, kb8⟩
  have lk := lsF_ok m.length 14 M cs x 0 GL.out
  obtain ⟨ay8, ky8, hy8⟩ := row_slice (d8.rowE 2 (by simp))
  simp only [List.getD_cons_zero, List.getD_cons_succ, List.nil_append] at hy8 d8
  rw [← ES.out] at d8 hy8 lk
  obtain ⟨LV, hLV⟩ : ∃ L, L = S.2.2.length := ⟨_, rfl⟩
  rw [← hLV] at hy8
  subst hy8
  have gb8 := kb8 _ _ _ (by decide) (by decide) (by decide) GB8.out
  have XB9 := hide (kb8 _ _ _ (by decide) (by decide) (by decide) XB8.out)
  have AB9 := hide (AB8.out.trans bl8)
  have rg8 : RdG w9 (.slice (some ⟨gp, 0, none⟩) m.length cp4) (.slice ar4 rs.length cr4) (.slice ac4 cs.length cc4) S.1 rs S.2.1 := ⟨d8.rd, (d8.rowE 0 (by simp)).rd, (d8.rowE 1 (by simp)).rd⟩
  have RG8 := hide rg8
  have OY8 := hide (d8.rowE 2 (by simp))
  have SZ8 : Hid (SzG S.1 rs S.2.1) := by
    have h1 := lsN_tot S.1 lk.nd
    have h2 := lk.lm
    have h3 := lk.lc
    have h4 := H14.out
    have h5 := HR6.out
    exact ⟨by omega, by omega, by omega⟩
  clear hc0 hc1 hc2
  obtain ⟨hc0, hc1, hc2⟩ := gb8.c3
  clear d8 bl8 kb8 gb8 rg8 D7 D8 GB8 XB8 AB8 lk hLV
  go_wp2_with fail
  refine (l10Own_calls _ _ _ S.1 rs S.2.1 _ RG8.out SZ8.out).mono ?_
  rintro e w10 ⟨p9, r9, c9, rfl, d9, b9⟩
  obtain ⟨ap9, cp9, ar9, cr9, ac9, cc9, rfl, rfl, rfl⟩ := d9.sls
  obtain ⟨us9, dy9⟩ := grY_join OY8.out b9 d9 AB9.out.size
  have xb9 := XB9.out.below b9
  obtain ⟨jc0, jc1, jc2⟩ := xb9.c3
  have jf0 := xb9.frozen 0
  have jf1 := xb9.frozen 1
  have jf2 := xb9.frozen 2
  have ab9 := AB9.out.trans (b9.mono AB9.out.size)
  obtain ⟨LX, hLX⟩ : ∃ L, L = S.1.length := ⟨_, rfl⟩
  obtain ⟨LR, hLR⟩ : ∃ L, L = rs.length := ⟨_, rfl⟩
  obtain ⟨LC, hLC⟩ : ∃ L, L = S.2.1.length := ⟨_, rfl⟩
  rw [← hLX, ← hLR, ← hLC] at dy9 ⊢
  have xb10 := xb9.store3 (.slice ap9 LX cp9) (.slice ar9 LR cr9) (.slice ac9 LC cc9)
  have d10 := ((dy9.atBox xb9 (by decide) (by decide) 0 (.slice ap9 LX cp9)).atBox (xb9.set 0 (.slice ap9 LX cp9)) (by decide) (by decide) 1 (.slice ar9 LR cr9)).atBox ((xb9.set 0 (.slice ap9 LX cp9)).set 1 (.slice ar9 LR cr9)) (by decide) (by decide) 2 (.slice ac9 LC cc9)
  have b10 := ((ab9.setCell (p := ⟨w.heap.size + 1, 0, none⟩) (by show w.heap.size ≤ w.heap.size + 1; omega) (.slice ap9 LX cp9)).setCell (p := ⟨w.heap.size + 1, 1, none⟩) (by show w.heap.size ≤ w.heap.size + 1; omega) (.slice ar9 LR cr9)).setCell (p := ⟨w.heap.size + 1, 2, none⟩) (by show w.heap.size ≤ w.heap.size + 1; omega) (.slice ac9 LC cc9)
  have D10 := hide (d10.wider (lo' := w.heap.size) (hi' := (((w10.setCell ⟨w.heap.size + 1, 0, none⟩ (.slice ap9 LX cp9)).setCell ⟨w.heap.size + 1, 1, none⟩ (.slice ar9 LR cr9)).setCell ⟨w.heap.size + 1, 2, none⟩ (.slice ac9 LC cc9)).heap.size) (Nat.le_refl _) (by simp))
  have X10 := hide xb10
  have B10 := hide b10
  clear d9 b9 dy9 xb9 ab9 xb10 d10 b10 hLX hLR hLC hc0 hc1 hc2
  go_wp2
  exact bodyPost_ret (res_gr3 rfl _ _ (w.heap.size + 1) _ _ _ (0, 0) rfl X10.out) rfl ⟨_, _, _, _, rfl, ⟨_, by simp only [gX_true]; exact D10.out⟩, B10.out⟩

set_option linter.unusedSimpArgs false in
set_option maxRecDepth 100000 in
set_option maxHeartbeats 6400000 in
theorem unlinkNode_calls (p r c : Value) (m : List Nd) (rs cs : List Int) (f a : Int) (ok : Bool) (w : World) (h : RdG w p r c m rs cs) (hok : ok = decide (ukOk m rs cs f a)) :
    Calls Try.prog 42 #[.agg #[p, r, c], .int .i64 f, .int .i64 a] w fun e w' => ∃ p' r' c' y', e = .returned (.tuple #[.agg #[p', r', c'], y', .bool ok]) ∧ TGrY p' r' c' y' (gX ok (ukS m cs f a).1) (gX ok rs) (gX ok (ukS m cs f a).2.1) (gX ok (ukS m cs f a).2.2) w.heap.size w'.heap.size w' ∧ Below w.heap.size w w' := by
  have R := hide h
  obtain ⟨⟨ap, cp, rfl, h1, h2, h3⟩, ⟨ar, cr, rfl, hr1, hr2, _⟩, ⟨ac, cc, rfl, _⟩⟩ := h
  have A0 := hide (Hand.twoN w #[.slice ap m.length cp, .slice ar rs.length cr, .slice ac cs.length cc] nilG 27 27)
  clear h1 h2 h3 hr1 hr2
  by_cases hg : goodG m rs cs
  case neg =>
    obtain rfl : ok = false := by rw [hok]; exact decide_eq_false (fun h => hg h.1.1)
    have E0 : Hid (decide (goodG m rs cs) = false) := decide_eq_false hg
    clear hok hg
    go_enter Try.func42, Try.ntmps42
    go_wp2_with fail
    refine (goodGraph_calls _ _ _ m rs cs _ (R.out.below A0.out.below)).mono ?_
    rw [E0.out]
    rintro e w1 ⟨rfl, b1⟩
    have A1 := hide (A0.out.step b1)
    clear b1
    have A8 := hide (A1.out)
    have x := A8.out.atBox 0 rfl
    obtain ⟨z0, z1, z2⟩ := x.c3
    have f0 := x.frozen 0
    have f1 := x.frozen 1
    have f2 := x.frozen 2
    obtain ⟨c0, c1, c2⟩ := (A8.out.atBox 1 rfl).c3
    have A9 := hide (A8.out.store3G 0 rfl nilRow nilRow nilRow)
    clear x A8
    go_wp2
    exact bodyPost_ret (res_gr3 rfl _ _ (w.heap.size + 1) _ _ _ (0, 0) rfl (A9.out.atBox 0 rfl)) rfl ⟨_, _, _, _, rfl, TGrY.nil _ _ _, A9.out.below⟩
  have E0 : Hid (decide (goodG m rs cs) = true) := decide_eq_true hg
  by_cases hf : okH m m.length f
  case neg =>
    obtain rfl : ok = false := by rw [hok]; exact decide_eq_false (fun h => hf h.1.2)
    have E1 : Hid (decide (okH m m.length f) = false) := decide_eq_false hf
    clear hok hg hf
    go_enter Try.func42, Try.ntmps42
    go_wp2_with fail
    refine (goodGraph_calls _ _ _ m rs cs _ (R.out.below A0.out.below)).mono ?_
    rw [E0.out]
    rintro e w1 ⟨rfl, b1⟩
    have A1 := hide (A0.out.step b1)
    clear b1
    obtain ⟨c0, c1, c2⟩ := (A1.out.atBox 1 rfl).c3
    go_wp2_with fail
    refine (hasNode_calls _ m _ _ (R.out.below A1.out.below).1).mono ?_
    rw [E1.out]
    rintro e w2 ⟨rfl, rfl⟩
    clear c0 c1 c2
    have A8 := hide (A1.out)
    have x := A8.out.atBox 0 rfl
    obtain ⟨z0, z1, z2⟩ := x.c3
    have f0 := x.frozen 0
    have f1 := x.frozen 1
    have f2 := x.frozen 2
    obtain ⟨c0, c1, c2⟩ := (A8.out.atBox 1 rfl).c3
    have A9 := hide (A8.out.store3G 0 rfl nilRow nilRow nilRow)
    clear x A8
    go_wp2
    exact bodyPost_ret (res_gr3 rfl _ _ (w.heap.size + 1) _ _ _ (0, 0) rfl (A9.out.atBox 0 rfl)) rfl ⟨_, _, _, _, rfl, TGrY.nil _ _ _, A9.out.below⟩
  have E1 : Hid (decide (okH m m.length f) = true) := decide_eq_true hf
  have hth : thG m rs cs f := ⟨hg, hf⟩
  clear hg hf
  obtain ⟨fn, hfn⟩ : ∃ fn : Nat, f = (fn : Int) := ⟨f.toNat, by have := hth.2.1; omega⟩
  subst hfn
  have hfm : fn < m.length := by have := hth.2.2.1; omega
  have HFM := hide hfm
  by_cases ha0 : 0 ≤ a
  case neg =>
    obtain rfl : ok = false := by rw [hok]; exact decide_eq_false (fun h => ha0 h.2.1)
    have ha0' : a < 0 := by omega
    clear hok hth ha0 hfm
    go_enter Try.func42, Try.ntmps42
    go_wp2_with fail
    refine (goodGraph_calls _ _ _ m rs cs _ (R.out.below A0.out.below)).mono ?_
    rw [E0.out]
    rintro e w1 ⟨rfl, b1⟩
    have A1 := hide (A0.out.step b1)
    clear b1
    obtain ⟨c0, c1, c2⟩ := (A1.out.atBox 1 rfl).c3
    go_wp2_with fail
    refine (hasNode_calls _ m _ _ (R.out.below A1.out.below).1).mono ?_
    rw [E1.out]
    rintro e w2 ⟨rfl, rfl⟩
    obtain ⟨b, off, u, ks, z, rfl, hx, hu, d0, d1⟩ := R.out.1.at fn HFM.out
    replace d0 := cell_below d0 A1.out.below
    obtain ⟨ua, uc, rfl, _, _⟩ := hu.slc
    have hfm : (fn : Int) < (m.length : Int) := by have := HFM.out; omega
    have hf0 : (0 : Int) ≤ (fn : Int) := by omega
    have HX := hide hx
    have HU0 := hide hu
    clear hx hu d1
    clear HX HU0
    clear c0 c1 c2
    have A8 := hide (A1.out)
    have x := A8.out.atBox 0 rfl
    obtain ⟨z0, z1, z2⟩ := x.c3
    have f0 := x.frozen 0
    have f1 := x.frozen 1
    have f2 := x.frozen 2
    obtain ⟨c0, c1, c2⟩ := (A8.out.atBox 1 rfl).c3
    have A9 := hide (A8.out.store3G 0 rfl nilRow nilRow nilRow)
    clear x A8
    go_wp2
    exact bodyPost_ret (res_gr3 rfl _ _ (w.heap.size + 1) _ _ _ (0, 0) rfl (A9.out.atBox 0 rfl)) rfl ⟨_, _, _, _, rfl, TGrY.nil _ _ _, A9.out.below⟩
  have ha0' : ¬ a < 0 := by omega
  by_cases ha1 : a < ((m.getD fn nd0).1.length : Int)
  case neg =>
    obtain rfl : ok = false := by rw [hok]; exact decide_eq_false (fun h => ha1 (by have := h.2.2; rw [Int.toNat_natCast] at this; exact this))
    have HA1 := hide ha1
    clear hok hth ha0 hfm ha1
    go_enter Try.func42, Try.ntmps42
    go_wp2_with fail
    refine (goodGraph_calls _ _ _ m rs cs _ (R.out.below A0.out.below)).mono ?_
    rw [E0.out]
    rintro e w1 ⟨rfl, b1⟩
    have A1 := hide (A0.out.step b1)
    clear b1
    obtain ⟨c0, c1, c2⟩ := (A1.out.atBox 1 rfl).c3
    go_wp2_with fail
    refine (hasNode_calls _ m _ _ (R.out.below A1.out.below).1).mono ?_
    rw [E1.out]
    rintro e w2 ⟨rfl, rfl⟩
    obtain ⟨b, off, u, ks, z, rfl, hx, hu, d0, d1⟩ := R.out.1.at fn HFM.out
    replace d0 := cell_below d0 A1.out.below
    obtain ⟨ua, uc, rfl, _, _⟩ := hu.slc
    have hfm : (fn : Int) < (m.length : Int) := by have := HFM.out; omega
    have hf0 : (0 : Int) ≤ (fn : Int) := by omega
    have HX := hide hx
    have HU0 := hide hu
    clear hx hu d1
    have ha1 : (ks.length : Int) ≤ a := by have := HA1.out; rw [HX.out] at this; omega
    clear HA1 HX HU0
    clear c0 c1 c2
    have A8 := hide (A1.out)
    have x := A8.out.atBox 0 rfl
    obtain ⟨z0, z1, z2⟩ := x.c3
    have f0 := x.frozen 0
    have f1 := x.frozen 1
    have f2 := x.frozen 2
    obtain ⟨c0, c1, c2⟩ := (A8.out.atBox 1 rfl).c3
    have A9 := hide (A8.out.store3G 0 rfl nilRow nilRow nilRow)
    clear x A8
    go_wp2
    exact bodyPost_ret (res_gr3 rfl _ _ (w.heap.size + 1) _ _ _ (0, 0) rfl (A9.out.atBox 0 rfl)) rfl ⟨_, _, _, _, rfl, TGrY.nil _ _ _, A9.out.below⟩
  obtain rfl : ok = true := by rw [hok]; exact decide_eq_true ⟨hth, ha0, by rw [Int.toNat_natCast]; exact ha1⟩
  obtain ⟨an, han⟩ : ∃ an : Nat, a = (an : Int) := ⟨a.toNat, by omega⟩
  subst han
  have HAM : Hid (an < (m.getD fn nd0).1.length) := by show _ < _; omega
  have GG := hide hth.1
  have SZ := hide (good_sz hth.1)
  have HX6 : Hid ((m.getD fn nd0).1.length ≤ 6) := (hth.1.1.1.2 fn hfm).2.1
  have HXO := hide ((hth.1.1.1.2 fn hfm).1 an HAM.out)
  have H14 : Hid (m.length ≤ 14) := hth.1.1.1.1
  have HR6 : Hid (rs.length ≤ 6) := hth.1.1.2.1
  have HCL := hide (good_len hth.1)
  obtain ⟨S, hS⟩ : ∃ S, S = ukS m cs (fn : Int) (an : Int) := ⟨_, rfl⟩
  rw [← hS]
  have HS := hide hS
  clear hok hth ha0 ha1 hfm hS
  go_enter Try.func42, Try.ntmps42
  go_wp2_with fail
  refine (goodGraph_calls _ _ _ m rs cs _ (R.out.below A0.out.below)).mono ?_
  rw [E0.out]
  rintro e w1 ⟨rfl, b1⟩
  have A1 := hide (A0.out.step b1)
  clear b1
  obtain ⟨c0, c1, c2⟩ := (A1.out.atBox 1 rfl).c3
  go_wp2_with fail
  refine (hasNode_calls _ m _ _ (R.out.below A1.out.below).1).mono ?_
  rw [E1.out]
  rintro e w2 ⟨rfl, rfl⟩
  obtain ⟨b, off, u, ks, z, rfl, hx, hu, d0, d1⟩ := R.out.1.at fn HFM.out
  replace d0 := cell_below d0 A1.out.below
  obtain ⟨ua, uc, rfl, _, _⟩ := hu.slc
  have hfm : (fn : Int) < (m.length : Int) := by have := HFM.out; omega
  have hf0 : (0 : Int) ≤ (fn : Int) := by omega
  have HX := hide hx
  have HU0 := hide hu
  clear hx hu d1
  have ha1 : (an : Int) < (ks.length : Int) := by have := HAM.out; rw [HX.out] at this; simp only at this; omega
  have ha1' : ¬ (ks.length : Int) ≤ (an : Int) := by omega
  go_wp2_with fail
  refine (copyGraph_calls _ _ _ m rs cs _ (R.out.below A1.out.below) SZ.out).mono ?_
  rintro e w4 ⟨p4, r4, c4, rfl, d4, b4⟩
  obtain ⟨ap4, cp4, ar4, cr4, ac4, cc4, rfl, rfl, rfl⟩ := d4.sls
  have hgx : w.heap.size + 1 < w4.heap.size := Nat.lt_of_lt_of_le (A1.out.atBox 0 rfl).lt b4.size
  have hak : an < ks.length := by omega
  have HAK := hide hak
  have hk6 : ks.length ≤ 6 := by have := HX6.out; rw [HX.out] at this; exact this
  have HK6 := hide hk6
  have hxo := HXO.out
  rw [HX.out] at hxo
  simp only at hxo
  obtain ⟨x, hxx⟩ : ∃ x : Nat, ks.getD an 0 = (x : Int) := ⟨(ks.getD an 0).toNat, by have := hxo.1; omega⟩
  have HXX := hide hxx
  have HXM : Hid (x < m.length) := by have h1 := hxo.2.1; have h2 := HFM.out; show x < _; omega
  obtain ⟨kz, hkz⟩ : ∃ kz, kz = ks.take an ++ ks.drop (an + 1) := ⟨_, rfl⟩
  have hkz6 : kz.length ≤ 6 := by rw [hkz]; simp; omega
  have GL0 := uk_ls GG.out HFM.out HX.out hak
  rw [← hkz] at GL0
  obtain ⟨M, hM⟩ : ∃ M, M = m.set fn (kz, z) := ⟨_, rfl⟩
  have HM := hide hM
  have HKE := hide hkz
  rw [← hM] at GL0
  have GL := hide GL0
  have ES : Hid (S = lsF 14 M cs x) := by show _ = _; rw [HS.out, hM, hkz]; unfold ukS ukN outL; rw [Int.toNat_natCast, Int.toNat_natCast, HX.out, hxx, Int.toNat_natCast]
  have A5 := (A1.out.add b4 (TGrf.st _ _ _ _ _ _) d4).box #[.slice ap4 m.length cp4, .slice ar4 rs.length cr4, .slice ac4 cs.length cc4] 27
  obtain ⟨lo5, hi5, ⟨us5, d5⟩, hl5, hh5, put5⟩ := A5.open 1 rfl
  have d5' := d5.wider (lo' := w.heap.size) (hi' := (w4.alloc (.cells #[.slice ap4 m.length cp4, .slice ar4 rs.length cr4, .slice ac4 cs.length cc4] 27)).heap.size) hl5 hh5
  have gb := A5.atBox 0 rfl
  have xb := A5.atBox 2 rfl
  have ab := A5.below
  have hfm0 := HFM.out
  obtain ⟨gp, kp, hp, _⟩ := d5'.form (by omega)
  simp only [Value.slice.injEq, true_and] at hp
  obtain ⟨rfl, rfl⟩ := hp
  obtain ⟨nc, _, nf, _⟩ := d5'.cells fn hfm0
  have o5 := d5'.row fn hfm0
  rw [HX.out] at o5
  obtain ⟨gh, kh, hu, rc5, rf5, _⟩ := own_put o5 (n := an) hak
  rw [hxx] at rc5
  have HU := hide hu
  rw [hu] at nc
  have NC := hide nc
  have RC := hide rc5
  obtain ⟨w4b, hw4b⟩ : ∃ w4b, w4b = w4.alloc (.cells #[.slice (some ⟨gp, 0, none⟩) m.length cp4, .slice ar4 rs.length cr4, .slice ac4 cs.length cc4] 27) := ⟨_, rfl⟩
  have W4B : Hid (w4.alloc (.cells #[.slice (some ⟨gp, 0, none⟩) m.length cp4, .slice ar4 rs.length cr4, .slice ac4 cs.length cc4] 27) = w4b) := hw4b.symm
  rw [W4B.out] at d5' gb xb ab NC RC
  have D4 := hide d5'
  have GB := hide gb
  have XB := hide xb
  have AB := hide ab
  have HGX := hide hgx
  clear b4 d4 A1 A5 d5 d5' gb xb ab nc nf hw4b put5 lo5 hi5 hl5 hh5 hfm0 c0 c1 c2 d0 hu hgx hxo hxx hkz hM GL0 o5 rc5 rf5 hak hk6
  go_wp2
  rw [W4B.out]
  refine wp_region_noPanic ?_
  refine wp_region_held_drew (S := fun w' => w'.cell? ⟨w4.heap.size, 0, none⟩ = some (.slice (some ⟨gp, 0, none⟩) m.length cp4)) (by kernel_rfl) ((GB.out.below (Below.refl _ _).drew).cell 0) (fun hHeld => ?_)
  have D5 : Hid (NdV (World.drew w4b) w.heap.size (World.drew w4b).heap.size _ _ _ _ _) := D4.out.below (Below.refl _ _).drew
  have GB5 := hide (GB.out.below (Below.refl _ _).drew)
  have XB5 := hide (XB.out.below (Below.refl _ _).drew)
  have AB5 := hide (AB.out.trans ((Below.refl _ _).drew.mono AB.out.size))
  have NC5 := hide (cell_below NC.out (Below.refl _ _).drew)
  clear D4 GB XB AB NC
  generalize World.drew _ = V0 at *
  refine wpAnyH_take (i := 0) (v := ?v12) rfl (by kernel_rfl) (by kernel_rfl) (by kernel_rfl) (fun _ _ _ h => h) (Or.inl ⟨by rfl, ?hy12⟩) (by assumption) ?rest12
  case hy12 => (intro w' hSw; dsimp only [List.getElem_toArray, List.getElem_cons_zero, List.getElem_cons_succ] at hSw ⊢; go_simp; try (with_reducible rfl))
  try simp only [Act.put, List.getElem_toArray, List.getElem_cons_zero, List.getElem_cons_succ, List.setIfInBounds_toArray, List.set_cons_zero, List.set_cons_succ]
  refine wpAnyH_take (i := 1) (v := ?v13) rfl (by kernel_rfl) (by kernel_rfl) (by kernel_rfl) (fun _ _ _ h => h) (Or.inl ⟨by rfl, ?hy13⟩) (by assumption) ?rest13
  case hy13 => (intro w' hSw; dsimp only [List.getElem_toArray, List.getElem_cons_zero, List.getElem_cons_succ] at hSw ⊢; go_simp; try (with_reducible rfl))
  try simp only [Act.put, List.getElem_toArray, List.getElem_cons_zero, List.getElem_cons_succ, List.setIfInBounds_toArray, List.set_cons_zero, List.set_cons_succ]
  refine wpAnyH_take (i := 2) (v := ?v14) rfl (by kernel_rfl) (by kernel_rfl) (by kernel_rfl) (fun _ _ _ h => h) (Or.inl ⟨by rfl, ?hy14⟩) (by assumption) ?rest14
  case hy14 => (intro w' hSw; dsimp only [List.getElem_toArray, List.getElem_cons_zero, List.getElem_cons_succ] at hSw ⊢; go_simp; try (with_reducible rfl))
  try simp only [Act.put, List.getElem_toArray, List.getElem_cons_zero, List.getElem_cons_succ, List.setIfInBounds_toArray, List.set_cons_zero, List.set_cons_succ]
  refine wpAnyH_take (i := 3) (v := ?v15) rfl (by kernel_rfl) (by kernel_rfl) (by kernel_rfl) (fun _ _ _ h => h) (Or.inl ⟨by rfl, ?hy15⟩) (by assumption) ?rest15
  case hy15 => (intro w' hSw; dsimp only [List.getElem_toArray, List.getElem_cons_zero, List.getElem_cons_succ] at hSw ⊢; go_simp; try (with_reducible rfl))
  try simp only [Act.put, List.getElem_toArray, List.getElem_cons_zero, List.getElem_cons_succ, List.setIfInBounds_toArray, List.set_cons_zero, List.set_cons_succ]
  refine wpAnyH_take (i := 4) (v := ?v16) rfl (by kernel_rfl) (by kernel_rfl) (by kernel_rfl) (fun _ _ _ h => h) (Or.inl ⟨by rfl, ?hy16⟩) (by assumption) ?rest16
  case hy16 => (intro w' hSw; dsimp only [List.getElem_toArray, List.getElem_cons_zero, List.getElem_cons_succ] at hSw ⊢; go_simp; try (with_reducible rfl))
  try simp only [Act.put, List.getElem_toArray, List.getElem_cons_zero, List.getElem_cons_succ, List.setIfInBounds_toArray, List.set_cons_zero, List.set_cons_succ]
  refine wpAnyH_take (i := 5) (v := ?v17) rfl (by kernel_rfl) (by kernel_rfl) (by kernel_rfl) (fun _ _ _ h => h) (Or.inl ⟨by rfl, ?hy17⟩) (by assumption) ?rest17
  case hy17 => (intro w' hSw; dsimp only [List.getElem_toArray, List.getElem_cons_zero, List.getElem_cons_succ] at hSw ⊢; go_simp; try (with_reducible rfl))
  try simp only [Act.put, List.getElem_toArray, List.getElem_cons_zero, List.getElem_cons_succ, List.setIfInBounds_toArray, List.set_cons_zero, List.set_cons_succ]
  refine wpAnyH_take (i := 6) (v := ?v18) rfl (by kernel_rfl) (by kernel_rfl) (by kernel_rfl) (fun _ _ _ h => h) (Or.inl ⟨by rfl, ?hy18⟩) (by assumption) ?rest18
  case hy18 => (intro w' hSw; dsimp only [List.getElem_toArray, List.getElem_cons_zero, List.getElem_cons_succ] at hSw ⊢; go_simp; try (with_reducible rfl))
  try simp only [Act.put, List.getElem_toArray, List.getElem_cons_zero, List.getElem_cons_succ, List.setIfInBounds_toArray, List.set_cons_zero, List.set_cons_succ]
  refine wpAnyH_take (i := 7) (v := ?v19) rfl (by kernel_rfl) (by kernel_rfl) (by kernel_rfl) (fun _ _ _ h => h) (Or.inl ⟨by rfl, ?hy19⟩) (by assumption) ?rest19
  case hy19 => (intro w' hSw; dsimp only [List.getElem_toArray, List.getElem_cons_zero, List.getElem_cons_succ] at hSw ⊢; go_simp; try (with_reducible rfl))
  try simp only [Act.put, List.getElem_toArray, List.getElem_cons_zero, List.getElem_cons_succ, List.setIfInBounds_toArray, List.set_cons_zero, List.set_cons_succ]
  refine wpAnyH_take (i := 9) (v := ?v20) rfl (by kernel_rfl) (by kernel_rfl) (by kernel_rfl) (fun _ _ _ h => h) (Or.inl ⟨by rfl, ?hy20⟩) (by assumption) ?rest20
  case hy20 => (intro w' hSw; dsimp only [List.getElem_toArray, List.getElem_cons_zero, List.getElem_cons_succ] at hSw ⊢; go_simp; try (with_reducible rfl))
  try simp only [Act.put, List.getElem_toArray, List.getElem_cons_zero, List.getElem_cons_succ, List.setIfInBounds_toArray, List.set_cons_zero, List.set_cons_succ]
  refine wpAnyH_take (i := 10) (v := ?v21) rfl (by kernel_rfl) (by kernel_rfl) (by kernel_rfl) (fun _ _ _ h => h) (Or.inl ⟨by rfl, ?hy21⟩) (by assumption) ?rest21
  case hy21 => (intro w' hSw; dsimp only [List.getElem_toArray, List.getElem_cons_zero, List.getElem_cons_succ] at hSw ⊢; go_simp; try (with_reducible rfl))
  try simp only [Act.put, List.getElem_toArray, List.getElem_cons_zero, List.getElem_cons_succ, List.setIfInBounds_toArray, List.set_cons_zero, List.set_cons_succ]
  refine wpAnyH_take (i := 11) (v := ?v22) rfl (by kernel_rfl) (by kernel_rfl) (by kernel_rfl) (fun _ _ _ h => h) (Or.inl ⟨by rfl, ?hy22⟩) (by assumption) ?rest22
  case hy22 => (intro w' hSw; dsimp only [List.getElem_toArray, List.getElem_cons_zero, List.getElem_cons_succ] at hSw ⊢; go_simp; try (with_reducible rfl))
  try simp only [Act.put, List.getElem_toArray, List.getElem_cons_zero, List.getElem_cons_succ, List.setIfInBounds_toArray, List.set_cons_zero, List.set_cons_succ]
  refine wpAnyH_ready (rs := [8]) (by kernel_rfl) (by simp) ?_
  refine AllReadyH.cons rfl (fun K hK => ?_) AllReadyH.nil
  have nc := NC5.out
  dsimp only [List.getElem_toArray, List.getElem_cons_zero, List.getElem_cons_succ]
  go_simp
  clear nc hHeld
  refine hK.out _ _ (GB5.out.cell 0) (fun hHeld => ?_)
  clear hK K
  try simp only [Act.put, List.getElem_toArray, List.getElem_cons_zero, List.getElem_cons_succ, List.setIfInBounds_toArray, List.set_cons_zero, List.set_cons_succ]
  have orow := D5.out.row fn HFM.out
  have OROW := hide orow
  rw [HU.out, HX.out] at orow
  refine wpAnyH_ready (rs := [12]) (by kernel_rfl) (by simp) ?_
  refine AllReadyH.cons rfl (fun K hK => ?_) AllReadyH.nil
  dsimp only [List.getElem_toArray, List.getElem_cons_zero, List.getElem_cons_succ]
  go_simp
  have hak0 := HAK.out
  have hk60 := HK6.out
  have ew : IntKind.i64.wrap ((an : Int) + 1) = (an : Int) + 1 := by simp [IntKind.wrap, IntKind.bits, IntKind.signed]; omega
  rw [ew]
  clear ew hak0 hk60
  refine (delete_calls gh kh an w.heap.size ks V0 orow HAK.out).mono ?_
  rintro e' w6 ⟨rfl, o6, g6⟩
  rw [← HKE.out] at o6
  obtain ⟨L6, hL6⟩ : ∃ L, L = ks.length - 1 := ⟨_, rfl⟩
  rw [← hL6] at o6 ⊢
  clear hL6
  have gb6 := GB5.out.kept g6 (GB5.out.offT orow (by decide))
  have xb6 := XB5.out.kept g6 (XB5.out.offT orow (by decide))
  have hoff := D5.out.off orow
  have nc6 : w6.cell? ⟨gp, fn * 2, none⟩ = some (.slice (some ⟨gh, 0, none⟩) ks.length kh) := g6.cell NC5.out (hoff.resolve_left (by simp [Value.ownBlock]))
  have ab6 : Below w.heap.size w w6 := AB5.out.grown g6 AB5.out.size (fun k hk => (World.ownsRow.lt orow k hk).1)
  have d8 := D5.out.appHold fn HFM.out o6 (by rw [HU.out]; exact g6) (by rw [HU.out]; exact .inl rfl) (Nat.le_refl _)
  rw [HX.out] at d8
  simp only at d8
  rw [← HM.out] at d8
  have hk6 := World.ownsRow.kept D5.out.head g6 hoff
  have nf6 : w6.frozen? ⟨gp, fn * 2, none⟩ = false := World.ownsRow.frozenAt hk6 _
  have hpg : w4.heap.size ≠ gp := gb6.offRow hk6 (by decide)
  have hpx : w.heap.size + 1 ≠ gp := xb6.offRow hk6 (by decide)
  have hgp0 := (World.ownsRow.lt hk6 gp rfl).1
  have D8 := hide d8
  have GB8 := hide (gb6.other (g' := gp) (j := fn * 2) (x := .slice (some ⟨gh, 0, none⟩) L6 kh) hpg)
  have XB8 := hide (xb6.other (g' := gp) (j := fn * 2) (x := .slice (some ⟨gh, 0, none⟩) L6 kh) hpx)
  have AB8 := hide (ab6.setCell (p := ⟨gp, fn * 2, none⟩) (by exact hgp0) (.slice (some ⟨gh, 0, none⟩) L6 kh))
  have NC7 := hide nc6
  have NF7 := hide nf6
  have GB7 := hide gb6
  clear o6 g6 orow OROW gb6 xb6 ab6 d8 hoff hk6 hpg hpx hgp0 nc6 nf6 D5 GB5 XB5 AB5 NC5 hHeld
  refine hK.out _ _ (GB7.out.cell 0) (fun hHeld => ?_)
  clear hK K
  try simp only [Act.put, List.getElem_toArray, List.getElem_cons_zero, List.getElem_cons_succ, List.setIfInBounds_toArray, List.set_cons_zero, List.set_cons_succ]
  refine wpAnyH_take (i := 13) (v := ?v23) rfl (by kernel_rfl) (by kernel_rfl) (by kernel_rfl) (fun _ _ _ h => h) (Or.inl ⟨by rfl, ?hy23⟩) (by assumption) ?rest23
  case hy23 => (intro w' hSw; dsimp only [List.getElem_toArray, List.getElem_cons_zero, List.getElem_cons_succ] at hSw ⊢; go_simp; try (with_reducible rfl))
  try simp only [Act.put, List.getElem_toArray, List.getElem_cons_zero, List.getElem_cons_succ, List.setIfInBounds_toArray, List.set_cons_zero, List.set_cons_succ]
  refine wpAnyH_take (i := 14) (v := ?v24) rfl (by kernel_rfl) (by kernel_rfl) (by kernel_rfl) (fun _ _ _ h => h) (Or.inl ⟨by rfl, ?hy24⟩) (by assumption) ?rest24
  case hy24 => (intro w' hSw; dsimp only [List.getElem_toArray, List.getElem_cons_zero, List.getElem_cons_succ] at hSw ⊢; go_simp; try (with_reducible rfl))
  try simp only [Act.put, List.getElem_toArray, List.getElem_cons_zero, List.getElem_cons_succ, List.setIfInBounds_toArray, List.set_cons_zero, List.set_cons_succ]
  refine wpAnyH_ready (rs := [15]) (by kernel_rfl) (by simp) ?_
  refine AllReadyH.cons rfl (fun K hK => ?_) AllReadyH.nil
  have nc := NC7.out
  have nf := NF7.out
  dsimp only [List.getElem_toArray, List.getElem_cons_zero, List.getElem_cons_succ]
  go_simp
  clear nc nf hHeld
  refine hK.out _ _ (GB8.out.cell 0) (fun hHeld => ?_)
  clear hK K
  try simp only [Act.put, List.getElem_toArray, List.getElem_cons_zero, List.getElem_cons_succ, List.setIfInBounds_toArray, List.set_cons_zero, List.set_cons_succ]
  refine wpAnyH_done (by kernel_rfl) ?_ _
  refine NoPanic.normal ?_
  clear hHeld
  obtain ⟨w7, hw7⟩ : ∃ w7, w7 = w6.setCell ⟨gp, fn * 2, none⟩ (.slice (some ⟨gh, 0, none⟩) L6 kh) := ⟨_, rfl⟩
  have s7 : w7.heap.size = w6.heap.size := by rw [hw7]; simp
  rw [← hw7] at D8 GB8 XB8 AB8 ⊢
  have D7 := hide (D8.out.wider (hi' := w7.heap.size) (Nat.le_refl _) (by omega))
  have GB7 := GB8
  have XB7 := XB8
  have AB7 := AB8
  clear hw7 NC7 NF7 D8 GB8 XB8 AB8
  obtain ⟨rb, ro, rfl, rc⟩ := (HU0.out).cellAt an HAK.out
  rw [HXX.out] at rc
  have RB : Hid (rb < w.heap.size) := cell_lt rc
  have RC0 := hide rc
  have F : Hid (∀ W, Below w7.heap.size w7 W → (W.cell? ⟨w4.heap.size, 0, none⟩ = some (.slice (some ⟨gp, 0, none⟩) m.length cp4) ∧ W.cell? ⟨w4.heap.size, 1, none⟩ = some (.slice ar4 rs.length cr4) ∧ W.cell? ⟨w4.heap.size, 2, none⟩ = some (.slice ac4 cs.length cc4)) ∧ W.cell? ⟨rb, ro + an, none⟩ = some (.int .i64 (x : Int))) := by
    intro W hW
    exact ⟨(GB7.out.below hW).c3, ((AB7.out.trans (hW.mono AB7.out.size)).cell (by exact RB.out)).trans RC0.out⟩
  clear rc
  go_wp2
  refine wp_region_noPanic ?_
  refine wp_region_held_drew (S := fun w' => (w'.cell? ⟨w4.heap.size, 0, none⟩ = some (.slice (some ⟨gp, 0, none⟩) m.length cp4) ∧ w'.cell? ⟨w4.heap.size, 1, none⟩ = some (.slice ar4 rs.length cr4) ∧ w'.cell? ⟨w4.heap.size, 2, none⟩ = some (.slice ac4 cs.length cc4)) ∧ w'.cell? ⟨rb, ro + an, none⟩ = some (.int .i64 (x : Int))) (by kernel_rfl) (F.out _ (Below.refl _ _).drew) (fun hHeld => ?_)
  have D7d : Hid (NdV (World.drew w7) w.heap.size (World.drew w7).heap.size _ _ _ _ _) := D7.out.below (Below.refl _ _).drew
  have AB7d := hide (AB7.out.trans ((Below.refl _ _).drew.mono AB7.out.size))
  have GB7d := hide (GB7.out.below (Below.refl _ _).drew)
  have XB7d := hide (XB7.out.below (Below.refl _ _).drew)
  have FD : Hid (∀ W, KeepB (World.drew w7) W → Below w.heap.size (World.drew w7) W → (fun W' => (W'.cell? ⟨w4.heap.size, 0, none⟩ = some (.slice (some ⟨gp, 0, none⟩) m.length cp4) ∧ W'.cell? ⟨w4.heap.size, 1, none⟩ = some (.slice ar4 rs.length cr4) ∧ W'.cell? ⟨w4.heap.size, 2, none⟩ = some (.slice ac4 cs.length cc4)) ∧ W'.cell? ⟨rb, ro + an, none⟩ = some (.int .i64 (x : Int))) W) := by
    intro W hk hb
    refine ⟨(hk _ _ _ (by decide) (by decide) (by decide) (GB7.out.below (Below.refl _ _).drew)).c3, ?_⟩
    rw [hb.cell (by exact RB.out)]
    exact (F.out _ (Below.refl _ _).drew).2
  clear D7 AB7 GB7 XB7 F
  generalize World.drew w7 = V0 at *
  refine wpAnyH_take (i := 0) (v := ?v25) rfl (by kernel_rfl) (by kernel_rfl) (by kernel_rfl) (fun _ _ _ h => h) (Or.inl ⟨by rfl, ?hy25⟩) (by assumption) ?rest25
  case hy25 => (intro w' hSw; dsimp only [List.getElem_toArray, List.getElem_cons_zero, List.getElem_cons_succ] at hSw ⊢; go_simp; try (with_reducible rfl))
  try simp only [Act.put, List.getElem_toArray, List.getElem_cons_zero, List.getElem_cons_succ, List.setIfInBounds_toArray, List.set_cons_zero, List.set_cons_succ]
  refine wpAnyH_take (i := 1) (v := ?v26) rfl (by kernel_rfl) (by kernel_rfl) (by kernel_rfl) (fun _ _ _ h => h) (Or.inl ⟨by rfl, ?hy26⟩) (by assumption) ?rest26
  case hy26 => (intro w' hSw; dsimp only [List.getElem_toArray, List.getElem_cons_zero, List.getElem_cons_succ] at hSw ⊢; go_simp; try (with_reducible rfl))
  try simp only [Act.put, List.getElem_toArray, List.getElem_cons_zero, List.getElem_cons_succ, List.setIfInBounds_toArray, List.set_cons_zero, List.set_cons_succ]
  refine wpAnyH_take (i := 2) (v := ?v27) rfl (by kernel_rfl) (by kernel_rfl) (by kernel_rfl) (fun _ _ _ h => h) (Or.inl ⟨by rfl, ?hy27⟩) (by assumption) ?rest27
  case hy27 => (intro w' hSw; dsimp only [List.getElem_toArray, List.getElem_cons_zero, List.getElem_cons_succ] at hSw ⊢; go_simp; try (with_reducible rfl))
  try simp only [Act.put, List.getElem_toArray, List.getElem_cons_zero, List.getElem_cons_succ, List.setIfInBounds_toArray, List.set_cons_zero, List.set_cons_succ]
  refine wpAnyH_take (i := 3) (v := ?v28) rfl (by kernel_rfl) (by kernel_rfl) (by kernel_rfl) (fun _ _ _ h => h) (Or.inl ⟨by rfl, ?hy28⟩) (by assumption) ?rest28
  case hy28 => (intro w' hSw; dsimp only [List.getElem_toArray, List.getElem_cons_zero, List.getElem_cons_succ] at hSw ⊢; go_simp; try (with_reducible rfl))
  try simp only [Act.put, List.getElem_toArray, List.getElem_cons_zero, List.getElem_cons_succ, List.setIfInBounds_toArray, List.set_cons_zero, List.set_cons_succ]
  refine wpAnyH_take (i := 4) (v := ?v29) rfl (by kernel_rfl) (by kernel_rfl) (by kernel_rfl) (fun _ _ _ h => h) (Or.inl ⟨by rfl, ?hy29⟩) (by assumption) ?rest29
  case hy29 => (intro w' hSw; dsimp only [List.getElem_toArray, List.getElem_cons_zero, List.getElem_cons_succ] at hSw ⊢; go_simp; try (with_reducible rfl))
  try simp only [Act.put, List.getElem_toArray, List.getElem_cons_zero, List.getElem_cons_succ, List.setIfInBounds_toArray, List.set_cons_zero, List.set_cons_succ]
  refine wpAnyH_ready (rs := [5]) (by kernel_rfl) (by simp) ?_
  refine AllReadyH.cons rfl (fun K hK => ?_) AllReadyH.nil
  dsimp only [List.getElem_toArray, List.getElem_cons_zero, List.getElem_cons_succ]
  go_simp
  refine (loseName_calls m.length H14.out x 0 _ _ _ _ rs cs M w.heap.size V0 HXM.out GL.out (by omega) D7d.out AB7d.out.size).mono ?_
  rw [← ES.out]
  rintro e' w8 ⟨y8, us8, rfl, d8, bl8, kb8⟩
  obtain ⟨ay8, ky8, hy8⟩ := row_slice (d8.rowE 2 (by simp))
  simp only [List.getD_cons_zero, List.getD_cons_succ] at hy8
  obtain ⟨LV, hLV⟩ : ∃ L, L = S.2.2.length := ⟨_, rfl⟩
  rw [← hLV] at hy8
  subst hy8
  clear hLV
  have GB8 := hide (kb8 _ _ _ (by decide) (by decide) (by decide) GB7d.out)
  have XB8 := hide (kb8 _ _ _ (by decide) (by decide) (by decide) XB7d.out)
  have AB8 := hide (AB7d.out.trans bl8)
  have D8 := hide d8
  have fs8 := FD.out _ kb8 bl8
  clear d8 bl8 kb8 D7d AB7d GB7d XB7d
  refine hK.out _ _ (fs8) (fun hHeld => ?_)
  clear hK K
  try simp only [Act.put, List.getElem_toArray, List.getElem_cons_zero, List.getElem_cons_succ, List.setIfInBounds_toArray, List.set_cons_zero, List.set_cons_succ]
  clear fs8 FD
  refine wpAnyH_take (i := 6) (v := ?v30) rfl (by kernel_rfl) (by kernel_rfl) (by kernel_rfl) (fun _ _ _ h => h) (Or.inl ⟨by rfl, ?hy30⟩) (by assumption) ?rest30
  case hy30 => (intro w' hSw; dsimp only [List.getElem_toArray, List.getElem_cons_zero, List.getElem_cons_succ] at hSw ⊢; go_simp; try (with_reducible rfl))
  try simp only [Act.put, List.getElem_toArray, List.getElem_cons_zero, List.getElem_cons_succ, List.setIfInBounds_toArray, List.set_cons_zero, List.set_cons_succ]
  refine wpAnyH_done (by kernel_rfl) ?_ _
  refine NoPanic.normal ?_
  clear hHeld
  obtain ⟨gc0, gc1, gc2⟩ := GB8.out.c3
  have xb9 := XB8.out
  obtain ⟨jc0, jc1, jc2⟩ := xb9.c3
  have jf0 := xb9.frozen 0
  have jf1 := xb9.frozen 1
  have jf2 := xb9.frozen 2
  have xb10 := xb9.store3 (.slice (some ⟨gp, 0, none⟩) m.length cp4) (.slice ar4 rs.length cr4) (.slice ac4 cs.length cc4)
  have d10 := ((D8.out.atBox xb9 (by decide) (by decide) 0 (.slice (some ⟨gp, 0, none⟩) m.length cp4)).atBox (xb9.set 0 (.slice (some ⟨gp, 0, none⟩) m.length cp4)) (by decide) (by decide) 1 (.slice ar4 rs.length cr4)).atBox ((xb9.set 0 (.slice (some ⟨gp, 0, none⟩) m.length cp4)).set 1 (.slice ar4 rs.length cr4)) (by decide) (by decide) 2 (.slice ac4 cs.length cc4)
  have b10 := ((AB8.out.setCell (p := ⟨w.heap.size + 1, 0, none⟩) (by show w.heap.size ≤ w.heap.size + 1; omega) (.slice (some ⟨gp, 0, none⟩) m.length cp4)).setCell (p := ⟨w.heap.size + 1, 1, none⟩) (by show w.heap.size ≤ w.heap.size + 1; omega) (.slice ar4 rs.length cr4)).setCell (p := ⟨w.heap.size + 1, 2, none⟩) (by show w.heap.size ≤ w.heap.size + 1; omega) (.slice ac4 cs.length cc4)
  have D10 := hide (d10.wider (lo' := w.heap.size) (hi' := (((w8.setCell ⟨w.heap.size + 1, 0, none⟩ (.slice (some ⟨gp, 0, none⟩) m.length cp4)).setCell ⟨w.heap.size + 1, 1, none⟩ (.slice ar4 rs.length cr4)).setCell ⟨w.heap.size + 1, 2, none⟩ (.slice ac4 cs.length cc4)).heap.size) (Nat.le_refl _) (by simp))
  have X10 := hide xb10
  have B10 := hide b10
  clear xb9 xb10 d10 b10
  go_wp2
  exact bodyPost_ret (res_gr3 rfl _ _ (w.heap.size + 1) _ _ _ (0, 0) rfl X10.out) rfl ⟨_, _, _, _, rfl, ⟨_, by simp only [gX_true]; exact D10.out⟩, B10.out⟩
end Go.Proofs.Ytakhggnbhjoojaa

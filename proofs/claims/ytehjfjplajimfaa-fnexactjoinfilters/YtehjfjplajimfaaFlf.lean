/-
  Filters: the program's functions, call by call. Each contract says what it asks.
-/
import Derived.Test.YtehjfjplajimfaaFle
namespace Go.Proofs.Ytehjfjplajimfaa
open Go.RowKit
set_option linter.unusedVariables false
set_option linter.unusedSimpArgs false
set_option maxRecDepth 100000 in
set_option maxHeartbeats 1600000 in
theorem goodFilter_calls (v : Value) (xs : List Bool) (t : Bool) (w : World) (h : RdZ w v xs) (ht : t = true ↔ xs.length = 64) :
    Calls Try.prog 37 #[.agg #[v]] w fun e w' => e = .returned (.bool t) ∧ Below w.heap.size w w' := by
  obtain ⟨a, c, rfl, hm⟩ := h.slv
  have B0 := hide (below_box w (.cells #[.slice a xs.length c] 46))
  clear h
  have e : t = ((xs.length : Int) == 64) := by
    cases t with
    | true => have := ht.1 rfl; simp; omega
    | false => have := nf ht; simp; omega
  subst e
  clear ht
  go_enter Try.func37, Try.ntmps37
  go_wp2
  go_ret
  exact ⟨rfl, B0.out⟩

set_option maxRecDepth 100000 in
set_option maxHeartbeats 1600000 in
theorem newFilter_calls (w : World) :
    Calls Try.prog 30 #[] w fun e w' => ∃ v', e = .returned (.agg #[v']) ∧ OwnZ w' w.heap.size v' no64 ∧ Below w.heap.size w w' := by
  have A0 := hide ((Hand.start w).box #[.slice none 0 0] 46)
  go_enter Try.func30, Try.ntmps30
  go_wp2_with fail
  refine (newBitSet_calls _).mono ?_
  rintro e w1 ⟨v1, rfl, o1, b1⟩
  obtain ⟨a1, c1, rfl⟩ := row_slice o1
  have A1 := hide (A0.out.add b1 (TBols.st _ _) ⟨o1, row_top o1⟩)
  clear o1 b1 A0
  have z0 := (A1.out.atBox 1 rfl).c1
  have y0 := (A1.out.atBox 1 rfl).frozen 0
  have A9 := hide (A1.out.setBoxT 1 rfl 0 (.slice a1 no64.length c1))
  clear A1
  go_wp2
  obtain ⟨lo9, hi9, o9, hl9, _, _⟩ := A9.out.open 0 rfl
  exact bodyPost_ret (res_fi rfl _ _ w.heap.size _ (0, 0) rfl (A9.out.atBox 1 rfl)) rfl ⟨_, rfl, ownsRow_mono o9.1 hl9, A9.out.below⟩

set_option maxRecDepth 100000 in
set_option maxHeartbeats 1600000 in
theorem bitsFor_calls (k : Int) (ok : Bool) (w : World) (hok : ok = true ↔ kOk k) :
    Calls Try.prog 39 #[.int .i64 k] w fun e w' => ∃ v', e = .returned (.tuple #[v', .bool ok]) ∧ Own w' w.heap.size v' (gX ok (bK k)) ∧ Below w.heap.size w w' := by
  cases ok with
  | false =>
    have HK := hide (nf hok)
    clear hok
    rw [gX_false]
    go_enter Try.func39, Try.ntmps39
    go_wp2_with (go_at_call 79; refine (isTableKey_calls _ false _ (bF HK.out)).mono ?_; rintro e w' ⟨rfl, rfl⟩)
    go_ret2
    exact ⟨_, rfl, World.ownsRow_nil _ _ _ _, Below.refl _ _⟩
  | true =>
    have HK := hide (hok.1 rfl)
    clear hok
    rw [gX_true]
    go_enter Try.func39, Try.ntmps39
    go_wp2_with (go_at_call 79; refine (isTableKey_calls _ true _ (bT HK.out)).mono ?_; rintro e w' ⟨rfl, rfl⟩)
    refine (keyBits_calls k _ HK.out).mono ?_
    rintro e w1 ⟨v1, rfl, o1, b1⟩
    have O1 := hide (OwnZ.rd o1)
    have B1 := hide b1
    clear o1 b1
    go_wp2_with fail
    refine (rising_calls _ (kB k 3) _ O1.out (by rw [kB_len]; omega)).mono ?_
    rintro e w2 ⟨g2, c2, rfl, o2, b2⟩
    have O2 : Hid (Own w2 w.heap.size (.slice (some ⟨g2, 0, none⟩) (selF 0 (kB k 3)).length c2) (bK k)) := Own.mono o2 B1.out.size
    have B2 := hide (B1.out.trans (b2.mono B1.out.size))
    clear o2 b2
    generalize (selF 0 (kB k 3)).length = n2 at O2 ⊢
    go_wp2
    go_ret2
    exact ⟨_, rfl, O2.out, B2.out⟩

set_option maxRecDepth 100000 in
set_option maxHeartbeats 1600000 in
theorem putFilter_calls (v : Value) (xs : List Bool) (k : Int) (ok : Bool) (w : World) (h : RdZ w v xs) (hok : ok = true ↔ (xs.length = 64 ∧ kOk k)) :
    Calls Try.prog 42 #[.agg #[v], .int .i64 k] w fun e w' => ∃ v', e = .returned (.tuple #[.agg #[v'], .bool ok]) ∧ OwnZ w' w.heap.size v' (gX ok (rchN xs (bK k))) ∧ Below w.heap.size w w' := by
  obtain ⟨a, c, rfl, hm⟩ := h.slv
  have A0 := hide (Hand.twoN w #[.slice a xs.length c] #[.slice none 0 0] 46 46)
  have R := hide h
  obtain ⟨gb, hgb⟩ := bol_ex (xs.length = 64)
  obtain ⟨kb, hkb⟩ := bol_ex (kOk k)
  clear h
  cases gb with
  | false =>
    obtain rfl : ok = false := by cases ok with | false => rfl | true => exact absurd (hok.1 rfl).1 (nf hgb)
    rw [gX_false]
    have NG := hide (nf hgb)
    clear hgb hkb hok
    go_enter Try.func42, Try.ntmps42
    go_wp2_with fail
    refine (goodFilter_calls _ xs false _ (R.out.below A0.out.below) (bF NG.out)).mono ?_
    rintro e w1 ⟨rfl, b1⟩
    have A1 := hide (A0.out.step b1)
    clear b1 A0
    have z0 := (A1.out.atBox 0 rfl).c1
    have y0 := (A1.out.atBox 0 rfl).frozen 0
    have A9 := hide (A1.out.setBoxT 0 rfl 0 (.slice none 0 0))
    go_wp2
    exact bodyPost_ret (res_fi2 rfl _ _ (w.heap.size + 1) _ (0, 0) rfl (A9.out.atBox 0 rfl)) rfl ⟨_, rfl, World.ownsRow_nil _ _ _ _, A9.out.below⟩
  | true =>
    have HL := hide (hgb.1 rfl)
    cases kb with
    | false =>
      obtain rfl : ok = false := by cases ok with | false => rfl | true => exact absurd (hok.1 rfl).2 (nf hkb)
      rw [gX_false]
      have NK := hide (nf hkb)
      clear hgb hkb hok
      go_enter Try.func42, Try.ntmps42
      go_wp2_with fail
      refine (goodFilter_calls _ xs true _ (R.out.below A0.out.below) (bT HL.out)).mono ?_
      rintro e w1 ⟨rfl, b1⟩
      have A1 := hide (A0.out.step b1)
      clear b1 A0
      go_wp2_with fail
      refine (isTableKey_calls _ false _ (bF NK.out)).mono ?_
      rintro e w1 ⟨rfl, rfl⟩
      have z0 := (A1.out.atBox 0 rfl).c1
      have y0 := (A1.out.atBox 0 rfl).frozen 0
      have A9 := hide (A1.out.setBoxT 0 rfl 0 (.slice none 0 0))
      go_wp2
      exact bodyPost_ret (res_fi2 rfl _ _ (w.heap.size + 1) _ (0, 0) rfl (A9.out.atBox 0 rfl)) rfl ⟨_, rfl, World.ownsRow_nil _ _ _ _, A9.out.below⟩
    | true =>
      obtain rfl : ok = true := hok.2 ⟨hgb.1 rfl, hkb.1 rfl⟩
      have HK := hide (hkb.1 rfl)
      rw [gX_true]
      clear hgb hkb hok
      go_enter Try.func42, Try.ntmps42
      go_wp2_with fail
      refine (goodFilter_calls _ xs true _ (R.out.below A0.out.below) (bT HL.out)).mono ?_
      rintro e w1 ⟨rfl, b1⟩
      have A1 := hide (A0.out.step b1)
      clear b1 A0
      go_wp2_with fail
      refine (isTableKey_calls _ true _ (bT HK.out)).mono ?_
      rintro e w1 ⟨rfl, rfl⟩
      have c0 := (A1.out.atBox 1 rfl).c1
      go_wp2_with fail
      refine (bitsIn_calls _ xs _ (R.out.below A1.out.below) (by rw [HL.out]; omega) (by rw [HL.out]; omega)).mono ?_
      rintro e w2 ⟨v2, rfl, o2, b2⟩
      obtain ⟨a2, c2, rfl⟩ := row_slice o2
      have A2 := hide (A1.out.add b2 (TBols.st _ _) ⟨o2, row_top o2⟩)
      clear o2 b2 A1 c0
      go_wp2_with fail
      refine (keyBits_calls k _ HK.out).mono ?_
      rintro e w3 ⟨v3, rfl, o3, b3⟩
      have A3 := hide (A2.out.step b3)
      have O3 := hide (OwnZ.rd o3)
      clear o3 b3 A2
      obtain ⟨lo, hi, d, lw, hw, put⟩ := A3.out.open 0 rfl
      have D1 := hide d.1
      have D2 := hide d.2
      have PUT := hide put
      clear d put lw hw
      go_wp2_with fail
      refine (join_calls _ _ xs (kB k 3) lo _ D1.out O3.out (by rw [HL.out]; omega) (by rw [HL.out]; omega) (by rw [HL.out, kB_len]; omega)).mono ?_
      rintro e w4 ⟨rfl, o4, g4⟩
      have A4 : Hid (Hand w w4 [TBols (.slice a2 xs.length c2) (rchN xs (bK k)), TBox (w.heap.size + 1) #[.slice none 0 0] 46, TBox w.heap.size #[.slice a xs.length c] 46]) := PUT.out _ (TBols _ _) (TBols.st _ _) ⟨o4, D2.out⟩ (Chg.ofGrown g4 (fun j hj => ⟨row_low D1.out j hj, D2.out j hj⟩))
      clear o4 g4 PUT D1 D2 A3 O3
      have z0 := (A4.out.atBox 1 rfl).c1
      have y0 := (A4.out.atBox 1 rfl).frozen 0
      have A9 := hide (A4.out.setBoxT 1 rfl 0 (.slice a2 xs.length c2))
      clear A4
      go_wp2
      obtain ⟨lo9, hi9, o9, hl9, _, _⟩ := A9.out.open 0 rfl
      exact bodyPost_ret (res_fi2 rfl _ _ (w.heap.size + 1) _ (0, 0) rfl (A9.out.atBox 1 rfl)) rfl ⟨_, rfl, ownsRow_mono o9.1 hl9, A9.out.below⟩

set_option maxRecDepth 100000 in
set_option maxHeartbeats 1600000 in
theorem joinFilters_calls (v v' : Value) (xs ys : List Bool) (ok : Bool) (w : World) (h : RdZ w v xs) (h' : RdZ w v' ys) (hok : ok = true ↔ (xs.length = 64 ∧ ys.length = 64)) :
    Calls Try.prog 46 #[.agg #[v], .agg #[v']] w fun e w' => ∃ v', e = .returned (.tuple #[.agg #[v'], .bool ok]) ∧ OwnZ w' w.heap.size v' (gX ok (orB xs ys 64)) ∧ Below w.heap.size w w' := by
  obtain ⟨a, c, rfl, hm⟩ := h.slv
  obtain ⟨a', c', rfl, hm'⟩ := h'.slv
  have A0 := hide (Hand.threeN w #[.slice a xs.length c] #[.slice a' ys.length c'] #[.slice none 0 0] 46 46 46)
  have R := hide h
  have R' := hide h'
  obtain ⟨gb, hgb⟩ := bol_ex (xs.length = 64)
  obtain ⟨kb, hkb⟩ := bol_ex (ys.length = 64)
  clear h h'
  cases gb with
  | false =>
    obtain rfl : ok = false := by cases ok with | false => rfl | true => exact absurd (hok.1 rfl).1 (nf hgb)
    rw [gX_false]
    have NG := hide (nf hgb)
    clear hgb hkb hok
    go_enter Try.func46, Try.ntmps46
    go_wp2_with fail
    refine (goodFilter_calls _ xs false _ (R.out.below A0.out.below) (bF NG.out)).mono ?_
    rintro e w1 ⟨rfl, b1⟩
    have A1 := hide (A0.out.step b1)
    clear b1 A0
    have z0 := (A1.out.atBox 0 rfl).c1
    have y0 := (A1.out.atBox 0 rfl).frozen 0
    have A9 := hide (A1.out.setBoxT 0 rfl 0 (.slice none 0 0))
    go_wp2
    exact bodyPost_ret (res_fi2 rfl _ _ (w.heap.size + 1 + 1) _ (0, 0) rfl (A9.out.atBox 0 rfl)) rfl ⟨_, rfl, World.ownsRow_nil _ _ _ _, A9.out.below⟩
  | true =>
    have HL := hide (hgb.1 rfl)
    cases kb with
    | false =>
      obtain rfl : ok = false := by cases ok with | false => rfl | true => exact absurd (hok.1 rfl).2 (nf hkb)
      rw [gX_false]
      have NK := hide (nf hkb)
      clear hgb hkb hok
      go_enter Try.func46, Try.ntmps46
      go_wp2_with fail
      refine (goodFilter_calls _ xs true _ (R.out.below A0.out.below) (bT HL.out)).mono ?_
      rintro e w1 ⟨rfl, b1⟩
      have A1 := hide (A0.out.step b1)
      clear b1 A0
      have c1 := (A1.out.atBox 1 rfl).c1
      go_wp2_with fail
      refine (goodFilter_calls _ ys false _ (R'.out.below A1.out.below) (bF NK.out)).mono ?_
      rintro e w2 ⟨rfl, b2⟩
      have A2 := hide (A1.out.step b2)
      clear b2 A1 c1
      have z0 := (A2.out.atBox 0 rfl).c1
      have y0 := (A2.out.atBox 0 rfl).frozen 0
      have A9 := hide (A2.out.setBoxT 0 rfl 0 (.slice none 0 0))
      go_wp2
      exact bodyPost_ret (res_fi2 rfl _ _ (w.heap.size + 1 + 1) _ (0, 0) rfl (A9.out.atBox 0 rfl)) rfl ⟨_, rfl, World.ownsRow_nil _ _ _ _, A9.out.below⟩
    | true =>
      obtain rfl : ok = true := hok.2 ⟨hgb.1 rfl, hkb.1 rfl⟩
      have HM := hide (hkb.1 rfl)
      rw [gX_true]
      clear hgb hkb hok
      go_enter Try.func46, Try.ntmps46
      go_wp2_with fail
      refine (goodFilter_calls _ xs true _ (R.out.below A0.out.below) (bT HL.out)).mono ?_
      rintro e w0 ⟨rfl, b1⟩
      have A0' := hide (A0.out.step b1)
      clear b1 A0
      have c1 := (A0'.out.atBox 1 rfl).c1
      go_wp2_with fail
      refine (goodFilter_calls _ ys true _ (R'.out.below A0'.out.below) (bT HM.out)).mono ?_
      rintro e w1 ⟨rfl, b2⟩
      have A1 := hide (A0'.out.step b2)
      clear b2 A0' c1
      have c0 := (A1.out.atBox 2 rfl).c1
      have c1 := (A1.out.atBox 1 rfl).c1
      go_wp2_with fail
      refine (bitsIn_calls _ xs _ (R.out.below A1.out.below) (by rw [HL.out]; omega) (by rw [HL.out]; omega)).mono ?_
      rintro e w2 ⟨v2, rfl, o2, b2⟩
      obtain ⟨a2, c2, rfl⟩ := row_slice o2
      have A2 := hide (A1.out.add b2 (TBols.st _ _) ⟨o2, row_top o2⟩)
      clear o2 b2 A1 c0 c1
      have c1 := (A2.out.atBox 2 rfl).c1
      go_wp2_with fail
      refine (bitsIn_calls _ ys _ (R'.out.below A2.out.below) (by rw [HM.out]; omega) (by rw [HM.out]; omega)).mono ?_
      rintro e w3 ⟨v3, rfl, o3, b3⟩
      have A3 := hide (A2.out.step b3)
      have O3 := hide (OwnZ.rd o3)
      clear o3 b3 A2 c1
      obtain ⟨lo, hi, d, lw, hw, put⟩ := A3.out.open 0 rfl
      have D1 := hide d.1
      have D2 := hide d.2
      have PUT := hide put
      clear d put lw hw
      go_wp2_with fail
      refine (join_calls _ _ xs ys lo _ D1.out O3.out (by rw [HL.out]; omega) (by rw [HL.out]; omega) (by rw [HL.out, HM.out]; omega)).mono ?_
      rintro e w4 ⟨rfl, o4, g4⟩
      have A4 : Hid (Hand w w4 [TBols (.slice a2 xs.length c2) (orB xs ys 64), TBox (w.heap.size + 1 + 1) #[.slice none 0 0] 46, TBox (w.heap.size + 1) #[.slice a' ys.length c'] 46, TBox w.heap.size #[.slice a xs.length c] 46]) := PUT.out _ (TBols _ _) (TBols.st _ _) ⟨(by have e := or_end xs ys; rw [HM.out] at e; rw [← e]; exact o4), D2.out⟩ (Chg.ofGrown g4 (fun j hj => ⟨row_low D1.out j hj, D2.out j hj⟩))
      clear o4 g4 PUT D1 D2 A3 O3
      have z0 := (A4.out.atBox 1 rfl).c1
      have y0 := (A4.out.atBox 1 rfl).frozen 0
      have A9 := hide (A4.out.setBoxT 1 rfl 0 (.slice a2 xs.length c2))
      clear A4
      go_wp2
      obtain ⟨lo9, hi9, o9, hl9, _, _⟩ := A9.out.open 0 rfl
      exact bodyPost_ret (res_fi2 rfl _ _ (w.heap.size + 1 + 1) _ (0, 0) rfl (A9.out.atBox 1 rfl)) rfl ⟨_, rfl, ownsRow_mono o9.1 hl9, A9.out.below⟩

set_option maxRecDepth 100000 in
set_option maxHeartbeats 1600000 in
theorem meetFilters_calls (v v' : Value) (xs ys : List Bool) (ok : Bool) (w : World) (h : RdZ w v xs) (h' : RdZ w v' ys) (hok : ok = true ↔ (xs.length = 64 ∧ ys.length = 64)) :
    Calls Try.prog 48 #[.agg #[v], .agg #[v']] w fun e w' => ∃ v', e = .returned (.tuple #[.agg #[v'], .bool ok]) ∧ OwnZ w' w.heap.size v' (gX ok (anB xs ys 64)) ∧ Below w.heap.size w w' := by
  obtain ⟨a, c, rfl, hm⟩ := h.slv
  obtain ⟨a', c', rfl, hm'⟩ := h'.slv
  have A0 := hide (Hand.threeN w #[.slice a xs.length c] #[.slice a' ys.length c'] #[.slice none 0 0] 46 46 46)
  have R := hide h
  have R' := hide h'
  obtain ⟨gb, hgb⟩ := bol_ex (xs.length = 64)
  obtain ⟨kb, hkb⟩ := bol_ex (ys.length = 64)
  clear h h'
  cases gb with
  | false =>
    obtain rfl : ok = false := by cases ok with | false => rfl | true => exact absurd (hok.1 rfl).1 (nf hgb)
    rw [gX_false]
    have NG := hide (nf hgb)
    clear hgb hkb hok
    go_enter Try.func48, Try.ntmps48
    go_wp2_with fail
    refine (goodFilter_calls _ xs false _ (R.out.below A0.out.below) (bF NG.out)).mono ?_
    rintro e w1 ⟨rfl, b1⟩
    have A1 := hide (A0.out.step b1)
    clear b1 A0
    have z0 := (A1.out.atBox 0 rfl).c1
    have y0 := (A1.out.atBox 0 rfl).frozen 0
    have A9 := hide (A1.out.setBoxT 0 rfl 0 (.slice none 0 0))
    go_wp2
    exact bodyPost_ret (res_fi2 rfl _ _ (w.heap.size + 1 + 1) _ (0, 0) rfl (A9.out.atBox 0 rfl)) rfl ⟨_, rfl, World.ownsRow_nil _ _ _ _, A9.out.below⟩
  | true =>
    have HL := hide (hgb.1 rfl)
    cases kb with
    | false =>
      obtain rfl : ok = false := by cases ok with | false => rfl | true => exact absurd (hok.1 rfl).2 (nf hkb)
      rw [gX_false]
      have NK := hide (nf hkb)
      clear hgb hkb hok
      go_enter Try.func48, Try.ntmps48
      go_wp2_with fail
      refine (goodFilter_calls _ xs true _ (R.out.below A0.out.below) (bT HL.out)).mono ?_
      rintro e w1 ⟨rfl, b1⟩
      have A1 := hide (A0.out.step b1)
      clear b1 A0
      have c1 := (A1.out.atBox 1 rfl).c1
      go_wp2_with fail
      refine (goodFilter_calls _ ys false _ (R'.out.below A1.out.below) (bF NK.out)).mono ?_
      rintro e w2 ⟨rfl, b2⟩
      have A2 := hide (A1.out.step b2)
      clear b2 A1 c1
      have z0 := (A2.out.atBox 0 rfl).c1
      have y0 := (A2.out.atBox 0 rfl).frozen 0
      have A9 := hide (A2.out.setBoxT 0 rfl 0 (.slice none 0 0))
      go_wp2
      exact bodyPost_ret (res_fi2 rfl _ _ (w.heap.size + 1 + 1) _ (0, 0) rfl (A9.out.atBox 0 rfl)) rfl ⟨_, rfl, World.ownsRow_nil _ _ _ _, A9.out.below⟩
    | true =>
      obtain rfl : ok = true := hok.2 ⟨hgb.1 rfl, hkb.1 rfl⟩
      have HM := hide (hkb.1 rfl)
      rw [gX_true]
      clear hgb hkb hok
      go_enter Try.func48, Try.ntmps48
      go_wp2_with fail
      refine (goodFilter_calls _ xs true _ (R.out.below A0.out.below) (bT HL.out)).mono ?_
      rintro e w0 ⟨rfl, b1⟩
      have A0' := hide (A0.out.step b1)
      clear b1 A0
      have c1 := (A0'.out.atBox 1 rfl).c1
      go_wp2_with fail
      refine (goodFilter_calls _ ys true _ (R'.out.below A0'.out.below) (bT HM.out)).mono ?_
      rintro e w1 ⟨rfl, b2⟩
      have A1 := hide (A0'.out.step b2)
      clear b2 A0' c1
      have c0 := (A1.out.atBox 2 rfl).c1
      have c1 := (A1.out.atBox 1 rfl).c1
      go_wp2_with fail
      refine (bitsIn_calls _ xs _ (R.out.below A1.out.below) (by rw [HL.out]; omega) (by rw [HL.out]; omega)).mono ?_
      rintro e w2 ⟨v2, rfl, o2, b2⟩
      obtain ⟨a2, c2, rfl⟩ := row_slice o2
      have A2 := hide (A1.out.add b2 (TBols.st _ _) ⟨o2, row_top o2⟩)
      clear o2 b2 A1 c0 c1
      have c1 := (A2.out.atBox 2 rfl).c1
      go_wp2_with fail
      refine (bitsIn_calls _ ys _ (R'.out.below A2.out.below) (by rw [HM.out]; omega) (by rw [HM.out]; omega)).mono ?_
      rintro e w3 ⟨v3, rfl, o3, b3⟩
      have A3 := hide (A2.out.step b3)
      have O3 := hide (OwnZ.rd o3)
      clear o3 b3 A2 c1
      obtain ⟨lo, hi, d, lw, hw, put⟩ := A3.out.open 0 rfl
      have D1 := hide d.1
      have D2 := hide d.2
      have PUT := hide put
      clear d put lw hw
      go_wp2_with fail
      refine (meet_calls _ _ xs ys lo _ D1.out O3.out HL.out HM.out).mono ?_
      rintro e w4 ⟨rfl, o4, g4⟩
      have A4 : Hid (Hand w w4 [TBols (.slice a2 xs.length c2) (anB xs ys 64), TBox (w.heap.size + 1 + 1) #[.slice none 0 0] 46, TBox (w.heap.size + 1) #[.slice a' ys.length c'] 46, TBox w.heap.size #[.slice a xs.length c] 46]) := PUT.out _ (TBols _ _) (TBols.st _ _) ⟨o4, D2.out⟩ (Chg.ofGrown g4 (fun j hj => ⟨row_low D1.out j hj, D2.out j hj⟩))
      clear o4 g4 PUT D1 D2 A3 O3
      have z0 := (A4.out.atBox 1 rfl).c1
      have y0 := (A4.out.atBox 1 rfl).frozen 0
      have A9 := hide (A4.out.setBoxT 1 rfl 0 (.slice a2 xs.length c2))
      clear A4
      go_wp2
      obtain ⟨lo9, hi9, o9, hl9, _, _⟩ := A9.out.open 0 rfl
      exact bodyPost_ret (res_fi2 rfl _ _ (w.heap.size + 1 + 1) _ (0, 0) rfl (A9.out.atBox 1 rfl)) rfl ⟨_, rfl, ownsRow_mono o9.1 hl9, A9.out.below⟩

set_option maxRecDepth 100000 in
set_option maxHeartbeats 1600000 in
theorem onesIn_calls (v : Value) (xs : List Bool) (ok : Bool) (n : Int) (w : World) (h : RdZ w v xs) (hok : ok = true ↔ xs.length = 64) (hn : n = ((gX ok (selF 0 xs)).length : Int)) :
    Calls Try.prog 52 #[.agg #[v]] w fun e w' => e = .returned (.tuple #[.int .i64 n, .bool ok]) ∧ Below w.heap.size w w' := by
  obtain ⟨a, c, rfl, hm⟩ := h.slv
  have A0 := hide ((Hand.start w).box #[.slice a xs.length c] 46)
  have R := hide h
  clear h
  cases ok with
  | false =>
    have NG := hide (nf hok)
    rw [gX_false] at hn
    simp only [List.length_nil, Int.natCast_zero] at hn
    subst hn
    clear hok
    go_enter Try.func52, Try.ntmps52
    go_wp2_with fail
    refine (goodFilter_calls _ xs false _ (R.out.below A0.out.below) (bF NG.out)).mono ?_
    rintro e w1 ⟨rfl, b1⟩
    have A1 := hide (A0.out.step b1)
    clear b1 A0
    go_wp2
    go_ret2
    exact ⟨rfl, A1.out.below⟩
  | true =>
    have HL := hide (hok.1 rfl)
    rw [gX_true] at hn
    have HN := hide hn
    clear hok hn
    go_enter Try.func52, Try.ntmps52
    go_wp2_with fail
    refine (goodFilter_calls _ xs true _ (R.out.below A0.out.below) (bT HL.out)).mono ?_
    rintro e w1 ⟨rfl, b1⟩
    have A1 := hide (A0.out.step b1)
    clear b1 A0
    have c0 := (A1.out.atBox 0 rfl).c1
    go_wp2_with fail
    refine (bitsIn_calls _ xs _ (R.out.below A1.out.below) (by rw [HL.out]; omega) (by rw [HL.out]; omega)).mono ?_
    rintro e w2 ⟨v2, rfl, o2, b2⟩
    have A2 := hide (A1.out.step b2)
    have O2 := hide (OwnZ.rd o2)
    clear o2 b2 A1 c0
    go_wp2_with fail
    refine (rising_calls _ xs _ O2.out (by rw [HL.out]; omega)).mono ?_
    rintro e w3 ⟨g3, c3, rfl, o3, b3⟩
    have A3 := hide (A2.out.step b3)
    have hl : (selF 0 xs).length ≤ 64 := by have := selF_len xs 0; rw [HL.out] at this; exact this
    clear o3 b3 A2 O2
    have HN' := HN.out
    generalize (selF 0 xs).length = m at hl HN' ⊢
    subst HN'
    go_wp2
    go_ret2
    exact ⟨rfl, A3.out.below⟩

set_option maxRecDepth 100000 in
set_option maxHeartbeats 1600000 in
theorem allKeys_calls (v : Value) (ks : List Int) (y : Bool) (w : World) (hv : Rd w v ks) (hy : y = true ↔ ∀ i, i < ks.length → kOk (ks.getD i 0)) :
    Calls Try.prog 71 #[v, .func (.func 79) #[] #[]] w fun e w' => e = .returned (.bool y) ∧ w = w' := by
  have R := hide hv
  have HY := hide hy
  obtain ⟨a, cap, rfl, mh, hcm, _⟩ := hv
  have hm := hcm.1
  unfold maxLen at hm
  clear hy hcm
  go_enter Try.func71, Try.ntmps71
  go_wp2
  go_loop [9] (fun vi => ∃ k : Nat, k ≤ ks.length ∧ vi = .int .i64 k ∧ ∀ i, i < k → kOk (ks.getD i 0)) (fun vi => ks.length - (intOf vi).toNat)
  case atStart => exact ⟨0, Nat.zero_le _, rfl, fun i hi => by omega⟩
  case round =>
    obtain ⟨k, hk, rfl, hall⟩ := hrel
    have A := hide hall
    clear hall
    by_cases hlt : k < ks.length
    · have hlt' : (k : Int) < (ks.length : Int) := by omega
      obtain ⟨b, off, rfl, hc1⟩ := R.out.cellAt k hlt
      have X0 := hide (fun h : ∀ i, i < ks.length → kOk (ks.getD i 0) => h k hlt)
      have X1 := hide (fun (h : kOk (ks.getD k 0)) i (hi : i < k + 1) => if e : i = k then (by rw [e]; exact h : kOk (ks.getD i 0)) else A.out i (by omega))
      generalize ks.getD k 0 = x at hc1 X0 X1
      obtain ⟨q, hq⟩ := bol_ex (kOk x)
      cases q with
      | true =>
        have HQ := hide (hq.1 rfl)
        clear hq
        go_wp2_with (go_at_call 79; refine (isTableKey_calls _ true _ (bT HQ.out)).mono ?_; rintro e w' ⟨rfl, rfl⟩)
        go_round
        case rel =>
          exact ⟨k + 1, by omega, by go_num, X1.out HQ.out⟩
        case measure => simp [intOf]; omega
      | false =>
        have HQ := hide (nf hq)
        clear hq
        go_wp2_with (go_at_call 79; refine (isTableKey_calls _ false _ (bF HQ.out)).mono ?_; rintro e w' ⟨rfl, rfl⟩)
        go_ret
        obtain rfl : y = false := by
          cases y with
          | false => rfl
          | true => exact absurd (X0.out (HY.out.1 rfl)) HQ.out
        exact ⟨rfl, rfl⟩
    · obtain rfl : k = ks.length := by omega
      obtain rfl : y = true := HY.out.2 A.out
      go_wp2
      go_ret
      exact ⟨rfl, rfl⟩

set_option maxRecDepth 100000 in
set_option maxHeartbeats 1600000 in
theorem filterOf_calls (v : Value) (ks : List Int) (ok : Bool) (w : World) (h : Rd w v ks) (hok : ok = true ↔ (ks.length ≤ 80 ∧ ∀ i, i < ks.length → kOk (ks.getD i 0))) :
    Calls Try.prog 50 #[v] w fun e w' => ∃ v', e = .returned (.tuple #[.agg #[v'], .bool ok]) ∧ OwnZ w' w.heap.size v' (gX ok (kysB no64 ks)) ∧ Below w.heap.size w w' := by
  have R := hide h
  obtain ⟨a, cap, rfl, mh, hcm, _⟩ := h
  have hm := hcm.1
  unfold maxLen at hm
  clear hcm
  have A0 := hide ((Hand.start w).box #[.slice none 0 0] 46)
  by_cases hl : ks.length ≤ 80
  case neg =>
    have hl' : (80 : Int) < (ks.length : Int) := by omega
    obtain rfl : ok = false := by cases ok with | false => rfl | true => exact absurd (hok.1 rfl).1 hl
    rw [gX_false]
    clear hok
    go_enter Try.func50, Try.ntmps50
    go_wp2
    exact bodyPost_ret (res_fi2 rfl _ _ w.heap.size _ (0, 0) rfl (A0.out.atBox 0 rfl)) rfl ⟨_, rfl, World.ownsRow_nil _ _ _ _, A0.out.below⟩
  have hl' : ¬ (80 : Int) < (ks.length : Int) := by omega
  obtain ⟨kb, hkb⟩ := bol_ex (∀ i, i < ks.length → kOk (ks.getD i 0))
  cases kb with
  | false =>
    obtain rfl : ok = false := by cases ok with | false => rfl | true => exact absurd (hok.1 rfl).2 (nf hkb)
    rw [gX_false]
    have NK := hide (nf hkb)
    clear hok hkb
    go_enter Try.func50, Try.ntmps50
    go_wp2_with fail
    refine (allKeys_calls _ ks false _ (R.out.below A0.out.below) (bF NK.out)).mono ?_
    rintro e w1 ⟨rfl, rfl⟩
    go_wp2
    exact bodyPost_ret (res_fi2 rfl _ _ w.heap.size _ (0, 0) rfl (A0.out.atBox 0 rfl)) rfl ⟨_, rfl, World.ownsRow_nil _ _ _ _, A0.out.below⟩
  | true =>
    obtain rfl : ok = true := hok.2 ⟨hl, hkb.1 rfl⟩
    have HK := hide (hkb.1 rfl)
    rw [gX_true]
    clear hok hkb
    go_enter Try.func50, Try.ntmps50
    go_wp2_with fail
    refine (allKeys_calls _ ks true _ (R.out.below A0.out.below) (bT HK.out)).mono ?_
    rintro e w1 ⟨rfl, rfl⟩
    go_wp2_with fail
    refine (newBitSet_calls _).mono ?_
    rintro e w1 ⟨v1, rfl, o1, b1⟩
    obtain ⟨a1, c1, rfl⟩ := row_slice o1
    rw [no64_len]
    have A1 := hide (A0.out.add b1 (TBols.st _ _) ⟨o1, row_top o1⟩)
    rw [no64_len] at A1
    clear o1 b1 A0
    go_wp2
    go_loopw [19] (fun vi wr => ∃ k : Nat, k ≤ ks.length ∧ vi = .int .i64 k ∧ Hand w wr [TBols (.slice a1 64 c1) (kysB no64 (ks.take k)), TBox w.heap.size #[.slice none 0 0] 46]) (fun vi _ => ks.length - (intOf vi).toNat)
    case atStart => exact ⟨0, Nat.zero_le _, rfl, A1.out⟩
    case round =>
      obtain ⟨k, hk, rfl, hA⟩ := hrel
      have A2 := hide hA
      clear hA
      by_cases hlt : k < ks.length
      · have hlt' : (k : Int) < (ks.length : Int) := by omega
        obtain ⟨b, off, rfl, hc1⟩ := (R.out.below A2.out.below).cellAt k hlt
        have KS := hide (kysB_succ no64 ks k hlt)
        have KL : Hid ((kysB no64 (ks.take k)).length = 64) := by show _ = _; rw [kysB_len, no64_len]
        have HKk := hide (HK.out k hlt)
        generalize ks.getD k 0 = x at hc1 KS HKk
        go_wp2_with fail
        refine (keyBits_calls x _ HKk.out).mono ?_
        rintro e w3 ⟨v3, rfl, o3, b3⟩
        have A3 := hide (A2.out.step b3)
        have O3 := hide (OwnZ.rd o3)
        clear o3 b3 A2 hc1
        obtain ⟨lo, hi, d, lw, hw, put⟩ := A3.out.open 0 rfl
        have D1 := hide d.1
        have D2 := hide d.2
        have PUT := hide put
        clear d put lw hw
        go_wp2_with fail
        refine (join_calls _ _ (kysB no64 (ks.take k)) (kB x 3) lo _ D1.out O3.out (by rw [KL.out]; omega) (by rw [KL.out]; omega) (by rw [KL.out, kB_len]; omega)).mono ?_
        rintro e w4 ⟨rfl, o4, g4⟩
        have o5 : OwnZ w4 lo (.slice a1 64 c1) (kysB no64 (ks.take (k + 1))) := by rw [KS.out]; exact o4
        have A4 : Hid (Hand w w4 [TBols (.slice a1 64 c1) (kysB no64 (ks.take (k + 1))), TBox w.heap.size #[.slice none 0 0] 46]) := PUT.out _ (TBols _ _) (TBols.st _ _) ⟨o5, D2.out⟩ (Chg.ofGrown g4 (fun j hj => ⟨row_low D1.out j hj, D2.out j hj⟩))
        clear o4 o5 g4 PUT D1 D2 A3 O3 KS KL
        go_wp2
        go_roundw
        case rel => exact ⟨k + 1, by omega, by go_num, A4.out⟩
        case measure => simp [intOf]; omega
      · obtain rfl : k = ks.length := by omega
        rw [List.take_length] at A2
        have z0 := (A2.out.atBox 1 rfl).c1
        have y0 := (A2.out.atBox 1 rfl).frozen 0
        have A9 := hide (A2.out.setBoxT 1 rfl 0 (.slice a1 64 c1))
        clear A2
        go_wp2
        obtain ⟨lo9, hi9, o9, hl9, _, _⟩ := A9.out.open 0 rfl
        exact bodyPost_ret (res_fi2 rfl _ _ (w.heap.size) _ (0, 0) rfl (A9.out.atBox 1 rfl)) rfl ⟨_, rfl, ownsRow_mono o9.1 hl9, A9.out.below⟩

end Go.Proofs.Ytehjfjplajimfaa

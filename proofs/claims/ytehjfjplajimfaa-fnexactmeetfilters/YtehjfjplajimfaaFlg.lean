/-
  Filters: the model's functions, call by call. Each contract says what it asks.
-/
import Derived.Test.YtehjfjplajimfaaFle
namespace Go.Proofs.Ytehjfjplajimfaa
open Go.RowKit
set_option linter.unusedVariables false
set_option linter.unusedSimpArgs false
set_option maxRecDepth 100000 in
set_option maxHeartbeats 1600000 in
theorem sGoodFilter_calls (v : Value) (xs : List Bool) (t : Bool) (w : World) (h : RdZ w v xs) (ht : t = true ↔ xs.length = 64) :
    Calls Try.prog 35 #[.agg #[v]] w fun e w' => e = .returned (.bool t) ∧ Below w.heap.size w w' := by
  obtain ⟨a, c, rfl, hm⟩ := h.slv
  have B0 := hide (below_box w (.cells #[.slice a xs.length c] 46))
  clear h
  have e : t = ((xs.length : Int) == 64) := by
    cases t with
    | true => have := ht.1 rfl; simp; omega
    | false => have := nf ht; simp; omega
  subst e
  clear ht
  go_enter Try.func35, Try.ntmps35
  go_wp2
  go_ret
  exact ⟨rfl, B0.out⟩

set_option maxRecDepth 100000 in
set_option maxHeartbeats 1600000 in
theorem sl13Bits_calls (k : Int) (w : World) (hk : kOk k) :
    Calls Try.prog 78 #[.int .i64 k] w fun e w' => ∃ v', e = .returned v' ∧ Own w' w.heap.size v' (bK k) ∧ Below w.heap.size w w' := by
  obtain ⟨k0, k1⟩ := hk
  have BL : Hid (∀ n, (bS k n).length ≤ 64) := by
    intro n
    rw [bS_eq]
    have := selF_len (kB k n) 0
    rw [kB_len] at this
    exact this
  have BE : Hid (bS k 3 = bK k) := bS_eq k 3
  go_enter Try.func78, Try.ntmps78
  go_wp2
  go_loopw [3, 4] (fun vo vi wr => ∃ i : Nat, i ≤ 3 ∧ vi = .int .i64 i ∧ Own wr w.heap.size vo (bS k i) ∧ Below w.heap.size w wr) (fun _ vi _ => 3 - (intOf vi).toNat)
  case atStart => exact ⟨0, by omega, rfl, World.ownsRow_nil _ _ _ _, Below.refl _ _⟩
  case round =>
    obtain ⟨i, hi, rfl, ho, hb⟩ := hrel
    have O := hide ho
    have B := hide hb
    clear ho hb
    by_cases hlt : i < 3
    · rcases (show i = 0 ∨ i = 1 ∨ i = 2 by omega) with rfl | rfl | rfl
      · go_wp2_with fail
        rw [hB_0 k]
        refine (l1PutE_calls _ (bS k 0) (hB k 0) _ (Own.rd O.out) (by have := BL.out 0; omega)).mono ?_
        rintro e w2 ⟨v2, rfl, o2, b2⟩
        have O2 : Hid (Own w2 w.heap.size v2 (bS k (0 + 1))) := by
          rcases o2 with ⟨rfl, e⟩ | o2
          · show Own w2 _ _ (putS (hB k 0) (bS k 0))
            rw [e]
            exact Own.below O.out b2
          · exact Own.mono o2 B.out.size
        have B2 := hide (B.out.trans (b2.mono B.out.size))
        clear o2 b2
        go_wp2
        go_roundw
        case rel => exact ⟨0 + 1, by omega, by go_num, O2.out, B2.out⟩
        case measure => simp [intOf]
      · go_wp2_with fail
        rw [hB_1 k]
        refine (l1PutE_calls _ (bS k 1) (hB k 1) _ (Own.rd O.out) (by have := BL.out 1; omega)).mono ?_
        rintro e w2 ⟨v2, rfl, o2, b2⟩
        have O2 : Hid (Own w2 w.heap.size v2 (bS k (1 + 1))) := by
          rcases o2 with ⟨rfl, e⟩ | o2
          · show Own w2 _ _ (putS (hB k 1) (bS k 1))
            rw [e]
            exact Own.below O.out b2
          · exact Own.mono o2 B.out.size
        have B2 := hide (B.out.trans (b2.mono B.out.size))
        clear o2 b2
        go_wp2
        go_roundw
        case rel => exact ⟨1 + 1, by omega, by go_num, O2.out, B2.out⟩
        case measure => simp [intOf]
      · go_wp2_with fail
        rw [hB_2 k]
        refine (l1PutE_calls _ (bS k 2) (hB k 2) _ (Own.rd O.out) (by have := BL.out 2; omega)).mono ?_
        rintro e w2 ⟨v2, rfl, o2, b2⟩
        have O2 : Hid (Own w2 w.heap.size v2 (bS k (2 + 1))) := by
          rcases o2 with ⟨rfl, e⟩ | o2
          · show Own w2 _ _ (putS (hB k 2) (bS k 2))
            rw [e]
            exact Own.below O.out b2
          · exact Own.mono o2 B.out.size
        have B2 := hide (B.out.trans (b2.mono B.out.size))
        clear o2 b2
        go_wp2
        go_roundw
        case rel => exact ⟨2 + 1, by omega, by go_num, O2.out, B2.out⟩
        case measure => simp [intOf]
    · obtain rfl : i = 3 := by omega
      rw [BE.out] at O
      go_wp2
      go_ret
      exact ⟨_, rfl, O.out, B.out⟩

set_option maxRecDepth 100000 in
set_option maxHeartbeats 1600000 in
theorem sNewFilter_calls (w : World) :
    Calls Try.prog 29 #[] w fun e w' => ∃ v', e = .returned (.agg #[v']) ∧ OwnZ w' w.heap.size v' no64 ∧ Below w.heap.size w w' := by
  have A0 := hide ((Hand.start w).box #[.slice none 0 0] 46)
  go_enter Try.func29, Try.ntmps29
  go_wp2_with (at_make; refine wpList_make_bols rfl _ _ rfl (w.heap.size + 1) _ _ 64 rfl rfl (by omega) (by omega) (by omega) (by simp) ?_)
  intro w1 o1 g1
  have o1' : OwnZ w1 (w.alloc (.cells #[.slice none 0 0] 46)).heap.size (.slice (some ⟨w.heap.size + 1, 0, none⟩) 64 64) no64 := by
    have e : (w.alloc (.cells #[.slice none 0 0] 46)).heap.size = w.heap.size + 1 := by simp
    rw [e]
    simpa [no64] using o1
  have b1 : Below (w.alloc (.cells #[.slice none 0 0] 46)).heap.size (w.alloc (.cells #[.slice none 0 0] 46)) w1 := (Below.refl _ _).grown g1 (Nat.le_refl _) (fun k h => by cases h)
  have A1 := hide (A0.out.add b1 (TBols.st _ _) ⟨o1', row_top o1'⟩)
  clear o1 o1' g1 b1 A0
  have z0 := (A1.out.atBox 1 rfl).c1
  have y0 := (A1.out.atBox 1 rfl).frozen 0
  have A9 := hide (A1.out.setBoxT 1 rfl 0 (.slice (some ⟨w.heap.size + 1, 0, none⟩) 64 64))
  clear A1
  go_wp2
  obtain ⟨lo9, hi9, o9, hl9, _, _⟩ := A9.out.open 0 rfl
  exact bodyPost_ret (res_fi rfl _ _ w.heap.size _ (0, 0) rfl (A9.out.atBox 1 rfl)) rfl ⟨_, rfl, ownsRow_mono o9.1 hl9, A9.out.below⟩

set_option maxRecDepth 100000 in
set_option maxHeartbeats 1600000 in
theorem sl13Own_calls (v : Value) (xs : List Bool) (w : World) (h : RdZ w v xs) (hx : xs.length = 64) :
    Calls Try.prog 83 #[.agg #[v]] w fun e w' => ∃ v', e = .returned (.agg #[v']) ∧ OwnZ w' w.heap.size v' xs ∧ Below w.heap.size w w' := by
  obtain ⟨a, c, rfl, hm⟩ := h.slv
  have A0 := hide (Hand.twoN w #[.slice a xs.length c] #[.slice none 0 0] 46 46)
  have R := hide h
  have HX := hide hx
  clear h hx
  go_enter Try.func83, Try.ntmps83
  go_wp2_with (at_builtin; refine wpList_append_rz rfl _ _ rfl (w.heap.size + 1 + 1) _ 0 [] xs rfl ?ow _ rfl (R.out.below ?bl) (by rw [HX.out]; omega) (by rw [HX.out]; omega) (by simp) ?_)
  case ow =>
    have := World.ownsRow_lit (base := w.heap.size + 1 + 1) (e := 4) (size := 1) ((w.alloc (.cells #[.slice a xs.length c] 46)).alloc (.cells #[.slice none 0 0] 46)) #[] 0 (by simp) (by decide) (by rfl)
    simp only [World.size_alloc] at this
    exact this
  case bl => exact A0.out.below.trans ((below_box _ _).mono A0.out.below.size)
  intro v1 w1 o1 g1
  have o1' : OwnZ w1 ((w.alloc (.cells #[.slice a xs.length c] 46)).alloc (.cells #[.slice none 0 0] 46)).heap.size v1 xs := by
    have e : ((w.alloc (.cells #[.slice a xs.length c] 46)).alloc (.cells #[.slice none 0 0] 46)).heap.size = w.heap.size + 1 + 1 := by simp
    rw [e]
    exact o1
  have b1 : Below ((w.alloc (.cells #[.slice a xs.length c] 46)).alloc (.cells #[.slice none 0 0] 46)).heap.size ((w.alloc (.cells #[.slice a xs.length c] 46)).alloc (.cells #[.slice none 0 0] 46)) w1 := ((Below.refl _ _).alloc (Nat.le_refl _) _).grown g1 (by simp) (fun k h => by simp [Value.ownBlock] at h; simp; omega)
  obtain ⟨a1, c1, rfl⟩ := row_slice o1
  have A1 := hide (A0.out.add b1 (TBols.st _ _) ⟨o1', row_top o1'⟩)
  clear o1 o1' g1 b1 A0
  have z0 := (A1.out.atBox 1 rfl).c1
  have y0 := (A1.out.atBox 1 rfl).frozen 0
  have A9 := hide (A1.out.setBoxT 1 rfl 0 (.slice a1 xs.length c1))
  clear A1
  go_wp2
  obtain ⟨lo9, hi9, o9, hl9, _, _⟩ := A9.out.open 0 rfl
  exact bodyPost_ret (res_fi rfl _ _ (w.heap.size + 1) _ (0, 0) rfl (A9.out.atBox 1 rfl)) rfl ⟨_, rfl, ownsRow_mono o9.1 hl9, A9.out.below⟩

set_option maxRecDepth 100000 in
set_option maxHeartbeats 1600000 in
theorem sl13Put_calls (v : Value) (xs : List Bool) (k : Int) (base : Nat) (w : World) (h : OwnZ w base v xs) (hx : xs.length = 64) (hk : kOk k) :
    Calls Try.prog 82 #[.agg #[v], .int .i64 k] w fun e w' => e = .returned (.agg #[v]) ∧ OwnZ w' base v (rchN xs (bK k)) ∧ w.grownBy w' v.ownBlock := by
  obtain ⟨g, cap, rfl, hg1, hg2⟩ := h.opn (by omega)
  rw [hx]
  have h' : w.ownsRow base 4 1 (.slice (some ⟨g, 0, none⟩) 64 cap) 64 (xs.map Value.bool) := by
    have := h
    unfold OwnZ at this
    rwa [hx] at this
  have A0 := hide (Hand.twoN w #[.slice (some ⟨g, 0, none⟩) 64 cap] #[.slice none 0 0] 46 46)
  have H := hide h'
  have HX := hide hx
  have HK := hide hk
  clear h h' hx hk
  obtain ⟨B, hB⟩ : ∃ B, B = bK k := ⟨_, rfl⟩
  have BIN : Hid (∀ i, i < B.length → 0 ≤ B.getD i 0 ∧ B.getD i 0 < 64) := by
    intro i hi
    have hm : B.getD i 0 ∈ B := by rw [List.getD_eq_getElem?_getD, List.getElem?_eq_getElem hi, Option.getD_some]; exact List.getElem_mem hi
    rw [hB] at hm ⊢
    exact bK_in k _ hm
  have BL : B.length ≤ 64 := by rw [hB]; exact bK_len k
  rw [← hB]
  have HB := hide hB
  clear hB
  go_enter Try.func82, Try.ntmps82
  go_wp2_with fail
  refine (sl13Bits_calls k _ HK.out).mono ?_
  rw [← HB.out]
  rintro e w1 ⟨v1, rfl, o1, b1⟩
  obtain ⟨a1, c1, rfl⟩ := row_slice o1
  have A1 := hide (A0.out.step b1)
  have O1 := hide o1
  have W1 := hide (ownsRow_below H.out A1.out.below)
  clear o1 b1 A0
  go_wp2
  go_loopw [10] (fun vi wr => ∃ j : Nat, j ≤ B.length ∧ vi = .int .i64 j ∧ wr.ownsRow base 4 1 (.slice (some ⟨g, 0, none⟩) 64 cap) 64 ((rchN xs (B.take j)).map Value.bool) ∧ w1.grownBy wr (some g)) (fun vi _ => B.length - (intOf vi).toNat)
  case atStart => exact ⟨0, Nat.zero_le _, rfl, by rw [List.take_zero]; exact W1.out, World.grownBy.refl _ _⟩
  case round =>
    obtain ⟨j, hj, rfl, hown, hgr⟩ := hrel
    have X0 := ((A1.out.atBox 1 rfl).kept hgr (by simp; omega)).c1
    by_cases hlt : j < B.length
    · have hlt' : (j : Int) < (B.length : Int) := by omega
      obtain ⟨b, off, rfl, hc0⟩ := (Own.rd O1.out).cellAt j hlt
      have hb1 : w.heap.size + 1 + 1 ≤ b := by
        rcases O1.out.2 with ⟨h', _⟩ | ⟨g', cap', cur, h', hb', _⟩
        · simp at h'
        · simp only [Value.slice.injEq, Option.some.injEq, Addr.mk.injEq, and_true] at h'
          rw [h'.1.1]
          simpa using hb'
      have hc1 := (cell_grown hgr ⟨b, off + j, none⟩ (World.block_lt_of_cell? w1 _ hc0) (by simp; omega)).trans hc0
      obtain ⟨hx0, hx1⟩ := BIN.out j hlt
      obtain ⟨x, hx⟩ : ∃ x : Nat, B.getD j 0 = (x : Int) := ⟨(B.getD j 0).toNat, by omega⟩
      have RS := rchN_succ xs B j hlt
      rw [hx, Int.toNat_natCast] at RS
      rw [hx] at hc1 hx1
      clear hx hx0 hc0
      have hc2 : wr.frozen? ⟨g, x, none⟩ = false := hown.frozenAt x
      obtain ⟨old, hc3⟩ : ∃ old, wr.cell? ⟨g, x, none⟩ = some old := by
        rw [hown.cellAt x (by omega)]
        have := rchN_len (B.take j) xs
        exact ⟨_, List.getElem?_eq_getElem (by simp; rw [this, HX.out]; omega)⟩
      have hst := hown.stored x (.bool true)
      rw [← List.map_set, ← RS] at hst
      have K := hide hst
      have G := hide hgr
      clear hst hown hgr RS
      go_wp2
      go_roundw
      case rel => exact ⟨j + 1, by omega, by go_num, K.out.1, grown_tr G.out K.out.2⟩
      case measure => simp [intOf]; omega
    · obtain rfl : j = B.length := by omega
      rw [List.take_length] at hown
      have X1 := (A1.out.atBox 0 rfl).kept hgr (by simp; omega)
      have z0 := X1.c1
      have y0 := X1.frozen 0
      have X2 := hide (X1.set 0 (.slice (some ⟨g, 0, none⟩) 64 cap))
      have O2 := hide (World.ownsRow.kept hown (grown_setCell wr (w.heap.size + 1) 0 (.slice (some ⟨g, 0, none⟩) 64 cap)) (by right; intro e; simp [Value.ownBlock] at e; omega))
      have G2 : Hid (w.grownBy (wr.setCell ⟨w.heap.size + 1, 0, none⟩ (.slice (some ⟨g, 0, none⟩) 64 cap)) (some g)) := by
        have h1 := grown_below A1.out.below hgr
        have h2 := grown_setCell wr (w.heap.size + 1) 0 (.slice (some ⟨g, 0, none⟩) 64 cap)
        exact ⟨h2.os.trans h1.os, h2.tape.trans h1.tape, h2.output.trans h1.output, Nat.le_trans h1.size h2.size, fun i hi hne => (h2.block i (Nat.lt_of_lt_of_le hi h1.size) (by simp; omega)).trans (h1.block i hi hne)⟩
      clear hown hgr X1
      go_wp2
      refine bodyPost_ret (res_fi rfl _ _ (w.heap.size + 1) _ (0, 0) rfl X2.out) rfl ⟨rfl, ?_, G2.out⟩
      unfold OwnZ
      rw [rchN_len, HX.out]
      exact O2.out

set_option maxRecDepth 100000 in
set_option maxHeartbeats 1600000 in
theorem sBitsFor_calls (k : Int) (ok : Bool) (w : World) (hok : ok = true ↔ kOk k) :
    Calls Try.prog 38 #[.int .i64 k] w fun e w' => ∃ v', e = .returned (.tuple #[v', .bool ok]) ∧ Own w' w.heap.size v' (gX ok (bK k)) ∧ Below w.heap.size w w' := by
  cases ok with
  | false =>
    have HK := hide (nf hok)
    clear hok
    rw [gX_false]
    go_enter Try.func38, Try.ntmps38
    go_wp2_with (go_at_call 77; refine (sl12Key_calls _ false _ (bF HK.out)).mono ?_; rintro e w' ⟨rfl, rfl⟩)
    go_ret2
    exact ⟨_, rfl, World.ownsRow_nil _ _ _ _, Below.refl _ _⟩
  | true =>
    have HK := hide (hok.1 rfl)
    clear hok
    rw [gX_true]
    go_enter Try.func38, Try.ntmps38
    go_wp2_with (go_at_call 77; refine (sl12Key_calls _ true _ (bT HK.out)).mono ?_; rintro e w' ⟨rfl, rfl⟩)
    refine (sl13Bits_calls k _ HK.out).mono ?_
    rintro e w1 ⟨v1, rfl, o1, b1⟩
    have O1 := hide o1
    have B1 := hide b1
    clear o1 b1
    go_wp2
    go_ret2
    exact ⟨_, rfl, O1.out, B1.out⟩

set_option maxRecDepth 100000 in
set_option maxHeartbeats 1600000 in
theorem sPutFilter_calls (v : Value) (xs : List Bool) (k : Int) (ok : Bool) (w : World) (h : RdZ w v xs) (hok : ok = true ↔ (xs.length = 64 ∧ kOk k)) :
    Calls Try.prog 41 #[.agg #[v], .int .i64 k] w fun e w' => ∃ v', e = .returned (.tuple #[.agg #[v'], .bool ok]) ∧ OwnZ w' w.heap.size v' (gX ok (rchN xs (bK k))) ∧ Below w.heap.size w w' := by
  obtain ⟨a, c, rfl, hm⟩ := h.slv
  have A0 := hide (Hand.twoN w #[.slice a xs.length c] #[.slice none 0 0] 46 46)
  have R := hide h
  obtain ⟨gb, hgb⟩ := bol_ex (xs.length = 64)
  obtain ⟨kb, hkb⟩ := bol_ex (kOk k)
  clear h
  cases gb with
  | false =>
    obtain rfl : ok = false := by cases ok with | false => rfl | true => exact absurd (hok.1 rfl).1 (nf hgb)
    rw [gX_false]
    have NG := hide (nf hgb)
    clear hgb hkb hok
    go_enter Try.func41, Try.ntmps41
    go_wp2_with fail
    refine (sGoodFilter_calls _ xs false _ (R.out.below A0.out.below) (bF NG.out)).mono ?_
    rintro e w1 ⟨rfl, b1⟩
    have A1 := hide (A0.out.step b1)
    clear b1 A0
    have z0 := (A1.out.atBox 0 rfl).c1
    have y0 := (A1.out.atBox 0 rfl).frozen 0
    have A9 := hide (A1.out.setBoxT 0 rfl 0 (.slice none 0 0))
    go_wp2
    exact bodyPost_ret (res_fi2 rfl _ _ (w.heap.size + 1) _ (0, 0) rfl (A9.out.atBox 0 rfl)) rfl ⟨_, rfl, World.ownsRow_nil _ _ _ _, A9.out.below⟩
  | true =>
    have HL := hide (hgb.1 rfl)
    cases kb with
    | false =>
      obtain rfl : ok = false := by cases ok with | false => rfl | true => exact absurd (hok.1 rfl).2 (nf hkb)
      rw [gX_false]
      have NK := hide (nf hkb)
      clear hgb hkb hok
      go_enter Try.func41, Try.ntmps41
      go_wp2_with fail
      refine (sGoodFilter_calls _ xs true _ (R.out.below A0.out.below) (bT HL.out)).mono ?_
      rintro e w1 ⟨rfl, b1⟩
      have A1 := hide (A0.out.step b1)
      clear b1 A0
      go_wp2_with fail
      refine (sl12Key_calls _ false _ (bF NK.out)).mono ?_
      rintro e w1 ⟨rfl, rfl⟩
      have z0 := (A1.out.atBox 0 rfl).c1
      have y0 := (A1.out.atBox 0 rfl).frozen 0
      have A9 := hide (A1.out.setBoxT 0 rfl 0 (.slice none 0 0))
      go_wp2
      exact bodyPost_ret (res_fi2 rfl _ _ (w.heap.size + 1) _ (0, 0) rfl (A9.out.atBox 0 rfl)) rfl ⟨_, rfl, World.ownsRow_nil _ _ _ _, A9.out.below⟩
    | true =>
      obtain rfl : ok = true := hok.2 ⟨hgb.1 rfl, hkb.1 rfl⟩
      have HK := hide (hkb.1 rfl)
      rw [gX_true]
      clear hgb hkb hok
      go_enter Try.func41, Try.ntmps41
      go_wp2_with fail
      refine (sGoodFilter_calls _ xs true _ (R.out.below A0.out.below) (bT HL.out)).mono ?_
      rintro e w1 ⟨rfl, b1⟩
      have A1 := hide (A0.out.step b1)
      clear b1 A0
      go_wp2_with fail
      refine (sl12Key_calls _ true _ (bT HK.out)).mono ?_
      rintro e w1 ⟨rfl, rfl⟩
      have c0 := (A1.out.atBox 1 rfl).c1
      go_wp2_with fail
      refine (sl13Own_calls _ xs _ (R.out.below A1.out.below) HL.out).mono ?_
      rintro e w2 ⟨v2, rfl, o2, b2⟩
      obtain ⟨a2, c2, rfl⟩ := row_slice o2
      have A2 := hide (A1.out.add b2 (TBols.st _ _) ⟨o2, row_top o2⟩)
      clear o2 b2 A1 c0
      obtain ⟨lo, hi, d, lw, hw, put⟩ := A2.out.open 0 rfl
      have D1 := hide d.1
      have D2 := hide d.2
      have PUT := hide put
      clear d put lw hw
      go_wp2_with fail
      refine (sl13Put_calls _ xs k lo _ D1.out HL.out HK.out).mono ?_
      rintro e w4 ⟨rfl, o4, g4⟩
      have A4 : Hid (Hand w w4 [TBols (.slice a2 xs.length c2) (rchN xs (bK k)), TBox (w.heap.size + 1) #[.slice none 0 0] 46, TBox w.heap.size #[.slice a xs.length c] 46]) := PUT.out _ (TBols _ _) (TBols.st _ _) ⟨o4, D2.out⟩ (Chg.ofGrown g4 (fun j hj => ⟨row_low D1.out j hj, D2.out j hj⟩))
      clear o4 g4 PUT D1 D2 A2
      have z0 := (A4.out.atBox 1 rfl).c1
      have y0 := (A4.out.atBox 1 rfl).frozen 0
      have A9 := hide (A4.out.setBoxT 1 rfl 0 (.slice a2 xs.length c2))
      clear A4
      go_wp2
      obtain ⟨lo9, hi9, o9, hl9, _, _⟩ := A9.out.open 0 rfl
      exact bodyPost_ret (res_fi2 rfl _ _ (w.heap.size + 1) _ (0, 0) rfl (A9.out.atBox 1 rfl)) rfl ⟨_, rfl, ownsRow_mono o9.1 hl9, A9.out.below⟩

set_option maxRecDepth 100000 in
set_option maxHeartbeats 1600000 in
theorem sl13May_calls (v : Value) (xs : List Bool) (k : Int) (r : Bool) (w : World) (h : RdZ w v xs) (hx : xs.length = 64) (hk : kOk k) (hr : r = hasB (bK k) xs) :
    Calls Try.prog 86 #[.agg #[v], .int .i64 k] w fun e w' => e = .returned (.bool r) ∧ Below w.heap.size w w' := by
  obtain ⟨b, off, cap, rfl, hbl⟩ := h.opn (by omega)
  rw [hx] at h ⊢
  have A0 := hide ((Hand.start w).box #[.slice (some ⟨b, off, none⟩) 64 cap] 46)
  have R := hide h
  have HX := hide hx
  have HK := hide hk
  clear h hx hk
  obtain ⟨B, hB⟩ : ∃ B, B = bK k := ⟨_, rfl⟩
  have BIN : Hid (∀ i, i < B.length → 0 ≤ B.getD i 0 ∧ B.getD i 0 < 64) := by
    intro i hi
    have hm : B.getD i 0 ∈ B := by rw [List.getD_eq_getElem?_getD, List.getElem?_eq_getElem hi, Option.getD_some]; exact List.getElem_mem hi
    rw [hB] at hm ⊢
    exact bK_in k _ hm
  have BL : B.length ≤ 64 := by rw [hB]; exact bK_len k
  have RI : Hid (r = true ↔ ∀ i, i < B.length → xs.getD (B.getD i 0).toNat false = true) := by show _ ↔ _; rw [hr, ← hB]; exact hasB_iff B xs
  have HB := hide hB
  clear hB hr
  go_enter Try.func86, Try.ntmps86
  go_wp2_with fail
  refine (sl13Bits_calls k _ HK.out).mono ?_
  rw [← HB.out]
  rintro e w1 ⟨v1, rfl, o1, b1⟩
  obtain ⟨a1, c1, rfl⟩ := row_slice o1
  have A1 := hide (A0.out.step b1)
  have O1 := hide (Own.rd o1)
  have R1 := hide (R.out.below A1.out.below)
  clear o1 b1 A0
  have c0 := (A1.out.atBox 0 rfl).c1
  go_wp2
  go_loop [10] (fun vi => ∃ j : Nat, j ≤ B.length ∧ vi = .int .i64 j ∧ ∀ i, i < j → xs.getD (B.getD i 0).toNat false = true) (fun vi => B.length - (intOf vi).toNat)
  case atStart => exact ⟨0, Nat.zero_le _, rfl, fun i hi => by omega⟩
  case round =>
    obtain ⟨j, hj, rfl, hall⟩ := hrel
    have AL := hide hall
    clear hall
    by_cases hlt : j < B.length
    · have hlt' : (j : Int) < (B.length : Int) := by omega
      obtain ⟨b2, off2, rfl, hc1⟩ := O1.out.cellAt j hlt
      obtain ⟨hx0, hx1⟩ := BIN.out j hlt
      obtain ⟨x, hx⟩ : ∃ x : Nat, B.getD j 0 = (x : Int) := ⟨(B.getD j 0).toNat, by omega⟩
      rw [hx] at hc1 hx1
      have XE : Hid ((B.getD j 0).toNat = x) := by show _ = _; rw [hx]; simp
      clear hx hx0
      obtain ⟨b', off', e, hc2⟩ := R1.out.atv x (by rw [HX.out]; omega)
      simp only [Option.some.injEq, Addr.mk.injEq, and_true] at e
      obtain ⟨rfl, rfl⟩ := e
      cases hq : xs.getD x false with
      | true =>
        rw [hq] at hc2
        have HQ := hide hq
        clear hq
        go_wp2
        go_round
        case rel =>
          refine ⟨j + 1, by omega, by go_num, fun i hi => ?_⟩
          by_cases e : i = j
          · subst e; rw [XE.out]; exact HQ.out
          · exact AL.out i (by omega)
        case measure => simp [intOf]; omega
      | false =>
        rw [hq] at hc2
        have HQ := hide hq
        clear hq
        obtain rfl : r = false := by
          cases r with
          | false => rfl
          | true =>
            have := RI.out.1 rfl j hlt
            rw [XE.out, HQ.out] at this
            simp at this
        go_wp2
        go_ret
        exact ⟨rfl, A1.out.below⟩
    · obtain rfl : j = B.length := by omega
      obtain rfl : r = true := RI.out.2 AL.out
      go_wp2
      go_ret
      exact ⟨rfl, A1.out.below⟩

set_option maxRecDepth 100000 in
set_option maxHeartbeats 1600000 in
theorem sMayHave_calls (v : Value) (xs : List Bool) (k : Int) (ok : Bool) (r : Bool) (w : World) (h : RdZ w v xs) (hok : ok = true ↔ (xs.length = 64 ∧ kOk k)) (hr : r = (ok && hasB (bK k) xs)) :
    Calls Try.prog 43 #[.agg #[v], .int .i64 k] w fun e w' => e = .returned (.tuple #[.bool r, .bool ok]) ∧ Below w.heap.size w w' := by
  obtain ⟨a, c, rfl, hm⟩ := h.slv
  have A0 := hide ((Hand.start w).box #[.slice a xs.length c] 46)
  have R := hide h
  obtain ⟨gb, hgb⟩ := bol_ex (xs.length = 64)
  obtain ⟨kb, hkb⟩ := bol_ex (kOk k)
  clear h
  cases gb with
  | false =>
    obtain rfl : ok = false := by cases ok with | false => rfl | true => exact absurd (hok.1 rfl).1 (nf hgb)
    simp only [Bool.false_and] at hr
    subst hr
    have NG := hide (nf hgb)
    clear hgb hkb hok
    go_enter Try.func43, Try.ntmps43
    go_wp2_with fail
    refine (sGoodFilter_calls _ xs false _ (R.out.below A0.out.below) (bF NG.out)).mono ?_
    rintro e w1 ⟨rfl, b1⟩
    have A1 := hide (A0.out.step b1)
    clear b1 A0
    go_wp2
    go_ret2
    exact ⟨rfl, A1.out.below⟩
  | true =>
    have HL := hide (hgb.1 rfl)
    cases kb with
    | false =>
      obtain rfl : ok = false := by cases ok with | false => rfl | true => exact absurd (hok.1 rfl).2 (nf hkb)
      simp only [Bool.false_and] at hr
      subst hr
      have NK := hide (nf hkb)
      clear hgb hkb hok
      go_enter Try.func43, Try.ntmps43
      go_wp2_with fail
      refine (sGoodFilter_calls _ xs true _ (R.out.below A0.out.below) (bT HL.out)).mono ?_
      rintro e w1 ⟨rfl, b1⟩
      have A1 := hide (A0.out.step b1)
      clear b1 A0
      go_wp2_with fail
      refine (sl12Key_calls _ false _ (bF NK.out)).mono ?_
      rintro e w1 ⟨rfl, rfl⟩
      go_wp2
      go_ret2
      exact ⟨rfl, A1.out.below⟩
    | true =>
      obtain rfl : ok = true := hok.2 ⟨hgb.1 rfl, hkb.1 rfl⟩
      have HK := hide (hkb.1 rfl)
      simp only [Bool.true_and] at hr
      have HR := hide hr
      clear hr
      clear hgb hkb hok
      go_enter Try.func43, Try.ntmps43
      go_wp2_with fail
      refine (sGoodFilter_calls _ xs true _ (R.out.below A0.out.below) (bT HL.out)).mono ?_
      rintro e w1 ⟨rfl, b1⟩
      have A1 := hide (A0.out.step b1)
      clear b1 A0
      go_wp2_with fail
      refine (sl12Key_calls _ true _ (bT HK.out)).mono ?_
      rintro e w1 ⟨rfl, rfl⟩
      have c0 := (A1.out.atBox 0 rfl).c1
      go_wp2_with fail
      refine (sl13May_calls _ xs k r _ (R.out.below A1.out.below) HL.out HK.out HR.out).mono ?_
      rintro e w2 ⟨rfl, b2⟩
      have A2 := hide (A1.out.step b2)
      clear b2 A1 c0
      go_wp2
      go_ret2
      exact ⟨rfl, A2.out.below⟩

end Go.Proofs.Ytehjfjplajimfaa

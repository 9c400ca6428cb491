/-
  Filters of lists, bits counted: the model's functions, call by call. Each contract says what it asks.
-/
import Derived.Test.YtehjfjplajimfaaFlg
namespace Go.Proofs.Ytehjfjplajimfaa
open Go.RowKit
set_option linter.unusedVariables false
set_option linter.unusedSimpArgs false
set_option maxRecDepth 100000 in
theorem sl8Bit_calls (b : Bool) (w : World) :
    Calls Try.prog 89 #[.bool b] w fun e w' => e = .returned (.int .i64 (if b then 1 else 0)) ∧ w = w' := by
  cases b with
  | true =>
    go_enter Try.func89, Try.ntmps89
    go_wp2
    go_ret
    exact ⟨rfl, rfl⟩
  | false =>
    go_enter Try.func89, Try.ntmps89
    go_wp2
    go_ret
    exact ⟨rfl, rfl⟩

set_option maxRecDepth 100000 in
set_option maxHeartbeats 1600000 in
theorem sOnesIn_calls (v : Value) (xs : List Bool) (ok : Bool) (n : Int) (w : World) (h : RdZ w v xs) (hok : ok = true ↔ xs.length = 64) (hn : n = ((gX ok (selF 0 xs)).length : Int)) :
    Calls Try.prog 51 #[.agg #[v]] w fun e w' => e = .returned (.tuple #[.int .i64 n, .bool ok]) ∧ Below w.heap.size w w' := by
  obtain ⟨a, c, rfl, hm⟩ := h.slv
  have A0 := hide ((Hand.start w).box #[.slice a xs.length c] 46)
  have R := hide h
  clear h
  cases ok with
  | false =>
    have NG := hide (nf hok)
    rw [gX_false] at hn
    simp only [List.length_nil, Int.natCast_zero] at hn
    subst hn
    clear hok
    go_enter Try.func51, Try.ntmps51
    go_wp2_with fail
    refine (sGoodFilter_calls _ xs false _ (R.out.below A0.out.below) (bF NG.out)).mono ?_
    rintro e w1 ⟨rfl, b1⟩
    have A1 := hide (A0.out.step b1)
    clear b1 A0
    go_wp2
    go_ret2
    exact ⟨rfl, A1.out.below⟩
  | true =>
    have HL := hide (hok.1 rfl)
    rw [gX_true] at hn
    obtain ⟨P, hP⟩ : ∃ P : Nat → Nat, P = fun k => (selF 0 (xs.take k)).length := ⟨_, rfl⟩
    have P0 : Hid (P 0 = 0) := by show _ = _; rw [hP]; rfl
    have PE : Hid (n = (P xs.length : Int)) := by show _ = _; rw [hP, hn]; show _ = ((selF 0 (xs.take xs.length)).length : Int); rw [List.take_length]
    have PT : Hid (∀ k, k < xs.length → xs.getD k false = true → P (k + 1) = P k + 1) := by
      intro k hk hb
      rw [hP]
      show (selF 0 _).length = (selF 0 _).length + 1
      rw [selF_succ xs k hk, hb]
      simp
    have PF : Hid (∀ k, k < xs.length → xs.getD k false = false → P (k + 1) = P k) := by
      intro k hk hb
      rw [hP]
      show (selF 0 _).length = (selF 0 _).length
      rw [selF_succ xs k hk, hb]
      simp
    have PL : Hid (∀ k, k ≤ xs.length → P k ≤ k) := by
      intro k hk
      rw [hP]
      have := selF_len (xs.take k) 0
      rw [List.length_take] at this
      show (selF 0 (xs.take k)).length ≤ k
      omega
    clear hok hn hP
    go_enter Try.func51, Try.ntmps51
    go_wp2_with fail
    refine (sGoodFilter_calls _ xs true _ (R.out.below A0.out.below) (bT HL.out)).mono ?_
    rintro e w1 ⟨rfl, b1⟩
    have A1 := hide (A0.out.step b1)
    clear b1 A0
    have c0 := (A1.out.atBox 0 rfl).c1
    have R1 := hide (R.out.below A1.out.below)
    go_wp2
    go_loop [4, 13] (fun vn vi => ∃ k : Nat, k ≤ xs.length ∧ vi = .int .i64 k ∧ vn = .int .i64 (P k : Int)) (fun _ vi => xs.length - (intOf vi).toNat)
    case atStart => exact ⟨0, Nat.zero_le _, rfl, by rw [P0.out]; rfl⟩
    case round =>
      obtain ⟨k, hk, rfl, rfl⟩ := hrel
      have hpl := PL.out k hk
      by_cases hlt : k < xs.length
      · have hlt' : (k : Int) < (xs.length : Int) := by omega
        obtain ⟨b, off, rfl, hc1⟩ := R1.out.atv k hlt
        have h64 : k < 64 := by have := HL.out; omega
        cases hq : xs.getD k false with
        | true =>
          rw [hq] at hc1
          have E := hide (PT.out k hlt hq)
          clear hq
          go_wp2_with (go_at_call 89; refine (sl8Bit_calls true _).mono ?_; rintro e w' ⟨rfl, rfl⟩)
          go_round
          case rel => exact ⟨k + 1, by omega, by go_num, by rw [E.out]; go_num⟩
          case measure => simp [intOf]; omega
        | false =>
          rw [hq] at hc1
          have E := hide (PF.out k hlt hq)
          clear hq
          go_wp2_with (go_at_call 89; refine (sl8Bit_calls false _).mono ?_; rintro e w' ⟨rfl, rfl⟩)
          go_round
          case rel => exact ⟨k + 1, by omega, by go_num, by rw [E.out]⟩
          case measure => simp [intOf]; omega
      · obtain rfl : k = xs.length := by omega
        rw [← PE.out]
        go_wp2
        go_ret2
        exact ⟨rfl, A1.out.below⟩

set_option maxRecDepth 100000 in
set_option maxHeartbeats 1600000 in
theorem sFilterOf_calls (v : Value) (ks : List Int) (ok : Bool) (w : World) (h : Rd w v ks) (hok : ok = true ↔ (ks.length ≤ 80 ∧ ∀ i, i < ks.length → kOk (ks.getD i 0))) :
    Calls Try.prog 49 #[v] w fun e w' => ∃ v', e = .returned (.tuple #[.agg #[v'], .bool ok]) ∧ OwnZ w' w.heap.size v' (gX ok (kysB no64 ks)) ∧ Below w.heap.size w w' := by
  have R := hide h
  have OK := hide hok
  obtain ⟨a, cap, rfl, mh, hcm, _⟩ := h
  have hm := hcm.1
  unfold maxLen at hm
  clear hcm hok
  obtain ⟨X, hX⟩ : ∃ X, X = gX ok (kysB no64 ks) := ⟨_, rfl⟩
  rw [← hX]
  have HX := hide hX
  clear hX
  have A0 := hide ((Hand.start w).box #[.slice none 0 0] 46)
  go_enter Try.func49, Try.ntmps49
  go_wp2_with fail
  refine (sNewFilter_calls _).mono ?_
  rintro e w1 ⟨v1, rfl, o1, b1⟩
  obtain ⟨a1, c1, rfl⟩ := row_slice o1
  rw [no64_len]
  have A1 := (A0.out.add b1 (TBols.st _ _) ⟨o1, row_top o1⟩)
  rw [no64_len] at A1
  have A2 := hide (A1.box #[.slice a1 64 c1] 46)
  clear o1 b1 A0 A1
  go_wp2
  go_loopw [10] (fun vi wr => ∃ k : Nat, k ≤ ks.length ∧ vi = .int .i64 k ∧ (∀ i, i < k → kOk (ks.getD i 0)) ∧ Hand w wr [TBox w1.heap.size #[.slice a1 64 c1] 46, TBols (.slice a1 64 c1) (kysB no64 (ks.take k)), TBox w.heap.size #[.slice none 0 0] 46]) (fun vi _ => ks.length - (intOf vi).toNat)
  case atStart => exact ⟨0, Nat.zero_le _, rfl, fun i hi => by omega, A2.out⟩
  case round =>
    obtain ⟨k, hk, rfl, hall, hA⟩ := hrel
    have A3 := hide hA
    have AL := hide hall
    clear hA A2 hall
    by_cases hlt : k < ks.length
    · have hlt' : (k : Int) < (ks.length : Int) := by omega
      obtain ⟨b, off, rfl, hc1⟩ := (R.out.below A3.out.below).cellAt k hlt
      have KS := hide (kysB_succ no64 ks k hlt)
      have KL : Hid ((kysB no64 (ks.take k)).length = 64) := by show _ = _; rw [kysB_len, no64_len]
      have X0 := hide (fun h : ∀ i, i < ks.length → kOk (ks.getD i 0) => h k hlt)
      have X1 := hide (fun (h : kOk (ks.getD k 0)) i (hi : i < k + 1) => if e : i = k then (by rw [e]; exact h : kOk (ks.getD i 0)) else AL.out i (by omega))
      generalize ks.getD k 0 = x at hc1 KS X0 X1
      obtain ⟨q, hq⟩ := bol_ex (kOk x)
      cases q with
      | false =>
        have HQ := hide (nf hq)
        clear hq
        obtain rfl : ok = false := by cases ok with | false => rfl | true => exact absurd (X0.out (OK.out.1 rfl).2) HQ.out
        obtain rfl : X = [] := HX.out
        have c9 := (A3.out.atBox 0 rfl).c1
        have z0 := (A3.out.atBox 2 rfl).c1
        have y0 := (A3.out.atBox 2 rfl).frozen 0
        have A9 := hide (A3.out.setBoxT 2 rfl 0 (.slice none 0 0))
        go_wp2_with (go_at_call 77; refine (sl12Key_calls _ false _ (bF HQ.out)).mono ?_; rintro e w' ⟨rfl, rfl⟩)
        exact bodyPost_ret (res_fi2 rfl _ _ w.heap.size _ (0, 0) rfl (A9.out.atBox 2 rfl)) rfl ⟨_, rfl, World.ownsRow_nil _ _ _ _, A9.out.below⟩
      | true =>
        have HQ := hide (hq.1 rfl)
        clear hq
        have c9 := (A3.out.atBox 0 rfl).c1
        go_wp2_with (go_at_call 77; refine (sl12Key_calls _ true _ (bT HQ.out)).mono ?_; rintro e w' ⟨rfl, rfl⟩)
        obtain ⟨lo, hi, d, lw, hw, put⟩ := A3.out.open 1 rfl
        have D1 := hide d.1
        have D2 := hide d.2
        have PUT := hide put
        clear d put lw hw c9
        refine (sl13Put_calls _ (kysB no64 (ks.take k)) x lo _ D1.out KL.out HQ.out).mono ?_
        rintro e w4 ⟨rfl, o4, g4⟩
        have o5 : OwnZ w4 lo (.slice a1 64 c1) (kysB no64 (ks.take (k + 1))) := by rw [KS.out]; exact o4
        have A4 : Hid (Hand w w4 [TBox w1.heap.size #[.slice a1 64 c1] 46, TBols (.slice a1 64 c1) (kysB no64 (ks.take (k + 1))), TBox w.heap.size #[.slice none 0 0] 46]) := PUT.out _ (TBols _ _) (TBols.st _ _) ⟨o5, D2.out⟩ (Chg.ofGrown g4 (fun j hj => ⟨row_low D1.out j hj, D2.out j hj⟩))
        have A5 : Hid (Hand w _ [TBox w1.heap.size #[.slice a1 64 c1] 46, TBols (.slice a1 64 c1) (kysB no64 (ks.take (k + 1))), TBox w.heap.size #[.slice none 0 0] 46]) := A4.out.setBoxT 0 rfl 0 (.slice a1 64 c1)
        have c9 := (A4.out.atBox 0 rfl).c1
        have y9 := (A4.out.atBox 0 rfl).frozen 0
        clear o4 o5 g4 PUT D1 D2 A3 KS KL A4
        go_wp2
        go_roundw
        case rel => exact ⟨k + 1, by omega, by go_num, X1.out HQ.out, A5.out⟩
        case measure => simp [intOf]; omega
    · obtain rfl : k = ks.length := by omega
      rw [List.take_length] at A3
      have c9 := (A3.out.atBox 0 rfl).c1
      have z0 := (A3.out.atBox 2 rfl).c1
      have y0 := (A3.out.atBox 2 rfl).frozen 0
      by_cases hl : ks.length ≤ 80
      · have hl' : ¬ (80 : Int) < (ks.length : Int) := by omega
        obtain rfl : ok = true := OK.out.2 ⟨hl, AL.out⟩
        obtain rfl : X = kysB no64 ks := HX.out
        have A9 := hide (A3.out.setBoxT 2 rfl 0 (.slice a1 64 c1))
        clear OK AL A3
        go_wp2
        obtain ⟨lo9, hi9, o9, hl9, _, _⟩ := A9.out.open 1 rfl
        exact bodyPost_ret (res_fi2 rfl _ _ w.heap.size _ (0, 0) rfl (A9.out.atBox 2 rfl)) rfl ⟨_, rfl, ownsRow_mono o9.1 hl9, A9.out.below⟩
      · have hl' : (80 : Int) < (ks.length : Int) := by omega
        obtain rfl : ok = false := by cases ok with | false => rfl | true => exact absurd (OK.out.1 rfl).1 hl
        obtain rfl : X = [] := HX.out
        have A9 := hide (A3.out.setBoxT 2 rfl 0 (.slice none 0 0))
        clear OK AL A3
        go_wp2
        exact bodyPost_ret (res_fi2 rfl _ _ w.heap.size _ (0, 0) rfl (A9.out.atBox 2 rfl)) rfl ⟨_, rfl, World.ownsRow_nil _ _ _ _, A9.out.below⟩

end Go.Proofs.Ytehjfjplajimfaa

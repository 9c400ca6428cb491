/-
  A number played on a table, numbers held against their bounds: the program's functions, call by call. Each contract says what it asks.
-/
import Derived.Test.YtehjfjplajimfaaTpm
import Derived.Test.YtehjfjplajimfaaTpk
namespace Go.Proofs.Ytehjfjplajimfaa
open Go.RowKit
set_option linter.unusedVariables false
set_option linter.unusedSimpArgs false

set_option maxRecDepth 100000 in
theorem isTableStep_calls (x : Int) (t : Bool) (w : World) (ht : t = true ↔ stOk x) :
    Calls Try.prog 72 #[.int .i64 x] w fun e w' => e = .returned (.bool t) ∧ w = w' := by
  by_cases h1 : -10000 ≤ x
  · by_cases h2 : x ≤ 9999
    · obtain rfl : t = true := ht.2 ⟨h1, h2⟩
      clear ht
      go_enter Try.func72, Try.ntmps72
      go_wp2
      go_ret
      exact ⟨rfl, rfl⟩
    · obtain rfl : t = false := by cases t with | false => rfl | true => exact absurd (ht.1 rfl).2 h2
      clear ht
      go_enter Try.func72, Try.ntmps72
      go_wp2
      go_ret
      exact ⟨rfl, rfl⟩
  · obtain rfl : t = false := by cases t with | false => rfl | true => exact absurd (ht.1 rfl).1 h1
    clear ht
    have h1b : decide (-10000 ≤ x) = false := decide_eq_false h1
    go_enter Try.func72, Try.ntmps72
    go_wp2
    go_ret
    exact ⟨rfl, rfl⟩
set_option maxRecDepth 100000 in
set_option maxHeartbeats 1600000 in
theorem allSteps_calls (v : Value) (ks : List Int) (y : Bool) (w : World) (hv : Rd w v ks) (hy : y = true ↔ ∀ i, i < ks.length → stOk (ks.getD i 0)) :
    Calls Try.prog 71 #[v, .func (.func 72) #[] #[]] w fun e w' => e = .returned (.bool y) ∧ w = w' := by
  have R := hide hv
  have HY := hide hy
  obtain ⟨a, cap, rfl, mh, hcm, _⟩ := hv
  have hm := hcm.1
  unfold maxLen at hm
  clear hy hcm
  go_enter Try.func71, Try.ntmps71
  go_wp2
  go_loop [9] (fun vi => ∃ k : Nat, k ≤ ks.length ∧ vi = .int .i64 k ∧ ∀ i, i < k → stOk (ks.getD i 0)) (fun vi => ks.length - (intOf vi).toNat)
  case atStart => exact ⟨0, Nat.zero_le _, rfl, fun i hi => by omega⟩
  case round =>
    obtain ⟨k, hk, rfl, hall⟩ := hrel
    have A := hide hall
    clear hall
    by_cases hlt : k < ks.length
    · have hlt' : (k : Int) < (ks.length : Int) := by omega
      obtain ⟨b, off, rfl, hc1⟩ := R.out.cellAt k hlt
      have X0 := hide (fun h : ∀ i, i < ks.length → stOk (ks.getD i 0) => h k hlt)
      have X1 := hide (fun (h : stOk (ks.getD k 0)) i (hi : i < k + 1) => if e : i = k then (by rw [e]; exact h : stOk (ks.getD i 0)) else A.out i (by omega))
      generalize ks.getD k 0 = x at hc1 X0 X1
      obtain ⟨q, hq⟩ := bol_ex (stOk x)
      cases q with
      | true =>
        have HQ := hide (hq.1 rfl)
        clear hq
        go_wp2_with (go_at_call 72; refine (isTableStep_calls _ true _ (bT HQ.out)).mono ?_; rintro e w' ⟨rfl, rfl⟩)
        go_round
        case rel => exact ⟨k + 1, by omega, by go_num, X1.out HQ.out⟩
        case measure => simp [intOf]; omega
      | false =>
        have HQ := hide (nf hq)
        clear hq
        go_wp2_with (go_at_call 72; refine (isTableStep_calls _ false _ (bF HQ.out)).mono ?_; rintro e w' ⟨rfl, rfl⟩)
        go_ret
        obtain rfl : y = false := by
          cases y with
          | false => rfl
          | true => exact absurd (X0.out (HY.out.1 rfl)) HQ.out
        exact ⟨rfl, rfl⟩
    · obtain rfl : k = ks.length := by omega
      obtain rfl : y = true := HY.out.2 A.out
      go_wp2
      go_ret
      exact ⟨rfl, rfl⟩
theorem PlTo.pk {s n i : Int} {L R : List Sl} {m : Int} {X Y : List Sl} {mX : Int} {ok : Bool} (h : PlTo s n i L R m X Y mX ok) (o : okT s L R m) (h0 : 0 ≤ n) (hn : n ≤ 9999) (hi : kOk i) :
    ∃ X' Y' s' m' c, PkAt s m L R n i X' Y' s' m' c ok ∧ (ok = true → X' = X ∧ Y' = Y ∧ s' = s ∧ m' = mX) := by
  rcases h with ⟨_, ⟨rfl, c, a, h, rfl⟩ | ⟨rfl, h, rfl, rfl, rfl⟩⟩ | ⟨h1, _⟩
  · exact ⟨X, Y, s, m + a, c, .inl ⟨o, ⟨h0, hn⟩, hi, ⟨a, h, rfl⟩, rfl, rfl⟩, fun _ => ⟨rfl, rfl, rfl, rfl⟩⟩
  · exact ⟨[], [], 0, 0, 0, .inr ⟨fun hh => hh.2.2.2 h, rfl, rfl, rfl, rfl, rfl, rfl⟩, fun e => by simp at e⟩
  · omega
theorem PlTo.dr {s n i : Int} {L R : List Sl} {m : Int} {X Y : List Sl} {mX : Int} {ok : Bool} (h : PlTo s n i L R m X Y mX ok) (o : okT s L R m) (h0 : n < 0) (hn : -10000 ≤ n) :
    ∃ X' Y' s' m', DrAt s m L R (-1 - n) X' Y' s' m' ok ∧ (ok = true → X' = X ∧ Y' = Y ∧ s' = s ∧ m' = mX) := by
  rcases h with ⟨h1, _⟩ | ⟨_, ⟨rfl, h, rfl⟩ | ⟨rfl, h, rfl, rfl, rfl⟩⟩
  · omega
  · exact ⟨X, Y, s, m - 1, .inl ⟨o, ⟨by omega, by omega⟩, h, rfl, rfl, rfl⟩, fun _ => ⟨rfl, rfl, rfl, rfl⟩⟩
  · exact ⟨[], [], 0, 0, .inr ⟨fun hh => hh.2.2 h, rfl, rfl, rfl, rfl, rfl⟩, fun e => by simp at e⟩
set_option maxRecDepth 100000 in
set_option maxHeartbeats 1600000 in
theorem playNumber_calls (s m n i : Int) (l r : Value) (L R X Y : List Sl) (mX : Int) (ok : Bool) (w : World) (hl : RdS w l L) (hr : RdS w r R) (o : okT s L R m) (hn : stOk n) (hi : kOk i) (h : PlTo s n i L R m X Y mX ok) :
    Calls Try.prog 73 #[.agg #[.int .i64 s, l, r, .int .i64 m], .int .i64 n, .int .i64 i] w fun e w' => ∃ X' Y' s' m' l' r', e = .returned (.tuple #[.agg #[.int .i64 s', l', r', .int .i64 m'], .bool ok]) ∧ TabV w' w.heap.size w'.heap.size l' r' X' Y' ∧ (ok = true → X' = X ∧ Y' = Y ∧ s' = s ∧ m' = mX) ∧ Below w.heap.size w w' := by
  obtain ⟨al, cl, rfl, _, _⟩ := hl.sl
  obtain ⟨ar, cr, rfl, _, _⟩ := hr.sl
  have RL := hide hl
  have RR := hide hr
  have A0 := hide (Hand.twoN w #[.int .i64 s, .slice al L.length cl, .slice ar R.length cr, .int .i64 m] nilT 28 28)
  obtain ⟨n0, n1⟩ := hn
  by_cases hneg : n < 0
  · obtain ⟨X', Y', s', m', hd, hE⟩ := h.dr o hneg n0
    have HD := hide hd
    have HE := hide hE
    clear hl hr hd hE o h hi
    go_enter Try.func73, Try.ntmps73
    go_wp2_with fail
    refine (dropKey_calls s m (-1 - n) _ _ L R X' Y' s' m' ok _ (RL.out.below A0.out.below) (RR.out.below A0.out.below) HD.out).mono ?_
    rintro e w1 ⟨l1, r1, rfl, d1, b1⟩
    obtain ⟨a1, c1, a2, c2, rfl, rfl⟩ := d1.sl
    have A1 := hide (A0.out.add b1 (TTab.st _ _ _ _) d1)
    clear d1 b1 A0
    obtain ⟨z0, z1, z2, z3⟩ := (A1.out.atBox 1 rfl).c4
    have y0 := (A1.out.atBox 1 rfl).frozen 0
    have y1 := (A1.out.atBox 1 rfl).frozen 1
    have y2 := (A1.out.atBox 1 rfl).frozen 2
    have y3 := (A1.out.atBox 1 rfl).frozen 3
    have A9 := hide (A1.out.store4 1 rfl (.int .i64 s') (.slice a1 X'.length c1) (.slice a2 Y'.length c2) (.int .i64 m'))
    clear A1
    go_wp2
    exact bodyPost_ret (res_tb2 rfl _ _ (w.heap.size + 1) _ _ _ _ (0, 0) rfl (A9.out.atBox 1 rfl)) rfl ⟨X', Y', s', m', _, _, rfl, A9.out.tab 0 rfl, HE.out, A9.out.below⟩
  · obtain ⟨X', Y', s', m', c, hd, hE⟩ := h.pk o (by omega) n1 hi
    have HD := hide hd
    have HE := hide hE
    clear hl hr hd hE o h hi
    go_enter Try.func73, Try.ntmps73
    go_wp2_with fail
    refine (putKey_calls s m n i _ _ L R X' Y' s' m' c ok _ (RL.out.below A0.out.below) (RR.out.below A0.out.below) HD.out).mono ?_
    rintro e w1 ⟨l1, r1, rfl, d1, b1⟩
    obtain ⟨a1, c1, a2, c2, rfl, rfl⟩ := d1.sl
    have A1 := hide ((A0.out.add b1 (TTab.st _ _ _ _) d1).box #[.int .i64 s', .slice a1 X'.length c1, .slice a2 Y'.length c2, .int .i64 m'] 28)
    clear d1 b1 A0
    obtain ⟨z0, z1, z2, z3⟩ := (A1.out.atBox 2 rfl).c4
    have y0 := (A1.out.atBox 2 rfl).frozen 0
    have y1 := (A1.out.atBox 2 rfl).frozen 1
    have y2 := (A1.out.atBox 2 rfl).frozen 2
    have y3 := (A1.out.atBox 2 rfl).frozen 3
    have A9 := hide (A1.out.store4 2 rfl (.int .i64 s') (.slice a1 X'.length c1) (.slice a2 Y'.length c2) (.int .i64 m'))
    clear A1
    go_wp2
    exact bodyPost_ret (res_tb2 rfl _ _ (w.heap.size + 1) _ _ _ _ (0, 0) rfl (A9.out.atBox 2 rfl)) rfl ⟨X', Y', s', m', _, _, rfl, A9.out.tab 1 rfl, HE.out, A9.out.below⟩
end Go.Proofs.Ytehjfjplajimfaa

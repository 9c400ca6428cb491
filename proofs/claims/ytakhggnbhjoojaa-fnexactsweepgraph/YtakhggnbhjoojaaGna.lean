/-
  Nodes and roots as they should be: what the program's and the model's functions tell of them, call by call. Each contract says what it asks.
-/
import Derived.Test.YtakhggnbhjoojaaNdf
namespace Go.Proofs.Ytakhggnbhjoojaa
open Go.RowKit
set_option linter.unusedVariables false

/-- A number that names a node below k that is not Gone. -/
abbrev okH (m : List Nd) (k : Nat) (x : Int) : Prop := 0 ≤ x ∧ x < (k : Int) ∧ (m.getD x.toNat nd0).2 = false
abbrev allH (m : List Nd) (k : Nat) (xs : List Int) : Prop := ∀ i, i < xs.length → okH m k (xs.getD i 0)
abbrev okN (m : List Nd) (k : Nat) (n : Nd) : Prop := allH m k n.1 ∧ n.1.length ≤ 6 ∧ (n.2 = true → n.1.length = 0)
abbrev okNs (m : List Nd) : Prop := ∀ k, k < m.length → okN m k (m.getD k nd0)
abbrev okG (m : List Nd) (rs : List Int) : Prop := (m.length ≤ 14 ∧ okNs m) ∧ rs.length ≤ 6 ∧ allH m m.length rs
theorem okH_take (m : List Nd) (k : Nat) (x : Int) (hk : k ≤ m.length) : okH (m.take k) (m.take k).length x ↔ okH m k x := by
  have hl : (m.take k).length = k := by simp; omega
  rw [hl]
  constructor
  · rintro ⟨h1, h2, h3⟩
    rw [getD_take m k _ nd0 (by omega)] at h3
    exact ⟨h1, h2, h3⟩
  · rintro ⟨h1, h2, h3⟩
    refine ⟨h1, h2, ?_⟩
    rw [getD_take m k _ nd0 (by omega)]
    exact h3
theorem okN_take (m : List Nd) (k : Nat) (n : Nd) (hk : k ≤ m.length) : okN (m.take k) (m.take k).length n ↔ okN m k n := by
  unfold okN allH
  simp only [okH_take m k _ hk]
theorem ret_bol {a b : Bool} (h : a = b) : Ending.returned (.bool a) = .returned (.bool b) := by rw [h]

set_option maxRecDepth 100000 in
set_option maxHeartbeats 800000 in
theorem hasNode_calls (v : Value) (m : List Nd) (x : Int) (w : World) (h : RdN w v m) :
    Calls Try.prog 90 #[v, .int .i64 x] w fun e w' => e = .returned (.bool (decide (okH m m.length x))) ∧ w = w' := by
  have R := hide h
  obtain ⟨a, cap, rfl, h1, h2, h3⟩ := h
  have hm : m.length ≤ maxLen := by omega
  unfold maxLen at hm
  clear h1 h2 h3
  by_cases h0 : 0 ≤ x
  case neg =>
    rw [decide_eq_false (fun h => h0 h.1)]
    have h0b : decide (0 ≤ x) = false := decide_eq_false h0
    go_enter Try.func90, Try.ntmps90
    go_wp2
    go_ret
    exact ⟨rfl, rfl⟩
  obtain ⟨n, rfl⟩ : ∃ n : Nat, x = (n : Int) := ⟨x.toNat, by omega⟩
  by_cases h1 : n < m.length
  case neg =>
    rw [decide_eq_false (fun h => h1 (by have := h.2.1; omega))]
    have h1b : decide ((n : Int) < (m.length : Int)) = false := decide_eq_false (by omega)
    go_enter Try.func90, Try.ntmps90
    go_wp2
    go_ret
    exact ⟨rfl, rfl⟩
  obtain ⟨b, off, u, ks, z, rfl, hx, hu, c0, c1⟩ := R.out.at n h1
  have E : Hid ((!z) = decide (okH m m.length (n : Int))) := by
    show _ = _
    unfold okH
    rw [Int.toNat_natCast, hx]
    cases z <;> simp [h1]
  have h1' : (n : Int) < (m.length : Int) := by omega
  clear hx hu c0
  go_enter Try.func90, Try.ntmps90
  go_wp2
  go_ret
  exact ⟨ret_bol E.out, rfl⟩

set_option maxRecDepth 100000 in
theorem isLess_calls (v : Value) (m : List Nd) (x : Int) (B : Nat) (w : World) (h : RdN w v m) (hB : w.cell? ⟨B, 0, none⟩ = some v) :
    Calls Try.prog 138 #[.int .i64 x, .pointer (some ⟨B, 0, none⟩)] w fun e w' => e = .returned (.bool (decide (okH m m.length x))) ∧ w = w' := by
  have R := hide h
  obtain ⟨a, cap, rfl, _, _, _⟩ := h
  obtain ⟨y, hy⟩ : ∃ y, decide (okH m m.length x) = y := ⟨_, rfl⟩
  rw [hy]
  have HY := hide hy
  clear hy
  go_enter Try.func138, Try.ntmps138
  go_wp2_with fail
  refine (hasNode_calls _ m x _ R.out).mono ?_
  rintro e w1 ⟨rfl, rfl⟩
  rw [HY.out]
  go_wp2
  go_ret
  exact ⟨rfl, rfl⟩

set_option maxRecDepth 100000 in
set_option maxHeartbeats 400000 in
theorem allisLess_calls (v u : Value) (xs : List Int) (m : List Nd) (B : Nat) (w : World) (h : Rd w v xs) (hu : RdN w u m) (hB : w.cell? ⟨B, 0, none⟩ = some u) :
    Calls Try.prog 121 #[v, .func (.func 138) #[] #[.pointer (some ⟨B, 0, none⟩)]] w fun e w' => e = .returned (.bool (decide (allH m m.length xs))) ∧ w = w' := by
  obtain ⟨a, cap, rfl, h1, h2, h3⟩ := h
  have hm : xs.length ≤ maxLen := by omega
  unfold maxLen at hm
  have H3 := hide h3
  have HB := hide hB
  have HU := hide hu
  clear h3 h2 h1 hB hu
  go_enter Try.func121, Try.ntmps121
  go_wp2
  go_loop [9] (fun vi => ∃ k : Nat, k ≤ xs.length ∧ vi = .int .i64 k ∧ ∀ i, i < k → okH m m.length (xs.getD i 0)) (fun vi => xs.length - (intOf vi).toNat)
  case atStart => exact ⟨0, Nat.zero_le _, rfl, fun i hi => by omega⟩
  case round =>
    obtain ⟨k, hk, rfl, hall⟩ := hrel
    have HA := hide hall
    clear hall
    by_cases hlt : k < xs.length
    · rcases H3.out with h3 | ⟨b, off, rfl, hbs, hc⟩
      · subst h3; simp at hlt
      have hc1 := hc k hlt
      clear hc
      obtain ⟨z, hzz⟩ : ∃ z, z = xs.getD k 0 := ⟨_, rfl⟩
      rw [← hzz] at hc1
      have HZ := hide hzz
      have hlt' : (k : Int) < (xs.length : Int) := by omega
      clear hzz
      go_wp2_with fail
      refine (isLess_calls _ m z B _ HU.out HB.out).mono ?_
      rintro e w1 ⟨rfl, rfl⟩
      by_cases h16 : okH m m.length z
      · rw [decide_eq_true h16]
        have H16 := hide h16
        clear h16
        go_wp2
        go_round
        case rel =>
          refine ⟨k + 1, by omega, by go_num, fun i hi => ?_⟩
          by_cases e : i = k
          · subst e; rw [← HZ.out]; exact H16.out
          · exact HA.out i (by omega)
        case measure => simp [intOf]; omega
      · rw [decide_eq_false h16]
        have H16 := hide h16
        clear h16
        go_wp2
        go_ret
        refine ⟨ret_bol ?_, rfl⟩
        symm
        exact decide_eq_false (fun h => H16.out (by rw [HZ.out]; exact h k hlt))
    · obtain rfl : k = xs.length := by omega
      go_wp2
      go_ret
      exact ⟨ret_bol (decide_eq_true HA.out).symm, rfl⟩

set_option maxRecDepth 100000 in
theorem isNode_calls (v : Value) (m : List Nd) (x : Int) (B : Nat) (w : World) (h : RdN w v m) (hB : w.cell? ⟨B, 0, none⟩ = some v) :
    Calls Try.prog 120 #[.int .i64 x, .pointer (some ⟨B, 0, none⟩)] w fun e w' => e = .returned (.bool (decide (okH m m.length x))) ∧ w = w' := by
  have R := hide h
  obtain ⟨a, cap, rfl, _, _, _⟩ := h
  obtain ⟨y, hy⟩ : ∃ y, decide (okH m m.length x) = y := ⟨_, rfl⟩
  rw [hy]
  have HY := hide hy
  clear hy
  go_enter Try.func120, Try.ntmps120
  go_wp2_with fail
  refine (hasNode_calls _ m x _ R.out).mono ?_
  rintro e w1 ⟨rfl, rfl⟩
  rw [HY.out]
  go_wp2
  go_ret
  exact ⟨rfl, rfl⟩

set_option maxRecDepth 100000 in
set_option maxHeartbeats 400000 in
theorem allisNode_calls (v u : Value) (xs : List Int) (m : List Nd) (B : Nat) (w : World) (h : Rd w v xs) (hu : RdN w u m) (hB : w.cell? ⟨B, 0, none⟩ = some u) :
    Calls Try.prog 121 #[v, .func (.func 120) #[] #[.pointer (some ⟨B, 0, none⟩)]] w fun e w' => e = .returned (.bool (decide (allH m m.length xs))) ∧ w = w' := by
  obtain ⟨a, cap, rfl, h1, h2, h3⟩ := h
  have hm : xs.length ≤ maxLen := by omega
  unfold maxLen at hm
  have H3 := hide h3
  have HB := hide hB
  have HU := hide hu
  clear h3 h2 h1 hB hu
  go_enter Try.func121, Try.ntmps121
  go_wp2
  go_loop [9] (fun vi => ∃ k : Nat, k ≤ xs.length ∧ vi = .int .i64 k ∧ ∀ i, i < k → okH m m.length (xs.getD i 0)) (fun vi => xs.length - (intOf vi).toNat)
  case atStart => exact ⟨0, Nat.zero_le _, rfl, fun i hi => by omega⟩
  case round =>
    obtain ⟨k, hk, rfl, hall⟩ := hrel
    have HA := hide hall
    clear hall
    by_cases hlt : k < xs.length
    · rcases H3.out with h3 | ⟨b, off, rfl, hbs, hc⟩
      · subst h3; simp at hlt
      have hc1 := hc k hlt
      clear hc
      obtain ⟨z, hzz⟩ : ∃ z, z = xs.getD k 0 := ⟨_, rfl⟩
      rw [← hzz] at hc1
      have HZ := hide hzz
      have hlt' : (k : Int) < (xs.length : Int) := by omega
      clear hzz
      go_wp2_with fail
      refine (isNode_calls _ m z B _ HU.out HB.out).mono ?_
      rintro e w1 ⟨rfl, rfl⟩
      by_cases h16 : okH m m.length z
      · rw [decide_eq_true h16]
        have H16 := hide h16
        clear h16
        go_wp2
        go_round
        case rel =>
          refine ⟨k + 1, by omega, by go_num, fun i hi => ?_⟩
          by_cases e : i = k
          · subst e; rw [← HZ.out]; exact H16.out
          · exact HA.out i (by omega)
        case measure => simp [intOf]; omega
      · rw [decide_eq_false h16]
        have H16 := hide h16
        clear h16
        go_wp2
        go_ret
        refine ⟨ret_bol ?_, rfl⟩
        symm
        exact decide_eq_false (fun h => H16.out (by rw [HZ.out]; exact h k hlt))
    · obtain rfl : k = xs.length := by omega
      go_wp2
      go_ret
      exact ⟨ret_bol (decide_eq_true HA.out).symm, rfl⟩

set_option maxRecDepth 100000 in
set_option maxHeartbeats 800000 in
theorem isNodeBehind_calls (v u : Value) (m : List Nd) (ks : List Int) (z : Bool) (w : World) (h : RdN w v m) (hu : Rd w u ks) :
    Calls Try.prog 119 #[v, .agg #[u, .bool z]] w fun e w' => e = .returned (.bool (decide (okN m m.length (ks, z)))) ∧ Below w.heap.size w w' := by
  have b0 := (below_box w (.cells #[v] 25)).trans ((below_box (w.alloc (.cells #[v] 25)) (.cells #[u, .bool z] 84)).mono (by simp))
  have R := hide (h.below b0)
  have U := hide (hu.below b0)
  have X1 : Hid (BoxAt ((w.alloc (.cells #[v] 25)).alloc (.cells #[u, .bool z] 84)) w.heap.size #[v] 25) := BoxAt.below (BoxAt.new w _ _) (below_box _ _)
  have B0 := hide b0
  obtain ⟨a, cap, rfl, _, _, _⟩ := h
  obtain ⟨ua, uc, rfl, hul, hum⟩ := hu.slc
  unfold maxLen at hum
  clear b0 hu
  cases z with
  | true =>
    by_cases h0 : ks.length = 0
    · have E : okN m m.length (ks, true) := ⟨fun i hi => by simp only at hi; omega, by simp only; omega, fun _ => h0⟩
      rw [decide_eq_true E]
      have hk : ks = [] := List.eq_nil_of_length_eq_zero h0
      subst hk
      clear E h0
      go_enter Try.func119, Try.ntmps119
      go_wp2
      go_ret
      exact ⟨ret_bol (by simp), by simpa using B0.out⟩
    · rw [decide_eq_false (fun h => h0 (h.2.2 rfl))]
      have h0' : ¬ (ks.length : Int) = 0 := by omega
      go_enter Try.func119, Try.ntmps119
      go_wp2
      go_ret
      exact ⟨ret_bol (by simp [h0]), B0.out⟩
  | false =>
    by_cases h6 : ks.length ≤ 6
    · have E : Hid (decide (allH m m.length ks) = decide (okN m m.length (ks, false))) := by
        show _ = _
        exact decide_eq_decide.2 ⟨fun h => ⟨h, h6, fun e => by simp at e⟩, fun h => h.1⟩
      have h6' : (ks.length : Int) ≤ 6 := by omega
      generalize decide (okN m m.length (ks, false)) = y at E ⊢
      go_enter Try.func119, Try.ntmps119
      go_wp2_with fail
      refine (allisLess_calls _ _ ks m w.heap.size _ U.out R.out (X1.out.cell 0)).mono ?_
      rintro e w1 ⟨rfl, rfl⟩
      rw [E.out]
      go_wp2
      go_ret
      exact ⟨rfl, B0.out⟩
    · rw [decide_eq_false (fun h => h6 h.2.1)]
      have h6b : decide ((ks.length : Int) ≤ 6) = false := decide_eq_false (by omega)
      go_enter Try.func119, Try.ntmps119
      go_wp2
      go_ret
      exact ⟨rfl, B0.out⟩

set_option maxRecDepth 100000 in
set_option maxHeartbeats 800000 in
theorem areRoots_calls (v u : Value) (m : List Nd) (rs : List Int) (w : World) (h : RdN w v m) (hu : Rd w u rs) :
    Calls Try.prog 82 #[v, u] w fun e w' => e = .returned (.bool (decide (rs.length ≤ 6 ∧ allH m m.length rs))) ∧ Below w.heap.size w w' := by
  have b0 := below_box w (.cells #[v] 25)
  have R := hide (h.below b0)
  have U := hide (hu.below b0)
  have X1 : Hid (BoxAt (w.alloc (.cells #[v] 25)) w.heap.size #[v] 25) := BoxAt.new w _ _
  have B0 := hide b0
  obtain ⟨a, cap, rfl, _, _, _⟩ := h
  obtain ⟨ua, uc, rfl, hul, hum⟩ := hu.slc
  unfold maxLen at hum
  clear b0 hu
  by_cases h6 : rs.length ≤ 6
  · have E : Hid (decide (allH m m.length rs) = decide (rs.length ≤ 6 ∧ allH m m.length rs)) := by
      show _ = _
      exact decide_eq_decide.2 ⟨fun h => ⟨h6, h⟩, fun h => h.2⟩
    have h6' : (rs.length : Int) ≤ 6 := by omega
    generalize decide (rs.length ≤ 6 ∧ allH m m.length rs) = y at E ⊢
    go_enter Try.func82, Try.ntmps82
    go_wp2_with fail
    refine (allisNode_calls _ _ rs m w.heap.size _ U.out R.out (X1.out.cell 0)).mono ?_
    rintro e w1 ⟨rfl, rfl⟩
    rw [E.out]
    go_wp2
    go_ret
    exact ⟨rfl, B0.out⟩
  · rw [decide_eq_false (fun h => h6 h.1)]
    have h6b : decide ((rs.length : Int) ≤ 6) = false := decide_eq_false (by omega)
    go_enter Try.func82, Try.ntmps82
    go_wp2
    go_ret
    exact ⟨rfl, B0.out⟩
end Go.Proofs.Ytakhggnbhjoojaa

/-
  Pools as they should be: what the program's GoodPool and the model's tell, call by call. Each contract says what it asks.
-/
import Derived.Test.YthmijjcddjlebaaBrb
namespace Go.Proofs.Ythmijjcddjlebaa
open Go.RowKit
set_option linter.unusedVariables false

/-- A number that names a branch below k that is a leaf, or none (t). -/
abbrev okL (m : List Nd) (k : Nat) (x : Int) (t : Bool) : Prop := 0 ≤ x ∧ x < (k : Int) ∧ (m.getD x.toNat nd0).2 = t
/-- The same, or -1. -/
abbrev kB (t : Bool) (m : List Nd) (k : Nat) (x : Int) : Prop := x = -1 ∨ okL m k x t
abbrev vOk (x : Int) : Prop := 0 ≤ x ∧ x ≤ 9999
/-- A kid of a leaf (z), or of another branch. -/
abbrev tK (m : List Nd) (k : Nat) (z : Bool) (x : Int) : Prop := (z = true → vOk x) ∧ (z = false → kB true m k x)
abbrev okB (m : List Nd) (k : Nat) (n : Nd) : Prop := n.1.length = 4 ∧ ∀ i, i < n.1.length → tK m k n.2 (n.1.getD i 0)
abbrev okP (m : List Nd) (vs : List Int) : Prop := (m.length ≤ 200 ∧ vs.length ≤ 40) ∧ (∀ k, k < m.length → okB m k (m.getD k nd0)) ∧ ∀ i, i < vs.length → kB false m m.length (vs.getD i 0)
theorem okL_take (m : List Nd) (k : Nat) (x : Int) (t : Bool) (hk : k ≤ m.length) : okL (m.take k) (m.take k).length x t ↔ okL m k x t := by
  have hl : (m.take k).length = k := by simp; omega
  rw [hl]
  constructor
  · rintro ⟨h1, h2, h3⟩
    rw [getD_take m k _ nd0 (by omega)] at h3
    exact ⟨h1, h2, h3⟩
  · rintro ⟨h1, h2, h3⟩
    refine ⟨h1, h2, ?_⟩
    rw [getD_take m k _ nd0 (by omega)]
    exact h3
theorem okB_take (m : List Nd) (k : Nat) (n : Nd) (hk : k ≤ m.length) : okB (m.take k) (m.take k).length n ↔ okB m k n := by
  unfold okB tK kB
  simp only [okL_take m k _ _ hk]
theorem okP_bol (m : List Nd) (vs : List Int) : ∃ g : Bool, g = true ↔ okP m vs := by
  rcases Classical.em (okP m vs) with h | h
  · exact ⟨true, fun _ => h, fun _ => rfl⟩
  · exact ⟨false, fun e => by simp at e, fun e => absurd e h⟩
theorem ret_bolP {a b : Bool} (h : a = b) : Ending.returned (.bool a) = .returned (.bool b) := by rw [h]

set_option maxRecDepth 100000 in
set_option maxHeartbeats 800000 in
theorem isLeafIn_calls (v : Value) (m : List Nd) (x : Int) (w : World) (h : RdN w v m) :
    Calls Try.prog 134 #[v, .int .i64 x] w fun e w' => e = .returned (.bool (decide (okL m m.length x true))) ∧ w = w' := by
  have R := hide h
  obtain ⟨a, cap, rfl, h1, h2, h3⟩ := h
  have hm : m.length ≤ maxLen := by omega
  unfold maxLen at hm
  clear h1 h2 h3
  by_cases h0 : 0 ≤ x
  case neg =>
    rw [decide_eq_false (fun h => h0 h.1)]
    have h0b : decide (0 ≤ x) = false := decide_eq_false h0
    go_enter Try.func134, Try.ntmps134
    go_wp2
    go_ret
    exact ⟨rfl, rfl⟩
  obtain ⟨n, rfl⟩ : ∃ n : Nat, x = (n : Int) := ⟨x.toNat, by omega⟩
  by_cases h1 : n < m.length
  case neg =>
    rw [decide_eq_false (fun h => h1 (by have := h.2.1; omega))]
    have h1b : decide ((n : Int) < (m.length : Int)) = false := decide_eq_false (by omega)
    go_enter Try.func134, Try.ntmps134
    go_wp2
    go_ret
    exact ⟨rfl, rfl⟩
  obtain ⟨b, off, u, ks, z, rfl, hx, hu, c0, c1⟩ := R.out.at n h1
  have E : Hid (z = decide (okL m m.length (n : Int) true)) := by
    show _ = _
    unfold okL
    rw [Int.toNat_natCast, hx]
    cases z <;> simp [h1]
  have h1' : (n : Int) < (m.length : Int) := by omega
  clear hx hu c0
  go_enter Try.func134, Try.ntmps134
  go_wp2
  go_ret
  exact ⟨ret_bolP E.out, rfl⟩

set_option maxRecDepth 100000 in
theorem isKid_calls (v : Value) (m : List Nd) (x : Int) (B : Nat) (w : World) (h : RdN w v m) (hB : w.cell? ⟨B, 0, none⟩ = some v) :
    Calls Try.prog 133 #[.int .i64 x, .pointer (some ⟨B, 0, none⟩)] w fun e w' => e = .returned (.bool (decide (kB true m m.length x))) ∧ w = w' := by
  have R := hide h
  obtain ⟨a, cap, rfl, _, _, _⟩ := h
  by_cases h1 : x = -1
  · rw [decide_eq_true (.inl h1)]
    subst h1
    go_enter Try.func133, Try.ntmps133
    go_wp2
    go_ret
    exact ⟨rfl, rfl⟩
  obtain ⟨y, hy⟩ : ∃ y, decide (okL m m.length x true) = y := ⟨_, rfl⟩
  have e : decide (kB true m m.length x) = y := by
    rw [← hy]
    exact decide_eq_decide.2 ⟨fun h => h.resolve_left h1, fun h => .inr h⟩
  rw [e]
  have HY := hide hy
  clear hy e
  go_enter Try.func133, Try.ntmps133
  go_wp2_with fail
  refine (isLeafIn_calls _ m x _ R.out).mono ?_
  rintro e w1 ⟨rfl, rfl⟩
  rw [HY.out]
  go_wp2
  go_ret
  exact ⟨ret_bolP (by simp [h1]), rfl⟩

set_option maxRecDepth 100000 in
set_option maxHeartbeats 400000 in
theorem allisKid_calls (v u : Value) (xs : List Int) (m : List Nd) (B : Nat) (w : World) (h : Rd w v xs) (hu : RdN w u m) (hB : w.cell? ⟨B, 0, none⟩ = some u) :
    Calls Try.prog 87 #[v, .func (.func 133) #[] #[.pointer (some ⟨B, 0, none⟩)]] w fun e w' => e = .returned (.bool (decide (∀ i, i < xs.length → kB true m m.length (xs.getD i 0)))) ∧ w = w' := by
  obtain ⟨a, cap, rfl, h1, h2, h3⟩ := h
  have hm : xs.length ≤ maxLen := by omega
  unfold maxLen at hm
  have H3 := hide h3
  have HB := hide hB
  have HU := hide hu
  clear hB hu
  clear h3 h2 h1
  go_enter Try.func87, Try.ntmps87
  go_wp2
  go_loop [9] (fun vi => ∃ k : Nat, k ≤ xs.length ∧ vi = .int .i64 k ∧ ∀ i, i < k → kB true m m.length (xs.getD i 0)) (fun vi => xs.length - (intOf vi).toNat)
  case atStart => exact ⟨0, Nat.zero_le _, rfl, fun i hi => by omega⟩
  case round =>
    obtain ⟨k, hk, rfl, hall⟩ := hrel
    have HA := hide hall
    clear hall
    by_cases hlt : k < xs.length
    · rcases H3.out with h3 | ⟨b, off, rfl, hbs, hc⟩
      · subst h3; simp at hlt
      have hc1 := hc k hlt
      clear hc
      obtain ⟨z, hzz⟩ : ∃ z, z = xs.getD k 0 := ⟨_, rfl⟩
      rw [← hzz] at hc1
      have HZ := hide hzz
      have hlt' : (k : Int) < (xs.length : Int) := by omega
      clear hzz
      go_wp2_with fail
      refine (isKid_calls _ m z B _ HU.out HB.out).mono ?_
      rintro e w1 ⟨rfl, rfl⟩
      by_cases h16 : kB true m m.length z
      · rw [decide_eq_true h16]
        have H16 := hide h16
        clear h16
        go_wp2
        go_round
        case rel =>
          refine ⟨k + 1, by omega, by go_num, fun i hi => ?_⟩
          by_cases e : i = k
          · subst e; rw [← HZ.out]; exact H16.out
          · exact HA.out i (by omega)
        case measure => simp [intOf]; omega
      · rw [decide_eq_false h16]
        have H16 := hide h16
        clear h16
        go_wp2
        go_ret
        refine ⟨ret_bolP ?_, rfl⟩
        symm
        exact decide_eq_false (fun h => H16.out (by rw [HZ.out]; exact h k hlt))
    · obtain rfl : k = xs.length := by omega
      go_wp2
      go_ret
      exact ⟨ret_bolP (decide_eq_true HA.out).symm, rfl⟩

set_option maxRecDepth 100000 in
set_option maxHeartbeats 800000 in
theorem isStemIn_calls (v : Value) (m : List Nd) (x : Int) (w : World) (h : RdN w v m) :
    Calls Try.prog 86 #[v, .int .i64 x] w fun e w' => e = .returned (.bool (decide (okL m m.length x false))) ∧ w = w' := by
  have R := hide h
  obtain ⟨a, cap, rfl, h1, h2, h3⟩ := h
  have hm : m.length ≤ maxLen := by omega
  unfold maxLen at hm
  clear h1 h2 h3
  by_cases h0 : 0 ≤ x
  case neg =>
    rw [decide_eq_false (fun h => h0 h.1)]
    have h0b : decide (0 ≤ x) = false := decide_eq_false h0
    go_enter Try.func86, Try.ntmps86
    go_wp2
    go_ret
    exact ⟨rfl, rfl⟩
  obtain ⟨n, rfl⟩ : ∃ n : Nat, x = (n : Int) := ⟨x.toNat, by omega⟩
  by_cases h1 : n < m.length
  case neg =>
    rw [decide_eq_false (fun h => h1 (by have := h.2.1; omega))]
    have h1b : decide ((n : Int) < (m.length : Int)) = false := decide_eq_false (by omega)
    go_enter Try.func86, Try.ntmps86
    go_wp2
    go_ret
    exact ⟨rfl, rfl⟩
  obtain ⟨b, off, u, ks, z, rfl, hx, hu, c0, c1⟩ := R.out.at n h1
  have E : Hid ((!z) = decide (okL m m.length (n : Int) false)) := by
    show _ = _
    unfold okL
    rw [Int.toNat_natCast, hx]
    cases z <;> simp [h1]
  have h1' : (n : Int) < (m.length : Int) := by omega
  clear hx hu c0
  go_enter Try.func86, Try.ntmps86
  go_wp2
  go_ret
  exact ⟨ret_bolP E.out, rfl⟩

set_option maxRecDepth 100000 in
theorem isVersion_calls (v : Value) (m : List Nd) (x : Int) (B : Nat) (w : World) (h : RdN w v m) (hB : w.cell? ⟨B, 0, none⟩ = some v) :
    Calls Try.prog 85 #[.int .i64 x, .pointer (some ⟨B, 0, none⟩)] w fun e w' => e = .returned (.bool (decide (kB false m m.length x))) ∧ w = w' := by
  have R := hide h
  obtain ⟨a, cap, rfl, _, _, _⟩ := h
  by_cases h1 : x = -1
  · rw [decide_eq_true (.inl h1)]
    subst h1
    go_enter Try.func85, Try.ntmps85
    go_wp2
    go_ret
    exact ⟨rfl, rfl⟩
  obtain ⟨y, hy⟩ : ∃ y, decide (okL m m.length x false) = y := ⟨_, rfl⟩
  have e : decide (kB false m m.length x) = y := by
    rw [← hy]
    exact decide_eq_decide.2 ⟨fun h => h.resolve_left h1, fun h => .inr h⟩
  rw [e]
  have HY := hide hy
  clear hy e
  go_enter Try.func85, Try.ntmps85
  go_wp2_with fail
  refine (isStemIn_calls _ m x _ R.out).mono ?_
  rintro e w1 ⟨rfl, rfl⟩
  rw [HY.out]
  go_wp2
  go_ret
  exact ⟨ret_bolP (by simp [h1]), rfl⟩

set_option maxRecDepth 100000 in
set_option maxHeartbeats 400000 in
theorem allisVersion_calls (v u : Value) (xs : List Int) (m : List Nd) (B : Nat) (w : World) (h : Rd w v xs) (hu : RdN w u m) (hB : w.cell? ⟨B, 0, none⟩ = some u) :
    Calls Try.prog 87 #[v, .func (.func 85) #[] #[.pointer (some ⟨B, 0, none⟩)]] w fun e w' => e = .returned (.bool (decide (∀ i, i < xs.length → kB false m m.length (xs.getD i 0)))) ∧ w = w' := by
  obtain ⟨a, cap, rfl, h1, h2, h3⟩ := h
  have hm : xs.length ≤ maxLen := by omega
  unfold maxLen at hm
  have H3 := hide h3
  have HB := hide hB
  have HU := hide hu
  clear hB hu
  clear h3 h2 h1
  go_enter Try.func87, Try.ntmps87
  go_wp2
  go_loop [9] (fun vi => ∃ k : Nat, k ≤ xs.length ∧ vi = .int .i64 k ∧ ∀ i, i < k → kB false m m.length (xs.getD i 0)) (fun vi => xs.length - (intOf vi).toNat)
  case atStart => exact ⟨0, Nat.zero_le _, rfl, fun i hi => by omega⟩
  case round =>
    obtain ⟨k, hk, rfl, hall⟩ := hrel
    have HA := hide hall
    clear hall
    by_cases hlt : k < xs.length
    · rcases H3.out with h3 | ⟨b, off, rfl, hbs, hc⟩
      · subst h3; simp at hlt
      have hc1 := hc k hlt
      clear hc
      obtain ⟨z, hzz⟩ : ∃ z, z = xs.getD k 0 := ⟨_, rfl⟩
      rw [← hzz] at hc1
      have HZ := hide hzz
      have hlt' : (k : Int) < (xs.length : Int) := by omega
      clear hzz
      go_wp2_with fail
      refine (isVersion_calls _ m z B _ HU.out HB.out).mono ?_
      rintro e w1 ⟨rfl, rfl⟩
      by_cases h16 : kB false m m.length z
      · rw [decide_eq_true h16]
        have H16 := hide h16
        clear h16
        go_wp2
        go_round
        case rel =>
          refine ⟨k + 1, by omega, by go_num, fun i hi => ?_⟩
          by_cases e : i = k
          · subst e; rw [← HZ.out]; exact H16.out
          · exact HA.out i (by omega)
        case measure => simp [intOf]; omega
      · rw [decide_eq_false h16]
        have H16 := hide h16
        clear h16
        go_wp2
        go_ret
        refine ⟨ret_bolP ?_, rfl⟩
        symm
        exact decide_eq_false (fun h => H16.out (by rw [HZ.out]; exact h k hlt))
    · obtain rfl : k = xs.length := by omega
      go_wp2
      go_ret
      exact ⟨ret_bolP (decide_eq_true HA.out).symm, rfl⟩

set_option maxRecDepth 100000 in
theorem isMapValue_calls (x : Int) (w : World) :
    Calls Try.prog 96 #[.int .i64 x] w fun e w' => e = .returned (.bool (decide (vOk x))) ∧ w = w' := by
  by_cases h0 : 0 ≤ x
  · by_cases h1 : x ≤ 9999
    · rw [decide_eq_true ⟨h0, h1⟩]
      go_enter Try.func96, Try.ntmps96
      go_wp2
      go_ret
      exact ⟨ret_bolP (by simp), rfl⟩
    · rw [decide_eq_false (fun h => h1 h.2)]
      go_enter Try.func96, Try.ntmps96
      go_wp2
      go_ret
      exact ⟨ret_bolP (by simp), rfl⟩
  · rw [decide_eq_false (fun h => h0 h.1)]
    have h0b : decide (0 ≤ x) = false := decide_eq_false h0
    go_enter Try.func96, Try.ntmps96
    go_wp2
    go_ret
    exact ⟨rfl, rfl⟩

set_option maxRecDepth 100000 in
set_option maxHeartbeats 400000 in
theorem allisMapValue_calls (v : Value) (xs : List Int) (w : World) (h : Rd w v xs) :
    Calls Try.prog 87 #[v, .func (.func 96) #[] #[]] w fun e w' => e = .returned (.bool (decide (∀ i, i < xs.length → vOk (xs.getD i 0)))) ∧ w = w' := by
  obtain ⟨a, cap, rfl, h1, h2, h3⟩ := h
  have hm : xs.length ≤ maxLen := by omega
  unfold maxLen at hm
  have H3 := hide h3
  skip
  clear h3 h2 h1
  go_enter Try.func87, Try.ntmps87
  go_wp2
  go_loop [9] (fun vi => ∃ k : Nat, k ≤ xs.length ∧ vi = .int .i64 k ∧ ∀ i, i < k → vOk (xs.getD i 0)) (fun vi => xs.length - (intOf vi).toNat)
  case atStart => exact ⟨0, Nat.zero_le _, rfl, fun i hi => by omega⟩
  case round =>
    obtain ⟨k, hk, rfl, hall⟩ := hrel
    have HA := hide hall
    clear hall
    by_cases hlt : k < xs.length
    · rcases H3.out with h3 | ⟨b, off, rfl, hbs, hc⟩
      · subst h3; simp at hlt
      have hc1 := hc k hlt
      clear hc
      obtain ⟨z, hzz⟩ : ∃ z, z = xs.getD k 0 := ⟨_, rfl⟩
      rw [← hzz] at hc1
      have HZ := hide hzz
      have hlt' : (k : Int) < (xs.length : Int) := by omega
      clear hzz
      go_wp2_with fail
      refine (isMapValue_calls z _).mono ?_
      rintro e w1 ⟨rfl, rfl⟩
      by_cases h16 : vOk z
      · rw [decide_eq_true h16]
        have H16 := hide h16
        clear h16
        go_wp2
        go_round
        case rel =>
          refine ⟨k + 1, by omega, by go_num, fun i hi => ?_⟩
          by_cases e : i = k
          · subst e; rw [← HZ.out]; exact H16.out
          · exact HA.out i (by omega)
        case measure => simp [intOf]; omega
      · rw [decide_eq_false h16]
        have H16 := hide h16
        clear h16
        go_wp2
        go_ret
        refine ⟨ret_bolP ?_, rfl⟩
        symm
        exact decide_eq_false (fun h => H16.out (by rw [HZ.out]; exact h k hlt))
    · obtain rfl : k = xs.length := by omega
      go_wp2
      go_ret
      exact ⟨ret_bolP (decide_eq_true HA.out).symm, rfl⟩

set_option maxRecDepth 100000 in
set_option maxHeartbeats 800000 in
theorem isBranchBehind_calls (v u : Value) (m : List Nd) (ks : List Int) (z : Bool) (w : World) (h : RdN w v m) (hu : Rd w u ks) :
    Calls Try.prog 84 #[v, .agg #[u, .bool z]] w fun e w' => e = .returned (.bool (decide (okB m m.length (ks, z)))) ∧ Below w.heap.size w w' := by
  have b0 := (below_box w (.cells #[v] 40)).trans ((below_box (w.alloc (.cells #[v] 40)) (.cells #[u, .bool z] 104)).mono (by simp))
  have R := hide (h.below b0)
  have U := hide (hu.below b0)
  have X1 : Hid (BoxAt ((w.alloc (.cells #[v] 40)).alloc (.cells #[u, .bool z] 104)) w.heap.size #[v] 40) := BoxAt.below (BoxAt.new w _ _) (below_box _ _)
  have B0 := hide b0
  obtain ⟨a, cap, rfl, _, _, _⟩ := h
  obtain ⟨ua, uc, rfl, hul, hum⟩ := hu.slc
  unfold maxLen at hum
  clear b0 hu
  by_cases h4 : ks.length = 4
  case neg =>
    rw [decide_eq_false (fun h => h4 h.1)]
    have h4' : ¬ (ks.length : Int) = 4 := by omega
    go_enter Try.func84, Try.ntmps84
    go_wp2
    go_ret
    exact ⟨rfl, B0.out⟩
  have h4' : (ks.length : Int) = 4 := by omega
  cases z with
  | true =>
    have E : Hid (decide (∀ i, i < ks.length → vOk (ks.getD i 0)) = decide (okB m m.length (ks, true))) := by
      show _ = _
      exact decide_eq_decide.2 ⟨fun h => ⟨h4, fun i hi => ⟨fun _ => h i hi, fun e => by simp at e⟩⟩, fun h i hi => (h.2 i hi).1 rfl⟩
    generalize decide (okB m m.length (ks, true)) = y at E ⊢
    have H4 := hide h4
    clear h4
    go_enter Try.func84, Try.ntmps84
    go_wp2_with fail
    refine (allisMapValue_calls _ ks _ U.out).mono ?_
    rintro e w1 ⟨rfl, rfl⟩
    rw [E.out]
    go_wp2
    go_ret
    exact ⟨rfl, B0.out⟩
  | false =>
    have E : Hid (decide (∀ i, i < ks.length → kB true m m.length (ks.getD i 0)) = decide (okB m m.length (ks, false))) := by
      show _ = _
      exact decide_eq_decide.2 ⟨fun h => ⟨h4, fun i hi => ⟨fun e => by simp at e, fun _ => h i hi⟩⟩, fun h i hi => (h.2 i hi).2 rfl⟩
    generalize decide (okB m m.length (ks, false)) = y at E ⊢
    have H4 := hide h4
    clear h4
    go_enter Try.func84, Try.ntmps84
    go_wp2_with fail
    refine (allisKid_calls _ _ ks m w.heap.size _ U.out R.out (X1.out.cell 0)).mono ?_
    rintro e w1 ⟨rfl, rfl⟩
    rw [E.out]
    go_wp2
    go_ret
    exact ⟨rfl, B0.out⟩

set_option maxRecDepth 100000 in
set_option maxHeartbeats 1600000 in
theorem goodPool_calls (p r : Value) (m : List Nd) (vs : List Int) (g : Bool) (w : World) (h : RdP w p r m vs) (hg : g = true ↔ okP m vs) :
    Calls Try.prog 34 #[.agg #[p, r]] w fun e w' => e = .returned (.bool g) ∧ Below w.heap.size w w' := by
  have HG := hide hg
  clear hg
  have b0 := below_box w (.cells #[p, r] 43)
  have R := hide (h.below b0)
  have X0 : Hid (BoxAt (w.alloc (.cells #[p, r] 43)) w.heap.size #[p, r] 43) := BoxAt.new w _ _
  have B0 := hide b0
  obtain ⟨⟨a, cap, rfl, h1, h2, h3⟩, hr⟩ := h
  obtain ⟨ra, rc, rfl, hr1, hr2⟩ := hr.slc
  have hm : m.length ≤ maxLen := by omega
  have hcap : cap ≤ maxLen := h2.1
  unfold maxLen at hm hcap hr2
  clear h2 h3 b0 hr
  by_cases h200 : m.length ≤ 200
  case neg =>
    obtain rfl : g = false := by cases g with | false => rfl | true => exact absurd (HG.out.1 rfl).1.1 h200
    have h200' : (200 : Int) < (m.length : Int) := by omega
    go_enter Try.func34, Try.ntmps34
    go_wp2
    go_ret
    exact ⟨rfl, B0.out⟩
  have h200' : ¬ (200 : Int) < (m.length : Int) := by omega
  by_cases h40 : vs.length ≤ 40
  case neg =>
    obtain rfl : g = false := by cases g with | false => rfl | true => exact absurd (HG.out.1 rfl).1.2 h40
    have h40' : (40 : Int) < (vs.length : Int) := by omega
    go_enter Try.func34, Try.ntmps34
    go_wp2
    go_ret
    exact ⟨rfl, B0.out⟩
  have h40' : ¬ (40 : Int) < (vs.length : Int) := by omega
  obtain ⟨w0, hw0⟩ : ∃ w0, w0 = w.alloc (.cells #[.slice a m.length cap, .slice ra vs.length rc] 43) := ⟨_, rfl⟩
  rw [← hw0] at R X0 B0
  have W0 := hide hw0
  clear hw0
  go_enter Try.func34, Try.ntmps34
  go_wp2
  rw [← W0.out]
  go_loopw [19] (fun vi wr => ∃ k : Nat, k ≤ m.length ∧ vi = .int .i64 k ∧ (∀ i, i < k → okB m i (m.getD i nd0)) ∧ Below w0.heap.size w0 wr) (fun vi _ => m.length - (intOf vi).toNat)
  case atStart => exact ⟨0, Nat.zero_le _, rfl, fun i hi => by omega, Below.refl _ _⟩
  case round =>
    obtain ⟨k, hk, rfl, hall, hb⟩ := hrel
    have HA := hide hall
    have B := hide hb
    clear hall hb
    obtain ⟨x0, x1⟩ := (X0.out.below B.out).c2
    by_cases hlt : k < m.length
    · obtain ⟨b, off, u, ks, z, rfl, hx, hu, c0, c1⟩ := (R.out.1.below B.out).at k hlt
      have HX := hide hx
      have U := hide hu
      obtain ⟨ua, uc, rfl, _, _⟩ := U.out.slc
      obtain ⟨w1, hw1⟩ : ∃ w1, w1 = wr.alloc (.cells #[.slice ua ks.length uc, .bool z] 104) := ⟨_, rfl⟩
      have b1 : Below wr.heap.size wr w1 := by rw [hw1]; exact below_box _ _
      have y1 : BoxAt w1 wr.heap.size #[.slice ua ks.length uc, .bool z] 104 := by rw [hw1]; exact BoxAt.new _ _ _
      have B1 := hide b1
      have Y1 := hide y1
      have W1 := hide hw1
      have hlt' : (k : Int) < (m.length : Int) := by omega
      have hk0 : (0 : Int) ≤ (k : Int) := by omega
      have hkm : (k : Int) ≤ (m.length : Int) := by omega
      have hkc : (k : Int) ≤ (cap : Int) := by omega
      have BB1 := hide (B.out.trans (b1.mono B.out.size))
      have RT := hide ((R.out.1.below BB1.out).take k hk)
      have U1 := hide (U.out.below b1)
      have F : Hid (∀ w', Below w1.heap.size w1 w' → (w'.cell? ⟨wr.heap.size, 0, none⟩ = some (.slice ua ks.length uc) ∧ w'.cell? ⟨wr.heap.size, 1, none⟩ = some (.bool z)) ∧ w'.cell? ⟨w.heap.size, 0, none⟩ = some (.slice (some ⟨b, off, none⟩) m.length cap)) := fun w' hb => ⟨(Y1.out.below hb).c2, ((X0.out.below BB1.out).below hb).c2.1⟩
      clear hx hu b1 y1 hw1
      obtain ⟨y, hy⟩ : ∃ y, decide (okB (m.take k) (m.take k).length (ks, z)) = y := ⟨_, rfl⟩
      have HY := hide hy
      have YE : Hid (y = true ↔ okB m k (m.getD k nd0)) := by
        show _ ↔ _
        rw [← hy, HX.out, decide_eq_true_iff]
        exact okB_take m k (ks, z) hk
      clear hy
      go_wp2
      rw [← W1.out]
      clear x0 x1 c0 c1
      go_region_held3 (fun w' => (w'.cell? ⟨wr.heap.size, 0, none⟩ = some (.slice ua ks.length uc) ∧ w'.cell? ⟨wr.heap.size, 1, none⟩ = some (.bool z)) ∧ w'.cell? ⟨w.heap.size, 0, none⟩ = some (.slice (some ⟨b, off, none⟩) m.length cap)) (first | exact F.out _ (Below.refl _ _).drew | exact F.out _ B2.out)
        ((go_at_call 84; refine (isBranchBehind_calls _ _ (m.take k) ks z _ (RT.out.below (Below.refl _ _).drew) (U1.out.below (Below.refl _ _).drew)).mono ?_; rw [HY.out]; rintro e' wr7 ⟨rfl, b7⟩; have B2 := hide ((Below.refl w1.heap.size w1).drew.trans b7); clear b7))
      have BB := hide (B.out.trans ((B1.out.trans (B2.out.mono B1.out.size)).mono B.out.size))
      cases y with
      | true =>
        go_wp2
        go_roundw
        case rel =>
          refine ⟨k + 1, by omega, by go_num, fun i hi => ?_, BB.out⟩
          by_cases e : i = k
          · subst e; exact YE.out.1 rfl
          · exact HA.out i (by omega)
        case measure => simp [intOf]; omega
      | false =>
        go_wp2
        go_ret
        refine ⟨ret_bolP ?_, B0.out.trans (BB.out.mono B0.out.size)⟩
        cases g with
        | false => rfl
        | true => exact absurd (YE.out.2 ((HG.out.1 rfl).2.1 k hlt)) (by simp)
    · obtain rfl : k = m.length := by omega
      have E : Hid (decide (∀ i, i < vs.length → kB false m m.length (vs.getD i 0)) = g) := by
        show _ = _
        have e : (∀ i, i < vs.length → kB false m m.length (vs.getD i 0)) ↔ g = true := ⟨fun h => HG.out.2 ⟨⟨h200, h40⟩, HA.out, h⟩, fun h => (HG.out.1 h).2.2⟩
        cases g with
        | true => exact decide_eq_true (e.2 rfl)
        | false => exact decide_eq_false (fun h => by simpa using e.1 h)
      go_wp2_with fail
      refine (allisVersion_calls _ _ vs m w.heap.size _ (R.out.2.below B.out) (R.out.1.below B.out) x0).mono ?_
      rintro e w1 ⟨rfl, rfl⟩
      rw [E.out]
      go_wp2
      go_ret
      exact ⟨rfl, B0.out.trans (B.out.mono B0.out.size)⟩
end Go.Proofs.Ythmijjcddjlebaa

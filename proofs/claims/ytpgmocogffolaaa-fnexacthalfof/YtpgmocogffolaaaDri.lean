/-
  What is kept of what is held: the program's tests and its model's, call by call. Each contract says what it asks.
-/
import Derived.Test.YtpgmocogffolaaaDcp
namespace Go.Proofs.Ytpgmocogffolaaa
open Go.RowKit
set_option linter.unusedVariables false

theorem Rd.at {w : World} {a : Option Addr} {n cap : Nat} {xs : List Int} (h : Rd w (.slice a n cap) xs) (i : Nat) (hi : i < xs.length) : ∃ b off, a = some ⟨b, off, none⟩ ∧ w.cell? ⟨b, off + i, none⟩ = some (.int .i64 (xs.getD i 0)) ∧ b < w.heap.size := by
  obtain ⟨a', cap', hv, _, _, h3⟩ := h
  simp only [Value.slice.injEq] at hv
  obtain ⟨rfl, rfl, rfl⟩ := hv
  rcases h3 with h3 | ⟨b, off, rfl, hlt, hc⟩
  · subst h3; simp at hi
  · exact ⟨b, off, rfl, hc i hi, hlt⟩
theorem Rd.sl {w : World} {v : Value} {xs : List Int} (h : Rd w v xs) : ∃ a cap, v = .slice a xs.length cap ∧ xs.length ≤ 9223372036854775807 ∧ xs.length ≤ cap := by
  obtain ⟨a, cap, rfl, h1, h2, _⟩ := h
  have h3 := h2.1
  exact ⟨a, cap, rfl, by unfold maxLen at h3; omega, h1⟩

/-- The number at place i is at least 0, below the end, and greater than the one ahead of it. -/
def risAt (xs : List Int) (e : Int) (i : Nat) : Bool := decide (0 ≤ xs.getD i 0 ∧ xs.getD i 0 < e ∧ (i = 0 ∨ xs.getD (i - 1) 0 < xs.getD i 0))
def rises (xs : List Int) (e : Int) : Bool := (List.range xs.length).all (risAt xs e)
theorem rises_yes {xs : List Int} {e : Int} (h : ∀ i, i < xs.length → risAt xs e i = true) : rises xs e = true := by
  rw [rises, List.all_eq_true]
  intro i hi
  exact h i (List.mem_range.1 hi)
theorem rises_at {xs : List Int} {e : Int} (h : rises xs e = true) (i : Nat) (hi : i < xs.length) : risAt xs e i = true := List.all_eq_true.1 h i (List.mem_range.2 hi)
theorem rises_no {xs : List Int} {e : Int} {k : Nat} (hk : k < xs.length) (h : risAt xs e k = false) : rises xs e = false := by
  cases hh : rises xs e with
  | false => rfl
  | true => rw [rises_at hh k hk] at h; cases h

set_option maxRecDepth 100000 in
set_option maxHeartbeats 800000 in
theorem areRising_calls (v : Value) (xs : List Int) (en : Int) (w : World) (h : Rd w v xs) (h0 : 0 ≤ en) (h1 : en ≤ 1048576) :
    Calls Try.prog 152 #[v, .int .i64 en] w fun e w' => e = .returned (.bool (rises xs en)) ∧ w = w' := by
  have R := hide h
  obtain ⟨a, cap, rfl, q1, q2, q3⟩ := h
  have hm : xs.length ≤ maxLen := by omega
  unfold maxLen at hm
  clear q1 q2 q3
  go_enter Try.func152, Try.ntmps152
  go_wp2
  go_loop [5, 10] (fun vl vi => ∃ (k : Nat) (l : Int), k ≤ xs.length ∧ vi = .int .i64 k ∧ vl = .int .i64 l ∧ 0 ≤ l ∧ l ≤ 1048576 ∧ (k = 0 → l = 0) ∧ (0 < k → l = xs.getD (k - 1) 0 + 1) ∧ ∀ i, i < k → risAt xs en i = true) (fun _ vi => xs.length - (intOf vi).toNat)
  case atStart => exact ⟨0, 0, Nat.zero_le _, rfl, rfl, by omega, by omega, fun _ => rfl, fun h => by omega, fun i hi => by omega⟩
  case round =>
    obtain ⟨k, l, hk, rfl, rfl, hl0, hl1, hz, hp, hall⟩ := hrel
    have A := hide hall
    have HZ := hide hz
    have HP := hide hp
    clear hall hz hp
    by_cases hlt : k < xs.length
    · have hlt' : (k : Int) < (xs.length : Int) := by omega
      obtain ⟨b, off, rfl, hc, _⟩ := R.out.at k hlt
      obtain ⟨x, hx⟩ : ∃ x, x = xs.getD k 0 := ⟨_, rfl⟩
      rw [← hx] at hc
      have X := hide hx
      clear hx
      have key : risAt xs en k = decide (l ≤ x ∧ x < en) := by
        unfold risAt
        rw [← X.out]
        congr 1
        by_cases e : k = 0
        · have := HZ.out e
          subst this
          simp [e]
        · have := HP.out (by omega)
          have h' := A.out (k - 1) (by omega)
          unfold risAt at h'
          simp only [decide_eq_true_eq] at h'
          apply propext
          constructor
          · rintro ⟨a1, a2, a3⟩
            exact ⟨by omega, a2⟩
          · rintro ⟨a1, a2⟩
            exact ⟨by omega, a2, .inr (by omega)⟩
      have KEY := hide key
      clear key
      by_cases c1 : l ≤ x
      · have c1' : ¬ x < l := by omega
        by_cases c2 : x < en
        · have c2' : ¬ en ≤ x := by omega
          go_wp2
          go_round
          case rel =>
            refine ⟨k + 1, x + 1, by omega, by go_num, by go_num, by omega, by omega, fun h => by omega, fun _ => by rw [X.out]; simp, fun i hi => ?_⟩
            by_cases e : i = k
            · subst e; rw [KEY.out]; exact decide_eq_true ⟨c1, c2⟩
            · exact A.out i (by omega)
          case measure => simp [intOf]; omega
        · have c2' : en ≤ x := by omega
          go_wp2
          go_ret
          exact ⟨ret_bool (rises_no hlt (by rw [KEY.out]; exact decide_eq_false (fun h => by omega))).symm, rfl⟩
      · have c1' : x < l := by omega
        go_wp2
        go_ret
        exact ⟨ret_bool (rises_no hlt (by rw [KEY.out]; exact decide_eq_false (fun h => by omega))).symm, rfl⟩
    · obtain rfl : k = xs.length := by omega
      go_wp2
      go_ret
      exact ⟨ret_bool (rises_yes A.out).symm, rfl⟩


/-- These may be kept: they rise, and something is held at each. -/
def kpOk (H : List ByteArray) (ks : List Int) : Prop := (∀ i, i < ks.length → 0 ≤ ks.getD i 0 ∧ ks.getD i 0 < (H.length : Int) ∧ (i = 0 ∨ ks.getD (i - 1) 0 < ks.getD i 0)) ∧ ∀ i, i < ks.length → 0 < (H.getD (ks.getD i 0).toNat ⟨#[]⟩).size
theorem kp_bool (H : List ByteArray) (ks : List Int) : ∃ g : Bool, g = true ↔ kpOk H ks := by
  by_cases hh : kpOk H ks
  · exact ⟨true, fun _ => hh, fun _ => rfl⟩
  · exact ⟨false, fun h => by simp at h, fun h => absurd h hh⟩
theorem rises_iff (xs : List Int) (e : Int) : rises xs e = true ↔ ∀ i, i < xs.length → 0 ≤ xs.getD i 0 ∧ xs.getD i 0 < e ∧ (i = 0 ∨ xs.getD (i - 1) 0 < xs.getD i 0) := by
  constructor
  · intro h i hi
    have := rises_at h i hi
    unfold risAt at this
    exact of_decide_eq_true this
  · intro h
    exact rises_yes fun i hi => decide_eq_true (h i hi)
theorem mem_hpl_at (H : List ByteArray) (x : Int) : x ∈ hpl H H.length ↔ 0 ≤ x ∧ x < (H.length : Int) ∧ 0 < (H.getD x.toNat ⟨#[]⟩).size := by
  rw [hpl_mem]
  constructor
  · rintro ⟨i, rfl, h1, h2⟩
    exact ⟨by omega, by omega, by simpa using h2⟩
  · rintro ⟨h1, h2, h3⟩
    exact ⟨x.toNat, by omega, by omega, h3⟩

set_option maxRecDepth 100000 in
set_option maxHeartbeats 400000 in
theorem isHeld_calls (k : Nat) (g : Nat) (h : Value) (H : List ByteArray) (y : Bool) (w : World) (hc : w.cell? ⟨g, 1, none⟩ = some h) (hh : RdT w h H) (hk : k < H.length) (hy : y = true ↔ 0 < (H.getD k ⟨#[]⟩).size) :
    Calls Try.prog 151 #[.int .i64 (k : Int), .pointer (some ⟨g, 0, none⟩)] w fun e w' => e = .returned (.bool y) ∧ w = w' := by
  have R := hide hh
  obtain ⟨a, cap, rfl, mh, _⟩ := hh.sl
  obtain ⟨b, off, rfl, hc1, _⟩ := R.out.cell k hk
  have HY := hide hy
  have hk' : (k : Int) < (H.length : Int) := by omega
  clear hh hy
  generalize H.getD k ⟨#[]⟩ = z at hc1 HY
  by_cases hz : z.size = 0
  · have hzz := size_zero hz
    subst hzz
    obtain rfl : y = false := by
      cases y with
      | false => rfl
      | true => exact absurd (HY.out.1 rfl) (by decide)
    clear hz
    go_enter Try.func151, Try.ntmps151
    go_wp2
    go_ret
    exact ⟨rfl, rfl⟩
  · obtain ⟨zz1, zz2⟩ := toList_ne (z := z) (fun e => hz (by rw [e]; rfl))
    obtain rfl : y = true := HY.out.2 (by omega)
    clear hz
    go_enter Try.func151, Try.ntmps151
    go_wp2
    go_ret
    exact ⟨rfl, rfl⟩

set_option maxRecDepth 100000 in
set_option maxHeartbeats 800000 in
theorem allHeld_calls (v : Value) (ks : List Int) (g : Nat) (h : Value) (H : List ByteArray) (y : Bool) (w : World) (hv : Rd w v ks) (hc : w.cell? ⟨g, 1, none⟩ = some h) (hh : RdT w h H) (hr : ∀ i, i < ks.length → 0 ≤ ks.getD i 0 ∧ ks.getD i 0 < (H.length : Int)) (hy : y = true ↔ ∀ i, i < ks.length → 0 < (H.getD (ks.getD i 0).toNat ⟨#[]⟩).size) :
    Calls Try.prog 95 #[v, .func (.func 151) #[] #[.pointer (some ⟨g, 0, none⟩)]] w fun e w' => e = .returned (.bool y) ∧ w = w' := by
  have R := hide hv
  have HH := hide hh
  have HR := hide hr
  have HY := hide hy
  have HC := hide hc
  obtain ⟨a, cap, rfl, mh, _⟩ := hv.sl
  clear hv hh hr hy hc
  go_enter Try.func95, Try.ntmps95
  go_wp2
  go_loop [9] (fun vi => ∃ k : Nat, k ≤ ks.length ∧ vi = .int .i64 k ∧ ∀ i, i < k → 0 < (H.getD (ks.getD i 0).toNat ⟨#[]⟩).size) (fun vi => ks.length - (intOf vi).toNat)
  case atStart => exact ⟨0, Nat.zero_le _, rfl, fun i hi => by omega⟩
  case round =>
    obtain ⟨k, hk, rfl, hall⟩ := hrel
    have A := hide hall
    clear hall
    by_cases hlt : k < ks.length
    · have hlt' : (k : Int) < (ks.length : Int) := by omega
      obtain ⟨b, off, rfl, hc1, _⟩ := R.out.at k hlt
      obtain ⟨hx0, hx1⟩ := HR.out k hlt
      have X : Hid ((ks.getD k 0).toNat = (ks.getD k 0).toNat) := rfl
      obtain ⟨x, hx⟩ : ∃ x : Nat, ks.getD k 0 = (x : Int) := ⟨(ks.getD k 0).toNat, by omega⟩
      rw [hx] at hc1 hx1
      have HX : Hid ((ks.getD k 0).toNat = x) := by show _ = _; rw [hx]; simp
      clear hx hx0 X
      obtain ⟨q, hq⟩ : ∃ q : Bool, q = true ↔ 0 < (H.getD x ⟨#[]⟩).size := ⟨decide (0 < (H.getD x ⟨#[]⟩).size), by simp⟩
      have HQ := hide hq
      have CC : Hid (Calls Try.prog 151 #[.int .i64 (x : Int), .pointer (some ⟨g, 0, none⟩)] w fun e w' => e = .returned (.bool q) ∧ w = w') := isHeld_calls x g h H q w HC.out HH.out (by omega) hq
      clear hq hx1
      cases q with
      | true =>
        go_wp2_with (go_at_call 151; refine CC.out.mono ?_; rintro e w' ⟨rfl, rfl⟩)
        go_round
        case rel =>
          refine ⟨k + 1, by omega, by go_num, fun i hi => ?_⟩
          by_cases e : i = k
          · subst e; rw [HX.out]; exact HQ.out.1 (by simp)
          · exact A.out i (by omega)
        case measure => simp [intOf]; omega
      | false =>
        go_wp2_with (go_at_call 151; refine CC.out.mono ?_; rintro e w' ⟨rfl, rfl⟩)
        go_ret
        refine ⟨ret_bool ?_, rfl⟩
        cases y with
        | false => rfl
        | true =>
          have := HY.out.1 (by simp) k hlt
          rw [HX.out] at this
          have := HQ.out.2 this
          simp at this
    · obtain rfl : k = ks.length := by omega
      go_wp2
      go_ret
      exact ⟨ret_bool (HY.out.2 A.out).symm, rfl⟩

set_option maxRecDepth 100000 in
set_option maxHeartbeats 400000 in
theorem l1Has_calls (v : Value) (xs : List Int) (n : Int) (y : Bool) (w : World) (h : Rd w v xs) (hy : y = true ↔ n ∈ xs) :
    Calls Try.prog 118 #[v, .int .i64 n] w fun e w' => e = .returned (.bool y) ∧ w = w' := by
  have R := hide h
  have HY := hide hy
  obtain ⟨a, cap, rfl, mh, _⟩ := h.sl
  clear h hy
  go_enter Try.func118, Try.ntmps118
  go_wp2
  go_loop [9] (fun vi => ∃ k : Nat, k ≤ xs.length ∧ vi = .int .i64 k ∧ ∀ i, i < k → ¬ xs.getD i 0 = n) (fun vi => xs.length - (intOf vi).toNat)
  case atStart => exact ⟨0, Nat.zero_le _, rfl, fun i hi => by omega⟩
  case round =>
    obtain ⟨k, hk, rfl, hall⟩ := hrel
    have A := hide hall
    clear hall
    by_cases hlt : k < xs.length
    · have hlt' : (k : Int) < (xs.length : Int) := by omega
      obtain ⟨b, off, rfl, hc1, _⟩ := R.out.at k hlt
      have M : Hid (xs.getD k 0 ∈ xs) := by
        show _ ∈ _
        rw [List.getD_eq_getElem?_getD, List.getElem?_eq_getElem hlt]
        exact List.getElem_mem hlt
      obtain ⟨x, hx⟩ : ∃ x, x = xs.getD k 0 := ⟨_, rfl⟩
      rw [← hx] at hc1 M
      have HX := hide hx
      clear hx
      by_cases hxn : x = n
      · subst hxn
        go_wp2
        go_ret
        exact ⟨ret_bool (HY.out.2 M.out).symm, rfl⟩
      · have hxb : (x == n) = false := by simpa using hxn
        go_wp2
        go_round
        case rel =>
          refine ⟨k + 1, by omega, by go_num, fun i hi => ?_⟩
          by_cases e : i = k
          · subst e; rw [← HX.out]; exact hxn
          · exact A.out i (by omega)
        case measure => simp [intOf]; omega
    · obtain rfl : k = xs.length := by omega
      go_wp2
      go_ret
      refine ⟨ret_bool ?_, rfl⟩
      cases y with
      | false => rfl
      | true =>
        obtain ⟨i, hi, he⟩ := List.mem_iff_getElem.1 (HY.out.1 rfl)
        exact absurd (by rw [List.getD_eq_getElem?_getD, List.getElem?_eq_getElem hi]; exact he) (A.out i hi)
end Go.Proofs.Ytpgmocogffolaaa

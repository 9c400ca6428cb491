/-
  Rising numbers below an end, and how many pieces may be lost: the program's functions and its model's, call by call. No condition.
-/
import Derived.Test.YtogopakmebiomaaDoorCode
namespace Go.Proofs.YtogopakmebiomaaDoor
open Go.RowKit

/-- The number at place i is at least 0, below the end, and greater than the one ahead of it. -/
def risAt (xs : List Int) (e : Int) (i : Nat) : Bool := decide (0 ≤ xs.getD i 0 ∧ xs.getD i 0 < e ∧ (i = 0 ∨ xs.getD (i - 1) 0 < xs.getD i 0))
def rises (xs : List Int) (e : Int) : Bool := (List.range xs.length).all (risAt xs e)
theorem rises_yes {xs : List Int} {e : Int} (h : ∀ i, i < xs.length → risAt xs e i = true) : rises xs e = true := by
  rw [rises, List.all_eq_true]
  intro i hi
  exact h i (List.mem_range.1 hi)
theorem rises_at {xs : List Int} {e : Int} (h : rises xs e = true) (i : Nat) (hi : i < xs.length) : risAt xs e i = true := List.all_eq_true.1 h i (List.mem_range.2 hi)
theorem rises_no {xs : List Int} {e : Int} {k : Nat} (hk : k < xs.length) (h : risAt xs e k = false) : rises xs e = false := by
  cases hh : rises xs e with
  | false => rfl
  | true => rw [rises_at hh k hk] at h; cases h

set_option maxRecDepth 100000 in
set_option maxHeartbeats 800000 in
theorem areRising_calls (v : Value) (xs : List Int) (en : Int) (w : World) (h : Rd w v xs) (h0 : 0 ≤ en) (h1 : en ≤ 1048576) :
    Calls Tryd.prog 120 #[v, .int .i64 en] w fun e w' => e = .returned (.bool (rises xs en)) ∧ w = w' := by
  have R := hide h
  obtain ⟨a, cap, rfl, q1, q2, q3⟩ := h
  have hm : xs.length ≤ maxLen := by omega
  unfold maxLen at hm
  clear q1 q2 q3
  go_enter Tryd.func120, Tryd.ntmps120
  go_wp2
  go_loop [5, 10] (fun vl vi => ∃ (k : Nat) (l : Int), k ≤ xs.length ∧ vi = .int .i64 k ∧ vl = .int .i64 l ∧ 0 ≤ l ∧ l ≤ 1048576 ∧ (k = 0 → l = 0) ∧ (0 < k → l = xs.getD (k - 1) 0 + 1) ∧ ∀ i, i < k → risAt xs en i = true) (fun _ vi => xs.length - (intOf vi).toNat)
  case atStart => exact ⟨0, 0, Nat.zero_le _, rfl, rfl, by omega, by omega, fun _ => rfl, fun h => by omega, fun i hi => by omega⟩
  case round =>
    obtain ⟨k, l, hk, rfl, rfl, hl0, hl1, hz, hp, hall⟩ := hrel
    have A := hide hall
    have HZ := hide hz
    have HP := hide hp
    clear hall hz hp
    by_cases hlt : k < xs.length
    · have hlt' : (k : Int) < (xs.length : Int) := by omega
      obtain ⟨b, off, u, rfl, hc, hu⟩ := R.out.row k hlt
      obtain ⟨x, hx⟩ : ∃ x, x = xs.getD k 0 := ⟨_, rfl⟩
      rw [← hx] at hu
      subst hu
      have X := hide hx
      clear hx
      have key : risAt xs en k = decide (l ≤ x ∧ x < en) := by
        unfold risAt
        rw [← X.out]
        congr 1
        by_cases e : k = 0
        · have := HZ.out e
          subst this
          simp [e]
        · have := HP.out (by omega)
          have h' := A.out (k - 1) (by omega)
          unfold risAt at h'
          simp only [decide_eq_true_eq] at h'
          apply propext
          constructor
          · rintro ⟨a1, a2, a3⟩
            exact ⟨by omega, a2⟩
          · rintro ⟨a1, a2⟩
            exact ⟨by omega, a2, .inr (by omega)⟩
      have KEY := hide key
      clear key
      by_cases c1 : l ≤ x
      · have c1' : ¬ x < l := by omega
        by_cases c2 : x < en
        · have c2' : ¬ en ≤ x := by omega
          go_wp2
          go_round
          case rel =>
            refine ⟨k + 1, x + 1, by omega, by go_num, by go_num, by omega, by omega, fun h => by omega, fun _ => by rw [X.out]; simp, fun i hi => ?_⟩
            by_cases e : i = k
            · subst e; rw [KEY.out]; exact decide_eq_true ⟨c1, c2⟩
            · exact A.out i (by omega)
          case measure => simp [intOf]; omega
        · have c2' : en ≤ x := by omega
          go_wp2
          go_ret
          exact ⟨Gf.ret_bool (rises_no hlt (by rw [KEY.out]; exact decide_eq_false (fun h => by omega))).symm, rfl⟩
      · have c1' : x < l := by omega
        go_wp2
        go_ret
        exact ⟨Gf.ret_bool (rises_no hlt (by rw [KEY.out]; exact decide_eq_false (fun h => by omega))).symm, rfl⟩
    · obtain rfl : k = xs.length := by omega
      go_wp2
      go_ret
      exact ⟨Gf.ret_bool (rises_yes A.out).symm, rfl⟩

set_option maxRecDepth 100000 in
set_option maxHeartbeats 800000 in
theorem l3Lost_calls (v : Value) (xs : List Int) (en : Int) (w : World) (h : Rd w v xs) :
    Calls Tryd.prog 121 #[v, .int .i64 en] w fun e w' => e = .returned (.bool (rises xs en)) ∧ w = w' := by
  have R := hide h
  obtain ⟨a, cap, rfl, q1, q2, q3⟩ := h
  have hm : xs.length ≤ maxLen := by omega
  unfold maxLen at hm
  clear q1 q2 q3
  go_enter Tryd.func121, Tryd.ntmps121
  go_wp2
  go_loop [9] (fun vi => ∃ (k : Nat), k ≤ xs.length ∧ vi = .int .i64 k ∧ ∀ i, i < k → risAt xs en i = true) (fun vi => xs.length - (intOf vi).toNat)
  case atStart => exact ⟨0, Nat.zero_le _, rfl, fun i hi => by omega⟩
  case round =>
    obtain ⟨k, hk, rfl, hall⟩ := hrel
    have A := hide hall
    clear hall
    by_cases hlt : k < xs.length
    · have hlt' : (k : Int) < (xs.length : Int) := by omega
      obtain ⟨b, off, u, rfl, hc, hu⟩ := R.out.row k hlt
      obtain ⟨x, hx⟩ : ∃ x, x = xs.getD k 0 := ⟨_, rfl⟩
      rw [← hx] at hu
      subst hu
      have X := hide hx
      clear hx
      have key : risAt xs en k = decide (0 ≤ x ∧ x < en ∧ (k = 0 ∨ xs.getD (k - 1) 0 < x)) := by
        unfold risAt
        rw [← X.out]
      have KEY := hide key
      clear key
      have yes : (0 ≤ x ∧ x < en ∧ (k = 0 ∨ xs.getD (k - 1) 0 < x)) → ∀ i, i < k + 1 → risAt xs en i = true := by
        intro h i hi
        by_cases e : i = k
        · subst e; rw [KEY.out]; exact decide_eq_true h
        · exact A.out i (by omega)
      have no : ¬ (0 ≤ x ∧ x < en ∧ (k = 0 ∨ xs.getD (k - 1) 0 < x)) → rises xs en = false := fun h => rises_no hlt (by rw [KEY.out]; exact decide_eq_false h)
      have Y := hide yes
      have N := hide no
      clear yes no
      by_cases c0 : 0 ≤ x
      · have c0' : ¬ x < 0 := by omega
        by_cases c2 : x < en
        · have c2' : ¬ en ≤ x := by omega
          by_cases ck : k = 0
          · subst ck
            have ck' : ¬ (0 : Int) < ((0 : Nat) : Int) := by omega
            rw [Nat.add_zero] at hc
            go_wp2
            go_round
            case rel => exact ⟨0 + 1, by omega, by go_num, Y.out ⟨c0, c2, .inl rfl⟩⟩
            case measure => simp [intOf]; omega
          · have ck' : (0 : Int) < (k : Int) := by omega
            obtain ⟨b2, off2, u2, hb2, hc2, hu2⟩ := R.out.row (k - 1) (by omega)
            simp only [Option.some.injEq, Addr.mk.injEq, and_true] at hb2
            obtain ⟨rfl, rfl⟩ := hb2
            obtain ⟨y, hy⟩ : ∃ y, y = xs.getD (k - 1) 0 := ⟨_, rfl⟩
            rw [← hy] at hu2
            subst hu2
            have e1 : ((k : Int) - 1).toNat = k - 1 := by omega
            have i1 : (0 : Int) ≤ (k : Int) - 1 := by omega
            have i2 : (k : Int) - 1 < (xs.length : Int) := by omega
            have YY := hide hy
            clear hy
            by_cases c3 : y < x
            · have c3' : ¬ x ≤ y := by omega
              go_wp2
              go_round
              case rel => exact ⟨k + 1, by omega, by go_num, Y.out ⟨c0, c2, .inr (by rw [← YY.out]; exact c3)⟩⟩
              case measure => simp [intOf]; omega
            · have c3' : x ≤ y := by omega
              go_wp2
              go_ret
              exact ⟨Gf.ret_bool (N.out (fun h => by rcases h.2.2 with h | h; omega; rw [← YY.out] at h; omega)).symm, rfl⟩
        · have c2' : en ≤ x := by omega
          go_wp2
          go_ret
          exact ⟨Gf.ret_bool (N.out (fun h => by omega)).symm, rfl⟩
      · have c0' : x < 0 := by omega
        go_wp2
        go_ret
        exact ⟨Gf.ret_bool (N.out (fun h => by omega)).symm, rfl⟩
    · obtain rfl : k = xs.length := by omega
      go_wp2
      go_ret
      exact ⟨Gf.ret_bool (rises_yes A.out).symm, rfl⟩

def canOk (d q : Int) (xs : List Int) : Bool := codeOk d q && rises xs (d + q)
def canR (d q : Int) (xs : List Int) : Bool × Bool := if canOk d q xs = true then (decide ((xs.length : Int) ≤ q), true) else (false, false)

set_option maxRecDepth 100000 in
set_option maxHeartbeats 800000 in
theorem canDecode_calls (d q : Int) (v : Value) (xs : List Int) (w : World) (h : Rd w v xs) :
    Calls Tryd.prog 60 #[.int .i64 d, .int .i64 q, v] w fun e w' => e = .returned (.tuple #[.bool (canR d q xs).1, .bool (canR d q xs).2]) ∧ Below w.heap.size w w' := by
  have R := hide h
  obtain ⟨a, cap, rfl, q1, q2, q3⟩ := h
  clear q1 q2 q3
  cases hc : codeOk d q with
  | false =>
    have e : canR d q xs = (false, false) := by simp [canR, canOk, hc]
    rw [e]
    have C := hide hc
    clear hc e
    go_enter Tryd.func60, Tryd.ntmps60
    go_wp2_with fail
    refine (isCode_calls d q _).mono ?_
    rw [C.out]
    rintro e w' ⟨rfl, rfl⟩
    go_wp2
    go_ret2
    exact ⟨rfl, Below.refl _ _⟩
  | true =>
    obtain ⟨f1, f2, f3, f4⟩ := codeOk_facts hc
    have C := hide hc
    cases hr : rises xs (d + q) with
    | false =>
      have e : canR d q xs = (false, false) := by simp [canR, canOk, hr]
      rw [e]
      have RR := hide hr
      clear hc hr e
      go_enter Tryd.func60, Tryd.ntmps60
      go_wp2_with fail
      refine (isCode_calls d q _).mono ?_
      rw [C.out]
      rintro e w' ⟨rfl, rfl⟩
      go_wp2_with fail
      refine (areRising_calls _ xs (d + q) _ R.out (by omega) (by omega)).mono ?_
      rw [RR.out]
      rintro e w' ⟨rfl, rfl⟩
      go_wp2
      go_ret2
      exact ⟨rfl, Below.refl _ _⟩
    | true =>
      have e : canR d q xs = (decide ((xs.length : Int) ≤ q), true) := by simp [canR, canOk, hc, hr]
      rw [e]
      have RR := hide hr
      clear hc hr e
      go_enter Tryd.func60, Tryd.ntmps60
      go_wp2_with fail
      refine (isCode_calls d q _).mono ?_
      rw [C.out]
      rintro e w' ⟨rfl, rfl⟩
      go_wp2_with fail
      refine (areRising_calls _ xs (d + q) _ R.out (by omega) (by omega)).mono ?_
      rw [RR.out]
      rintro e w' ⟨rfl, rfl⟩
      go_wp2
      go_ret2
      exact ⟨rfl, Below.refl _ _⟩

set_option maxRecDepth 100000 in
set_option maxHeartbeats 800000 in
theorem sCanDecode_calls (d q : Int) (v : Value) (xs : List Int) (w : World) (h : Rd w v xs) :
    Calls Tryd.prog 61 #[.int .i64 d, .int .i64 q, v] w fun e w' => e = .returned (.tuple #[.bool (canR d q xs).1, .bool (canR d q xs).2]) ∧ Below w.heap.size w w' := by
  have R := hide h
  obtain ⟨a, cap, rfl, q1, q2, q3⟩ := h
  clear q1 q2 q3
  cases hc : codeOk d q with
  | false =>
    have e : canR d q xs = (false, false) := by simp [canR, canOk, hc]
    rw [e]
    have C := hide hc
    clear hc e
    go_enter Tryd.func61, Tryd.ntmps61
    go_wp2_with fail
    refine (l3Size_calls d q _).mono ?_
    rw [C.out]
    rintro e w' ⟨rfl, rfl⟩
    go_wp2
    go_ret2
    exact ⟨rfl, Below.refl _ _⟩
  | true =>
    obtain ⟨f1, f2, f3, f4⟩ := codeOk_facts hc
    have C := hide hc
    cases hr : rises xs (d + q) with
    | false =>
      have e : canR d q xs = (false, false) := by simp [canR, canOk, hr]
      rw [e]
      have RR := hide hr
      clear hc hr e
      go_enter Tryd.func61, Tryd.ntmps61
      go_wp2_with fail
      refine (l3Size_calls d q _).mono ?_
      rw [C.out]
      rintro e w' ⟨rfl, rfl⟩
      go_wp2_with fail
      refine (l3Lost_calls _ xs (d + q) _ R.out).mono ?_
      rw [RR.out]
      rintro e w' ⟨rfl, rfl⟩
      go_wp2
      go_ret2
      exact ⟨rfl, Below.refl _ _⟩
    | true =>
      have e : canR d q xs = (decide ((xs.length : Int) ≤ q), true) := by simp [canR, canOk, hc, hr]
      rw [e]
      have RR := hide hr
      clear hc hr e
      go_enter Tryd.func61, Tryd.ntmps61
      go_wp2_with fail
      refine (l3Size_calls d q _).mono ?_
      rw [C.out]
      rintro e w' ⟨rfl, rfl⟩
      go_wp2_with fail
      refine (l3Lost_calls _ xs (d + q) _ R.out).mono ?_
      rw [RR.out]
      rintro e w' ⟨rfl, rfl⟩
      go_wp2
      go_ret2
      exact ⟨rfl, Below.refl _ _⟩
end Go.Proofs.YtogopakmebiomaaDoor

/-
  How many data and parity pieces there may be: the program's function and its model's, call by call. No condition.
-/
import Derived.Test.YtiojipicincgfaaDoorGood
namespace Go.Proofs.YtiojipicincgfaaDoor
open Go.RowKit

def codeOk (d q : Int) : Bool := decide (1 ≤ d ∧ d ≤ 6) && decide (1 ≤ q ∧ q ≤ 4)
theorem codeOk_facts {d q : Int} (h : codeOk d q = true) : 1 ≤ d ∧ d ≤ 6 ∧ 1 ≤ q ∧ q ≤ 4 := by
  simp only [codeOk, Bool.and_eq_true, decide_eq_true_eq] at h
  omega
theorem codeOk_no {d q : Int} (h : ¬ (1 ≤ d ∧ d ≤ 6 ∧ 1 ≤ q ∧ q ≤ 4)) : codeOk d q = false := by
  cases e : codeOk d q with
  | false => rfl
  | true => exact absurd (codeOk_facts e) h
theorem codeOk_yes {d q : Int} (h : 1 ≤ d ∧ d ≤ 6 ∧ 1 ≤ q ∧ q ≤ 4) : codeOk d q = true := by
  simp only [codeOk, Bool.and_eq_true, decide_eq_true_eq]
  omega
set_option maxRecDepth 100000 in
theorem isCode_calls (d q : Int) (w : World) :
    Calls Tryd.prog 37 #[.int .i64 d, .int .i64 q] w fun e w' => e = .returned (.bool (codeOk d q)) ∧ w = w' := by
  by_cases h1 : 1 ≤ d
  · by_cases h2 : d ≤ 6
    · by_cases h3 : 1 ≤ q
      · by_cases h4 : q ≤ 4
        · rw [codeOk_yes ⟨h1, h2, h3, h4⟩]
          go_enter Tryd.func37, Tryd.ntmps37
          go_wp2
          go_ret
          exact ⟨rfl, rfl⟩
        · rw [codeOk_no (by omega)]
          go_enter Tryd.func37, Tryd.ntmps37
          go_wp2
          go_ret
          exact ⟨rfl, rfl⟩
      · rw [codeOk_no (by omega)]
        go_enter Tryd.func37, Tryd.ntmps37
        go_wp2
        go_ret
        exact ⟨rfl, rfl⟩
    · rw [codeOk_no (by omega)]
      go_enter Tryd.func37, Tryd.ntmps37
      go_wp2
      go_ret
      exact ⟨rfl, rfl⟩
  · rw [codeOk_no (by omega)]
    go_enter Tryd.func37, Tryd.ntmps37
    go_wp2
    go_ret
    exact ⟨rfl, rfl⟩
set_option maxRecDepth 100000 in
theorem l3Size_calls (d q : Int) (w : World) :
    Calls Tryd.prog 41 #[.int .i64 d, .int .i64 q] w fun e w' => e = .returned (.bool (codeOk d q)) ∧ w = w' := by
  obtain ⟨b1, hb1⟩ : ∃ b, b = decide (1 ≤ d ∧ d ≤ 6) := ⟨_, rfl⟩
  obtain ⟨b2, hb2⟩ : ∃ b, b = decide (1 ≤ q ∧ q ≤ 4) := ⟨_, rfl⟩
  have hc : codeOk d q = (b1 && b2) := by rw [codeOk, ← hb1, ← hb2]
  rw [hc]
  have B1 := hide hb1
  have B2 := hide hb2
  clear hb1 hb2 hc
  cases b1 with
  | false =>
    go_enter Tryd.func41, Tryd.ntmps41
    go_wp2_with fail
    refine (Gf.l1In_calls _ _ _ _).mono ?_
    rw [← B1.out]
    rintro e w' ⟨rfl, rfl⟩
    go_wp2
    go_ret
    exact ⟨rfl, rfl⟩
  | true =>
    go_enter Tryd.func41, Tryd.ntmps41
    go_wp2_with fail
    refine (Gf.l1In_calls _ _ _ _).mono ?_
    rw [← B1.out]
    rintro e w' ⟨rfl, rfl⟩
    go_wp2_with fail
    refine (Gf.l1In_calls _ _ _ _).mono ?_
    rw [← B2.out]
    rintro e w' ⟨rfl, rfl⟩
    go_wp2
    go_ret
    exact ⟨rfl, rfl⟩
end Go.Proofs.YtiojipicincgfaaDoor

/-
  What the division of two polynomials comes to, as a plain function on lists; that the model's longer quotient, its noughts taken off, is the program's. No condition.
-/
import Derived.Test.YtogopakmebiomaaDoorPolyR
namespace Go.Proofs.YtogopakmebiomaaDoor
namespace Gf

/-- One step of the division at place k: the quotient's number there. -/
def dq (left q : List Nat) (k : Nat) : Nat := mul (left.getD (k + q.length - 1) 0) (inv (q.getD (q.length - 1) 0))
/-- What is left, and the quotient, when the places from k on have been gone through, of m + 1 in all. -/
def dv (p q : List Nat) (m len : Nat) : Nat → List Nat × List Nat
  | 0 => (p, List.replicate len 0)
  | j + 1 =>
    let s := dv p q m len j
    (amTo s.1 q (dq s.1 q (m - j)) (m - j) q.length, s.2.set (m - j) (dq s.1 q (m - j)))
theorem dv_len1 (p q : List Nat) (m len j : Nat) : (dv p q m len j).1.length = p.length := by
  induction j with
  | zero => rfl
  | succ j ih => simp [dv, amTo_length, ih]
theorem dv_len2 (p q : List Nat) (m len j : Nat) : (dv p q m len j).2.length = len := by
  induction j with
  | zero => simp [dv]
  | succ j ih => simp [dv, ih]
theorem dv_lt1 {p q : List Nat} {m len : Nat} (hp : AllLt p) (j : Nat) : AllLt (dv p q m len j).1 := by
  induction j with
  | zero => exact hp
  | succ j ih => exact amTo_lt ih (mul_lt (ih _)) _
theorem dq_lt {left q : List Nat} (h : AllLt left) (k : Nat) : dq left q k < 256 := mul_lt (h _)
theorem dv_lt2 {p q : List Nat} {m len : Nat} (hp : AllLt p) (j : Nat) : AllLt (dv p q m len j).2 := by
  induction j with
  | zero => exact allLt_zeros _
  | succ j ih => exact ih.set _ _ (dq_lt (dv_lt1 hp j) _)
/-- The longer quotient is the shorter one with noughts behind it. -/
theorem dv_app {p q : List Nat} {m : Nat} (e : Nat) (j : Nat) : (dv p q m (m + 1 + e) j).1 = (dv p q m (m + 1) j).1 ∧ (dv p q m (m + 1 + e) j).2 = (dv p q m (m + 1) j).2 ++ List.replicate e 0 := by
  induction j with
  | zero => exact ⟨rfl, by simp [dv, ← List.replicate_append_replicate]⟩
  | succ j ih =>
    simp only [dv]
    rw [ih.1, ih.2]
    refine ⟨rfl, ?_⟩
    rw [List.set_append_left _ _ (by rw [dv_len2]; omega)]
/-- Its highest number, when it has been gone through. -/
theorem dv_top {p q : List Nat} {m : Nat} (j : Nat) (hj : j ≤ m) : (dv p q m (m + 1) (j + 1)).2.getD m 0 = dq p q m := by
  induction j with
  | zero =>
    simp only [dv, Nat.sub_zero]
    rw [List.getD_eq_getElem?_getD, List.getElem?_set_self (by simp), Option.getD_some]
  | succ j ih =>
    rw [dv]
    simp only []
    rw [List.getD_eq_getElem?_getD, List.getElem?_set_ne (by omega), ← List.getD_eq_getElem?_getD]
    exact ih (by omega)
/-- What the division comes to: the quotient, the rest, and the word. -/
def divR (xs ys : List Int) : List Int × List Int × Bool :=
  if goodP xs = true ∧ goodP ys = true ∧ ys.length ≠ 0 then
    if xs.length < ys.length then ([], cutL xs, true)
    else
      let s := dv (nat xs) (nat ys) (xs.length - ys.length) (xs.length - ys.length + 1) (xs.length - ys.length + 1)
      (ci s.2, cutL (ci s.1), true)
  else ([], [], false)
/-- The model's quotient, its noughts taken off, is the program's. -/
theorem cut_dv {xs ys : List Int} (hx : goodP xs = true) (hy : goodP ys = true) (h0 : 0 < ys.length) (h1 : ys.length ≤ xs.length) :
    cutL (ci (dv (nat xs) (nat ys) (xs.length - ys.length) xs.length (xs.length - ys.length + 1)).2) = ci (dv (nat xs) (nat ys) (xs.length - ys.length) (xs.length - ys.length + 1) (xs.length - ys.length + 1)).2 := by
  obtain ⟨m, hm⟩ : ∃ m, m = xs.length - ys.length := ⟨_, rfl⟩
  obtain ⟨e, he⟩ : ∃ e, xs.length = m + 1 + e := ⟨ys.length - 1, by omega⟩
  rw [← hm]
  have hlen : dv (nat xs) (nat ys) m xs.length (m + 1) = dv (nat xs) (nat ys) m (m + 1 + e) (m + 1) := by rw [← he]
  rw [hlen, (dv_app e (m + 1)).2]
  refine cutL_app e (by rw [dv_len2]; omega) ?_
  rw [dv_len2, Nat.add_sub_cancel, dv_top m (Nat.le_refl _)]
  intro h
  have hx0 : 0 < xs.length := by omega
  have := mul_eq_zero _ _ (nat_ltp (goodP_mem hx) _) (inv_lt _) h
  rcases this with h | h
  · have e1 : m + (nat ys).length - 1 = xs.length - 1 := by rw [nat_length]; omega
    rw [e1] at h
    exact last_nat hx hx0 h
  · refine inv_ne (nat_ltp (goodP_mem hy) _) ?_ h
    rw [nat_length]
    exact last_nat hy h0
theorem dv_same1 {xs ys : List Int} (h0 : 0 < ys.length) (h1 : ys.length ≤ xs.length) :
    (dv (nat xs) (nat ys) (xs.length - ys.length) xs.length (xs.length - ys.length + 1)).1 = (dv (nat xs) (nat ys) (xs.length - ys.length) (xs.length - ys.length + 1) (xs.length - ys.length + 1)).1 := by
  obtain ⟨m, hm⟩ : ∃ m, m = xs.length - ys.length := ⟨_, rfl⟩
  obtain ⟨e, he⟩ : ∃ e, xs.length = m + 1 + e := ⟨ys.length - 1, by omega⟩
  rw [← hm]
  have hlen : dv (nat xs) (nat ys) m xs.length (m + 1) = dv (nat xs) (nat ys) m (m + 1 + e) (m + 1) := by rw [← he]
  rw [hlen, (dv_app e (m + 1)).1]
theorem divR_no {xs ys : List Int} (h : ¬ (goodP xs = true ∧ goodP ys = true ∧ ys.length ≠ 0)) : divR xs ys = ([], [], false) := by
  unfold divR
  rw [if_neg h]
theorem divR_short {xs ys : List Int} (hx : goodP xs = true) (hy : goodP ys = true) (h0 : ys.length ≠ 0) (h : xs.length < ys.length) : divR xs ys = ([], cutL xs, true) := by
  unfold divR
  rw [if_pos ⟨hx, hy, h0⟩, if_pos h]
theorem divR_yes {xs ys : List Int} (hx : goodP xs = true) (hy : goodP ys = true) (h0 : ys.length ≠ 0) (h : ¬ xs.length < ys.length) :
    divR xs ys = (ci (dv (nat xs) (nat ys) (xs.length - ys.length) (xs.length - ys.length + 1) (xs.length - ys.length + 1)).2, cutL (ci (dv (nat xs) (nat ys) (xs.length - ys.length) (xs.length - ys.length + 1) (xs.length - ys.length + 1)).1), true) := by
  unfold divR
  rw [if_pos ⟨hx, hy, h0⟩, if_neg h]
theorem divR_len (xs ys : List Int) : (divR xs ys).1.length ≤ 1048576 ∧ (divR xs ys).2.1.length ≤ 1048576 := by
  by_cases h : goodP xs = true ∧ goodP ys = true ∧ ys.length ≠ 0
  · have hl := goodP_len h.1
    by_cases hs : xs.length < ys.length
    · rw [divR_short h.1 h.2.1 h.2.2 hs]
      have := cutN_le xs xs.length
      have := cutL_length xs
      exact ⟨by simp, by show (cutL xs).length ≤ _; omega⟩
    · rw [divR_yes h.1 h.2.1 h.2.2 hs]
      refine ⟨by simp only [ci_length, dv_len2]; omega, ?_⟩
      show (cutL _).length ≤ _
      rw [cutL_length]
      refine Nat.le_trans (cutN_le _ _) ?_
      rw [ci_length, dv_len1, nat_length]
      omega
  · rw [divR_no h]
    exact ⟨by simp, by simp⟩
end Gf
end Go.Proofs.YtogopakmebiomaaDoor

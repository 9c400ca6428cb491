/-
  What is come to: the mathematics (numbers put to their places; Booleans and the numbers that they tell). No condition; no call is walked here.
-/
import Derived.Test.YtakhggnbhjoojaaGnr
namespace Go.Proofs.Ytakhggnbhjoojaa
open Go.RowKit
set_option linter.unusedVariables false

/-- A number put to its place, once. -/
def putS (n : Int) : List Int → List Int
  | [] => [n]
  | x :: r => if x < n then x :: putS n r else if x = n then x :: r else n :: x :: r
theorem putS_at (n : Int) : ∀ (k : Nat) (xs : List Int), k ≤ xs.length → (∀ i, i < k → xs.getD i 0 < n) → putS n xs = xs.take k ++ putS n (xs.drop k)
  | 0, xs, _, _ => by simp
  | k + 1, [], h, _ => by simp at h
  | k + 1, x :: r, h, hl => by
    have h0 : x < n := hl 0 (by omega)
    have ih := putS_at n k r (by simpa using h) (fun i hi => by simpa using hl (i + 1) (by omega))
    simp only [putS, if_pos h0, List.take_succ_cons, List.drop_succ_cons, List.cons_append, ih]
theorem putS_end (n : Int) (xs : List Int) (hl : ∀ i, i < xs.length → xs.getD i 0 < n) : putS n xs = xs ++ [n] := by
  have := putS_at n xs.length xs (Nat.le_refl _) hl
  simpa [putS] using this
theorem drop_getD (xs : List Int) (k : Nat) (h : k < xs.length) : xs.drop k = xs.getD k 0 :: xs.drop (k + 1) := by
  rw [List.drop_eq_getElem_cons h]
  simp [List.getD_eq_getElem?_getD, h]
theorem putS_same (n : Int) (k : Nat) (xs : List Int) (hk : k < xs.length) (hl : ∀ i, i < k → xs.getD i 0 < n) (he : xs.getD k 0 = n) : putS n xs = xs := by
  rw [putS_at n k xs (by omega) hl, drop_getD xs k hk, he]
  simp only [putS, Int.lt_irrefl, if_false, if_true]
  conv => rhs; rw [← List.take_append_drop k xs, drop_getD xs k hk, he]
theorem putS_mid (n : Int) (k : Nat) (xs : List Int) (hk : k < xs.length) (hl : ∀ i, i < k → xs.getD i 0 < n) (h1 : ¬ xs.getD k 0 < n) (h2 : ¬ xs.getD k 0 = n) : putS n xs = (xs.take k ++ [n]) ++ xs.drop k := by
  rw [putS_at n k xs (by omega) hl, drop_getD xs k hk]
  simp only [putS, if_neg h1, if_neg h2]
  simp
theorem putS_low (n : Int) : ∀ (xs : List Int), (∀ y ∈ xs, n < y) → putS n xs = n :: xs
  | [], _ => rfl
  | x :: r, h => by
    have := h x (by simp)
    simp only [putS]
    rw [if_neg (by omega), if_neg (by omega)]
/-- The numbers that Booleans tell. -/
def selF (o : Nat) : List Bool → List Int
  | [] => []
  | b :: r => if b then (o : Int) :: selF (o + 1) r else selF (o + 1) r
theorem selF_ge : ∀ (bs : List Bool) (o : Nat), ∀ y ∈ selF o bs, (o : Int) ≤ y
  | [], o, y, h => by simp [selF] at h
  | b :: r, o, y, h => by
    simp only [selF] at h
    split at h
    · rcases List.mem_cons.1 h with rfl | h
      · omega
      · have := selF_ge r (o + 1) y h
        omega
    · have := selF_ge r (o + 1) y h
      omega
theorem selF_len : ∀ (bs : List Bool) (o : Nat), (selF o bs).length ≤ bs.length
  | [], o => Nat.le_refl _
  | b :: r, o => by
    have := selF_len r (o + 1)
    simp only [selF]
    split <;> simp <;> omega
theorem putS_sel : ∀ (bs : List Bool) (o i : Nat), i < bs.length → putS ((o + i : Nat) : Int) (selF o bs) = selF o (bs.set i true)
  | [], o, i, h => by simp at h
  | b :: r, o, 0, h => by
    cases b with
    | true => simp [selF, putS]
    | false =>
      simp only [selF, List.set_cons_zero, if_true, Nat.add_zero]
      exact putS_low _ _ (fun y hy => by have := selF_ge r (o + 1) y (by simpa using hy); omega)
  | b :: r, o, i + 1, h => by
    have ih := putS_sel r (o + 1) i (by simpa using h)
    rw [show o + 1 + i = o + (i + 1) from by omega] at ih
    cases b with
    | true =>
      simp only [selF, List.set_cons_succ, if_true, putS]
      rw [if_pos (by omega), ih]
    | false =>
      simp only [selF, List.set_cons_succ, Bool.false_eq_true, if_false]
      exact ih
theorem selF_mem : ∀ (bs : List Bool) (o i : Nat), ((o + i : Nat) : Int) ∈ selF o bs ↔ bs.getD i false = true
  | [], o, i => by simp [selF]
  | b :: r, o, 0 => by
    cases b with
    | true => simp [selF]
    | false =>
      simp only [selF, Bool.false_eq_true, if_false, List.getD_cons_zero, iff_false]
      intro h
      have := selF_ge r (o + 1) _ h
      omega
  | b :: r, o, i + 1 => by
    have ih := selF_mem r (o + 1) i
    rw [show o + 1 + i = o + (i + 1) from by omega] at ih
    cases b with
    | true =>
      simp only [selF, if_true, List.mem_cons, List.getD_cons_succ]
      rw [← ih]
      constructor
      · rintro (h | h)
        · omega
        · exact h
      · exact .inr
    | false =>
      simp only [selF, Bool.false_eq_true, if_false, List.getD_cons_succ]
      exact ih
theorem selF_app : ∀ (a b : List Bool) (o : Nat), selF o (a ++ b) = selF o a ++ selF (o + a.length) b
  | [], b, o => by simp [selF]
  | x :: r, b, o => by
    have ih := selF_app r b (o + 1)
    rw [show o + 1 + r.length = o + (x :: r).length from by simp; omega] at ih
    simp only [List.cons_append, selF, ih]
    split <;> simp
theorem selF_succ (bs : List Bool) (k : Nat) (h : k < bs.length) : selF 0 (bs.take (k + 1)) = selF 0 (bs.take k) ++ (if bs.getD k false then [(k : Int)] else []) := by
  rw [take_succ_getD bs k false h, selF_app]
  simp [selF, Nat.min_eq_left (Nat.le_of_lt h)]
theorem selF_none (n o : Nat) : selF o (List.replicate n false) = [] := by
  induction n generalizing o with
  | zero => rfl
  | succ n ih => simp [List.replicate_succ, selF, ih]
/-- Numbers are come to, one after the other. -/
def rchN (bs : List Bool) (ks : List Int) : List Bool := ks.foldl (fun b x => b.set x.toNat true) bs
theorem rchN_len : ∀ (ks : List Int) (bs : List Bool), (rchN bs ks).length = bs.length
  | [], bs => rfl
  | x :: r, bs => by
    have := rchN_len r (bs.set x.toNat true)
    simpa [rchN] using this
theorem rchN_succ (bs : List Bool) (ks : List Int) (i : Nat) (h : i < ks.length) : rchN bs (ks.take (i + 1)) = (rchN bs (ks.take i)).set (ks.getD i 0).toNat true := by
  rw [take_succ_getD ks i 0 h]
  simp [rchN, List.foldl_append]
/-- Down the numbers from k. -/
def rchD (m : List Nd) : Nat → List Bool → List Bool
  | 0, bs => bs
  | k + 1, bs => rchD m k (if bs.getD k false then rchN bs (m.getD k nd0).1 else bs)
theorem rchD_len (m : List Nd) : ∀ (k : Nat) (bs : List Bool), (rchD m k bs).length = bs.length
  | 0, bs => rfl
  | k + 1, bs => by
    simp only [rchD]
    rw [rchD_len m k]
    split
    · exact rchN_len _ _
    · rfl
/-- What is come to from the roots. -/
def rchA (m : List Nd) (rs : List Int) : List Bool := rchD m m.length (rchN (List.replicate m.length false) rs)
theorem rchA_len (m : List Nd) (rs : List Int) : (rchA m rs).length = m.length := by
  unfold rchA
  rw [rchD_len, rchN_len, List.length_replicate]
end Go.Proofs.Ytakhggnbhjoojaa

/-
  Cauchy's matrices have inverses, and an answer by rows solves what was asked: plain mathematics over the functions' answers. No call is walked here.
-/
import Derived.Test.YtogopakmebiomaaDoorKern2
import Derived.Test.YtogopakmebiomaaDoorCauP
import Derived.Test.YtogopakmebiomaaDoorSolveP
namespace Go.Proofs.YtogopakmebiomaaDoor
open Go.RowKit
open Gf (ci nat ciM Sh AllLt dotTo solN identN colN colL invTo joinN clr opM hOf fOf piv)

namespace Gf
theorem dot_app {r s z y : List Nat} {n : Nat} (hr : r.length = n) (hz : z.length = n) : ∀ m, dotTo (r ++ s) (z ++ y) (n + m) = dotTo r z n ^^^ dotTo s y m := by
  have low : ∀ k, k ≤ n → dotTo (r ++ s) (z ++ y) k = dotTo r z k := by
    intro k
    induction k with
    | zero => intro _; rfl
    | succ k ih => intro h; rw [dotTo, dotTo, ih (by omega), getD_app_left _ _ _ (by omega), getD_app_left _ _ _ (by omega)]
  intro m
  induction m with
  | zero => rw [Nat.add_zero, low n (Nat.le_refl _)]; simp [dotTo]
  | succ m ih =>
    have e1 : (r ++ s).getD (n + m) 0 = s.getD m 0 := by rw [List.getD_eq_getElem?_getD, List.getElem?_append_right (by omega), hr, Nat.add_sub_cancel_left, ← List.getD_eq_getElem?_getD]
    have e2 : (z ++ y).getD (n + m) 0 = y.getD m 0 := by rw [List.getD_eq_getElem?_getD, List.getElem?_append_right (by omega), hz, Nat.add_sub_cancel_left, ← List.getD_eq_getElem?_getD]
    rw [← Nat.add_assoc, dotTo, ih, dotTo, e1, e2, Nat.xor_assoc]
/-- What the reduced pair, joined, takes to noughts the pair does. -/
theorem pair_kern {A S : List (List Nat)} {n c d : Nat} {z : List Nat} (ha : Sh A n c) (hs : Sh S n d) (hz : AllLt z) : ∀ k, k ≤ n → ∀ q, invTo A S k = some q → (∀ i, i < n → dotTo ((joinN q.1 q.2).getD i []) z (c + d) = 0) → ∀ i, i < n → dotTo ((joinN A S).getD i []) z (c + d) = 0 := by
  intro k
  induction k with
  | zero => intro _ q h hh; simp only [invTo, Option.some.injEq] at h; subst h; exact hh
  | succ k ih =>
    intro hk q h hh
    rw [invTo] at h
    cases e : invTo A S k with
    | none => rw [e] at h; simp at h
    | some r =>
      obtain ⟨h1, h2⟩ := invTo_sh ha hs k (by omega) r e
      rw [e] at h
      simp only [] at h
      cases e2 : piv r.1 k k with
      | none => rw [e2] at h; simp at h
      | some p =>
        rw [e2] at h
        simp only [Option.some.injEq] at h
        subst h
        obtain ⟨_, p2, p3⟩ := piv_facts e2
        rw [h1.len] at p2
        have hj := h1.join h2
        refine ih (by omega) r e (op_kern (at_ := k) (p := p) (x := hOf r.1 k p) (fs := fOf r.1 k k p) hj (by omega) p2 (h1.elt p k) p3 (fun i => (h1.swap k p (by omega) p2).elt i k) hz ?_)
        rw [op_join h1 h2 (by omega) p2]
        exact hh
theorem dot_identRow {r z : List Nat} {n i : Nat} (hz : AllLt z) (hU : ∀ j, j < n → r.getD j 0 = if i = j then 1 else 0) : ∀ k, k ≤ n → dotTo r z k = if i < k then z.getD i 0 else 0 := by
  intro k
  induction k with
  | zero => intro _; simp [dotTo]
  | succ k ih =>
    intro h
    rw [dotTo, ih (by omega), hU k (by omega)]
    by_cases e : i = k
    · subst e; rw [if_pos rfl, one_mul _ (hz i), if_neg (by omega), if_pos (by omega), Nat.zero_xor]
    · rw [if_neg e, zero_mul (hz k), Nat.xor_zero]
      by_cases h2 : i < k
      · rw [if_pos h2, if_pos (by omega)]
      · rw [if_neg h2, if_neg (by omega)]
/-- The answer by rows solves: each row times it is what was asked there. -/
theorem solve_right {A : List (List Nat)} {V : List Nat} {n : Nat} (ha : Sh A n n) (hV : AllLt V) (hl : V.length = n) (hok : (solN A (colN V)).2 = true) :
    ∀ i, i < n → dotTo (A.getD i []) ((solN A (colN V)).1.map fun r => r.getD 0 0) n = V.getD i 0 := by
  have hc : Sh (colN V) n 1 := sh_col hl hV
  cases e : invTo A (colN V) n with
  | none => unfold solN at hok; rw [ha.len, e] at hok; cases hok
  | some q =>
    obtain ⟨h1, h2⟩ := invTo_sh ha hc n (Nat.le_refl _) q e
    have hs : solN A (colN V) = (q.2, true) := by unfold solN; rw [ha.len, e]
    rw [hs]
    simp only []
    obtain ⟨s, hsd⟩ : ∃ s, s = q.2.map fun r => r.getD 0 0 := ⟨_, rfl⟩
    rw [← hsd]
    have sl : s.length = n := by rw [hsd, List.length_map, h2.len]
    have sg : ∀ i, i < n → s.getD i 0 = (q.2.getD i []).getD 0 0 := fun i hi => by rw [hsd, map_get _ _ _ _ (by rw [h2.len]; exact hi)]
    have slt : AllLt s := by
      intro j
      by_cases hj : j < n
      · rw [sg j hj]; exact h2.elt j 0
      · rw [List.getD_eq_getElem?_getD, List.getElem?_eq_none (by omega)]; decide
    have zlt : AllLt (s ++ [1]) := allLt_app slt (by intro j; cases j <;> simp)
    have U := inv_unit ha hc (Nat.le_refl _) n (Nat.le_refl _) q e
    have hq : ∀ i, i < n → dotTo ((joinN q.1 q.2).getD i []) (s ++ [1]) (n + 1) = 0 := by
      intro i hi
      rw [joinN_get _ _ _ (by rw [h1.len]; exact hi), dot_app (h1.row i hi) sl 1, dot_identRow slt (fun j hj => U i j hi hj) n (Nat.le_refl _), if_pos hi, dotTo, dotTo, Nat.zero_xor]
      have e1 : ([1] : List Nat).getD 0 0 = 1 := rfl
      rw [e1, mul_one _ (h2.elt i 0), sg i hi, Nat.xor_self]
    intro i hi
    have := pair_kern ha hc zlt n (Nat.le_refl _) q e hq i hi
    rw [joinN_get _ _ _ (by rw [ha.len]; exact hi), dot_app (ha.row i hi) sl 1, dotTo, dotTo, Nat.zero_xor] at this
    have e1 : ([1] : List Nat).getD 0 0 = 1 := rfl
    have e2 : ((colN V).getD i []).getD 0 0 = V.getD i 0 := by simp [colN, List.getD_eq_getElem?_getD, hl, hi]
    rw [e1, e2, mul_one _ (hV i)] at this
    exact xor_zero_eq this
end Gf
/-- Of Cauchy's matrix of unlike elements, as many rows as columns, there is an inverse. -/
theorem cau_inv {xs ys : List Int} {n : Nat} (hx : xs.length = n) (hy : ys.length = n) (hn : 1 ≤ n) (hn8 : n ≤ 8) (hu : unl (xs ++ ys) = true) : (invR (cauM xs ys)).2 = true := by
  obtain ⟨ex, ey⟩ := unl_parts hu
  have hrow : ∀ i, i < n → (cauM xs ys).getD i [] = cauRow (xs.getD i 0) ys := fun i hi => cauM_get _ _ _ (by rw [hx]; exact hi)
  have hel : ∀ i, i < n → ((cauM xs ys).getD i []).all Gf.elOk = true := fun i hi => by
    rw [hrow i hi]
    refine Gf.all_of_getD.2 fun j hj => ?_
    rw [cauRow_length] at hj
    rw [cauRow_get _ _ _ hj]
    have := Gf.inv_lt ((xs.getD i 0).toNat ^^^ (ys.getD j 0).toNat)
    simp only [Gf.elOk, decide_eq_true_eq]
    omega
  have hlen : (cauM xs ys).length = n := by rw [cauM_length, hx]
  have hr0 : ((cauM xs ys).getD 0 []).length = n := by rw [hrow 0 (by omega), cauRow_length, hy]
  have hg : goodM (cauM xs ys) = true := by
    unfold goodM
    simp only [Bool.and_eq_true]
    refine ⟨?_, ?_, ?_, ?_⟩
    · rw [hlen]; exact decide_eq_true (by omega)
    · rw [hr0]; exact decide_eq_true (by omega)
    · refine all_yes (d := []) fun i hi => ?_
      rw [hlen] at hi
      rw [hr0, hrow i hi, cauRow_length, hy]
      simp
    · refine all_yes (d := []) fun i hi => ?_
      rw [hlen] at hi
      exact hel i hi
  have hsq : sqOk (cauM xs ys) = true := by rw [sqOk, hg, hlen, hr0]; simp
  unfold invR
  rw [if_pos hsq]
  simp only []
  have hsh := sh_sq hsq
  rw [hlen] at hsh ⊢
  have nd : (xs ++ ys).Pairwise (· ≠ ·) := by
    unfold unl at hu
    simp only [Bool.and_eq_true, decide_eq_true_eq] at hu
    exact hu.1
  rw [List.pairwise_append] at nd
  obtain ⟨ndx, ndy, ndxy⟩ := nd
  have pw : ∀ (l : List Int), l.Pairwise (· ≠ ·) → l.all Gf.elOk = true → ∀ i j, i < l.length → j < l.length → i ≠ j → (l.getD i 0).toNat ≠ (l.getD j 0).toNat := by
    intro l hp he i j hi hj hij hh
    have a1 := Gf.elOk_tests (Gf.all_of_getD.1 he i hi)
    have a2 := Gf.elOk_tests (Gf.all_of_getD.1 he j hj)
    have e : l.getD i 0 = l.getD j 0 := by omega
    rw [List.getD_eq_getElem?_getD, List.getD_eq_getElem?_getD, List.getElem?_eq_getElem hi, List.getElem?_eq_getElem hj, Option.getD_some, Option.getD_some] at e
    rw [List.pairwise_iff_getElem] at hp
    rcases Nat.lt_or_gt_of_ne hij with h | h
    · exact hp i j hi hj h e
    · exact hp j i hj hi h e.symm
  have bd : ∀ (l : List Int), l.all Gf.elOk = true → ∀ i, (l.getD i 0).toNat < 256 := by
    intro l he i
    by_cases hi : i < l.length
    · have := Gf.elOk_tests (Gf.all_of_getD.1 he i hi); omega
    · rw [List.getD_eq_getElem?_getD, List.getElem?_eq_none (by omega)]; decide
  refine Gf.solN_ok hsh (Gf.sh_ident n) fun z hzl hz hk j hj => ?_
  refine Gf.cauchy_zero n (fun i => (xs.getD i 0).toNat) (fun j => (ys.getD j 0).toNat) (fun j => z.getD j 0) (bd xs ex) (bd ys ey) hz (fun i j hi hj => pw xs ndx ex i j (by omega) (by omega)) (fun i j hi hj => pw ys ndy ey i j (by omega) (by omega)) ?_ ?_ j hj
  · intro i j hi hj hh
    have a1 := Gf.elOk_tests (Gf.all_of_getD.1 ex i (by omega))
    have a2 := Gf.elOk_tests (Gf.all_of_getD.1 ey j (by omega))
    have e : xs.getD i 0 = ys.getD j 0 := by omega
    have m1 : xs.getD i 0 ∈ xs := by rw [List.getD_eq_getElem?_getD, List.getElem?_eq_getElem (by omega), Option.getD_some]; exact List.getElem_mem _
    have m2 : ys.getD j 0 ∈ ys := by rw [List.getD_eq_getElem?_getD, List.getElem?_eq_getElem (by omega), Option.getD_some]; exact List.getElem_mem _
    exact ndxy _ m1 _ m2 e
  · intro i hi
    have := hk i hi
    rw [Gf.dot_cs (x := (xs.getD i 0).toNat) (y := fun j => (ys.getD j 0).toNat) hz n (fun j hj => by
      rw [natM_get, hrow i hi]
      have h1 := Gf.ci_getD (nat (cauRow (xs.getD i 0) ys)) j
      rw [Gf.ci_nat (by have := hel i hi; rwa [hrow i hi] at this), cauRow_get _ _ _ (by omega)] at h1
      omega)] at this
    exact this
end Go.Proofs.YtogopakmebiomaaDoor

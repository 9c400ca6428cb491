/-
  A matrix and another one beside it, reduced as one and as two: plain mathematics. No call is walked here.
-/
import Derived.Test.YtogopakmebiomaaDoorGauss
namespace Go.Proofs.YtogopakmebiomaaDoor
open Go.RowKit
namespace Gf

theorem ext_getD {α : Type} {l m : List α} (d : α) (h : l.length = m.length) (hg : ∀ i, i < l.length → l.getD i d = m.getD i d) : l = m := by
  apply List.ext_getElem h
  intro i h1 h2
  have := hg i h1
  rwa [List.getD_eq_getElem?_getD, List.getD_eq_getElem?_getD, List.getElem?_eq_getElem h1, List.getElem?_eq_getElem h2, Option.getD_some, Option.getD_some] at this
theorem getD_app_left (a b : List Nat) (j : Nat) (h : j < a.length) : (a ++ b).getD j 0 = a.getD j 0 := by
  rw [List.getD_eq_getElem?_getD, List.getD_eq_getElem?_getD, List.getElem?_append_left h]

def joinN (A B : List (List Nat)) : List (List Nat) := (List.range A.length).map fun i => A.getD i [] ++ B.getD i []
theorem joinN_length (A B : List (List Nat)) : (joinN A B).length = A.length := by simp [joinN]
theorem joinN_get (A B : List (List Nat)) (i : Nat) (h : i < A.length) : (joinN A B).getD i [] = A.getD i [] ++ B.getD i [] := by simp [joinN, h]
theorem allLt_app {a b : List Nat} (ha : AllLt a) (hb : AllLt b) : AllLt (a ++ b) := by
  intro i
  by_cases h : i < a.length
  · rw [getD_app_left _ _ _ h]; exact ha i
  · rw [List.getD_eq_getElem?_getD, List.getElem?_append_right (by omega), ← List.getD_eq_getElem?_getD]; exact hb _
theorem Sh.join {A B : List (List Nat)} {n c d : Nat} (ha : Sh A n c) (hb : Sh B n d) : Sh (joinN A B) n (c + d) := by
  refine ⟨by rw [joinN_length, ha.len], fun i hi => ?_, fun i hi => ?_⟩
  · rw [joinN_get _ _ _ (by rw [ha.len]; exact hi), List.length_append, ha.row i hi, hb.row i hi]
  · rw [joinN_get _ _ _ (by rw [ha.len]; exact hi)]; exact allLt_app (ha.lt i hi) (hb.lt i hi)
theorem join_elt {A B : List (List Nat)} {n c : Nat} (ha : Sh A n c) (i col : Nat) (hi : i < n) (hc : col < c) : ((joinN A B).getD i []).getD col 0 = (A.getD i []).getD col 0 := by
  rw [joinN_get _ _ _ (by rw [ha.len]; exact hi), getD_app_left _ _ _ (by rw [ha.row i hi]; exact hc)]
theorem pf_join {A B : List (List Nat)} {n c col : Nat} (ha : Sh A n c) (hc : col < c) : ∀ d j, j + d ≤ n → pf (joinN A B) col d j = pf A col d j := by
  intro d
  induction d with
  | zero => intro j _; rfl
  | succ d ih => intro j h; rw [pf, pf, join_elt ha j col (by omega) hc, ih (j + 1) (by omega)]
theorem piv_join {A B : List (List Nat)} {n c col at_ : Nat} (ha : Sh A n c) (hc : col < c) (h : at_ ≤ n) : piv (joinN A B) at_ col = piv A at_ col := by
  unfold piv
  rw [joinN_length, ha.len, pf_join ha hc _ _ (by omega)]
theorem swap_join {A B : List (List Nat)} {n c d a b : Nat} (ha : Sh A n c) (hb : Sh B n d) (h1 : a < n) (h2 : b < n) : swapM (joinN A B) a b = joinN (swapM A a b) (swapM B a b) := by
  apply ext_getD []
  · rw [swapM_length, joinN_length, joinN_length, swapM_length]
  · intro i hi
    rw [swapM_length, joinN_length, ha.len] at hi
    rw [swapM_get _ _ _ _ (by rw [joinN_length, ha.len]; exact h1) (by rw [joinN_length, ha.len]; exact h2), joinN_get (swapM A a b) _ _ (by rw [swapM_length, ha.len]; exact hi), swapM_get _ _ _ _ (by rw [ha.len]; exact h1) (by rw [ha.len]; exact h2), swapM_get _ _ _ _ (by rw [hb.len]; exact h1) (by rw [hb.len]; exact h2)]
    apply joinN_get
    rw [ha.len]
    split
    · exact h1
    · split
      · exact h2
      · exact hi
theorem head_join {A B : List (List Nat)} {n c d a h : Nat} (ha : Sh A n c) (hb : Sh B n d) (h1 : a < n) : headM (joinN A B) a h = joinN (headM A a h) (headM B a h) := by
  unfold headM
  apply ext_getD []
  · rw [List.length_set, joinN_length, joinN_length, List.length_set]
  · intro i hi
    rw [List.length_set, joinN_length, ha.len] at hi
    rw [getD_set _ _ _ _ _ (by rw [joinN_length, ha.len]; exact h1), joinN_get (A.set _ _) _ _ (by rw [List.length_set, ha.len]; exact hi), getD_set _ _ _ _ _ (by rw [ha.len]; exact h1), getD_set _ _ _ _ _ (by rw [hb.len]; exact h1)]
    split
    · rw [joinN_get _ _ _ (by rw [ha.len]; exact h1)]; simp [sc]
    · exact joinN_get _ _ _ (by rw [ha.len]; exact hi)
theorem clear_join {A B : List (List Nat)} {n c d b : Nat} {fs : Nat → Nat} (ha : Sh A n c) (hb : Sh B n d) (h1 : b < n) (k : Nat) : clearM (joinN A B) b fs k = joinN (clearM A b fs k) (clearM B b fs k) := by
  apply ext_getD []
  · rw [clearM_length, joinN_length, joinN_length, clearM_length]
  · intro i hi
    rw [clearM_length, joinN_length, ha.len] at hi
    rw [clearM_get _ _ _ _ _ (by rw [joinN_length, ha.len]; exact hi), joinN_get (clearM A b fs k) _ _ (by rw [clearM_length, ha.len]; exact hi), clearM_get _ _ _ _ _ (by rw [ha.len]; exact hi), clearM_get _ _ _ _ _ (by rw [hb.len]; exact hi)]
    split
    · rw [joinN_get _ _ _ (by rw [ha.len]; exact hi), joinN_get _ _ _ (by rw [ha.len]; exact h1)]
      unfold addRow
      rw [List.zipWith_append (by rw [ha.row i hi, ha.row b h1])]
    · exact joinN_get _ _ _ (by rw [ha.len]; exact hi)
theorem op_join {A B : List (List Nat)} {n c d a p h : Nat} {fs : Nat → Nat} (ha : Sh A n c) (hb : Sh B n d) (h1 : a < n) (h2 : p < n) : opM (joinN A B) a p h fs = joinN (opM A a p h fs) (opM B a p h fs) := by
  unfold opM
  rw [swap_join ha hb h1 h2, head_join (ha.swap a p h1 h2) (hb.swap a p h1 h2) h1, clear_join ((ha.swap a p h1 h2).head a h h1) ((hb.swap a p h1 h2).head a h h1) h1, joinN_length, ha.len, hb.len]
theorem op_congr {M : List (List Nat)} {n c a p h : Nat} {fs gs : Nat → Nat} (hm : Sh M n c) (e : ∀ i, i < n → fs i = gs i) : opM M a p h fs = opM M a p h gs := by
  unfold opM clearM
  apply List.map_congr_left
  intro i hi
  have hl : (headM (swapM M a p) a h).length = n := by unfold headM; rw [List.length_set, swapM_length, hm.len]
  rw [List.mem_range, hl] at hi
  rw [e i hi]
theorem clr_join {A B : List (List Nat)} {n c d a col p : Nat} (ha : Sh A n c) (hb : Sh B n d) (h1 : a < n) (h2 : p < n) (hc : col < c) :
    clr (joinN A B) a col p = joinN (clr A a col p) (opM B a p (hOf A col p) (fOf A a col p)) := by
  unfold clr
  have e1 : hOf (joinN A B) col p = hOf A col p := by unfold hOf; exact join_elt ha p col h2 hc
  rw [e1, op_congr (gs := fOf A a col p) (ha.join hb) (fun i hi => ?_), op_join ha hb h1 h2]
  unfold fOf
  rw [swap_join ha hb h1 h2]
  exact join_elt (ha.swap a p h1 h2) i col hi hc

/-- A matrix and what stands beside it, when k columns have been cleared; nothing where one had none to clear it by. -/
def invTo (A S : List (List Nat)) : Nat → Option (List (List Nat) × List (List Nat))
  | 0 => some (A, S)
  | k + 1 => match invTo A S k with
    | none => none
    | some q => match piv q.1 k k with
      | none => none
      | some p => some (clr q.1 k k p, opM q.2 k p (hOf q.1 k p) (fOf q.1 k k p))
theorem invTo_sh {A S : List (List Nat)} {n c d : Nat} (ha : Sh A n c) (hs : Sh S n d) : ∀ k, k ≤ n → ∀ q, invTo A S k = some q → Sh q.1 n c ∧ Sh q.2 n d := by
  intro k
  induction k with
  | zero => intro _ q h; simp only [invTo, Option.some.injEq] at h; subst h; exact ⟨ha, hs⟩
  | succ k ih =>
    intro hk q h
    rw [invTo] at h
    cases e : invTo A S k with
    | none => rw [e] at h; simp at h
    | some r =>
      obtain ⟨h1, h2⟩ := ih (by omega) r e
      rw [e] at h
      simp only [] at h
      cases e2 : piv r.1 k k with
      | none => rw [e2] at h; simp at h
      | some p =>
        rw [e2] at h
        simp only [Option.some.injEq] at h
        have hp := (piv_facts e2).2.1
        rw [h1.len] at hp
        subst h
        exact ⟨h1.clr (by omega) hp, h2.op (by omega) hp (fun i => (h1.swap k p (by omega) hp).elt i k)⟩
theorem red_some {A S : List (List Nat)} {n c d : Nat} (ha : Sh A n c) (hs : Sh S n d) (hc : n ≤ c) : ∀ k, k ≤ n → ∀ q, invTo A S k = some q → redM (joinN A S) k = (k, joinN q.1 q.2) := by
  intro k
  induction k with
  | zero => intro _ q h; simp only [invTo, Option.some.injEq] at h; subst h; rfl
  | succ k ih =>
    intro hk q h
    rw [invTo] at h
    cases e : invTo A S k with
    | none => rw [e] at h; simp at h
    | some r =>
      obtain ⟨h1, h2⟩ := invTo_sh ha hs k (by omega) r e
      rw [e] at h
      simp only [] at h
      cases e2 : piv r.1 k k with
      | none => rw [e2] at h; simp at h
      | some p =>
        rw [e2] at h
        simp only [Option.some.injEq] at h
        have hp := (piv_facts e2).2.1
        rw [h1.len] at hp
        rw [redM, ih (by omega) r e, joinN_length, ha.len]
        simp only []
        rw [if_pos (by omega), piv_join h1 (by omega) (by omega), e2]
        simp only []
        rw [clr_join h1 h2 (by omega) hp (by omega)]
        subst h
        rfl
theorem red_le (M : List (List Nat)) (k : Nat) : (redM M (k + 1)).1 ≤ (redM M k).1 + 1 := by
  rw [redM]
  split
  · split
    · exact Nat.le_refl _
    · omega
  · omega
theorem red_none {A S : List (List Nat)} {n c d : Nat} (ha : Sh A n c) (hs : Sh S n d) (hc : n ≤ c) : ∀ k, k ≤ n → invTo A S k = none → (redM (joinN A S) k).1 < k := by
  intro k
  induction k with
  | zero => intro _ h; simp [invTo] at h
  | succ k ih =>
    intro hk h
    rw [invTo] at h
    cases e : invTo A S k with
    | none => have := ih (by omega) e; have := red_le (joinN A S) k; omega
    | some r =>
      obtain ⟨h1, h2⟩ := invTo_sh ha hs k (by omega) r e
      rw [e] at h
      simp only [] at h
      cases e2 : piv r.1 k k with
      | some p => rw [e2] at h; simp at h
      | none =>
        rw [redM, red_some ha hs hc k (by omega) r e, joinN_length, ha.len]
        simp only []
        rw [if_pos (by omega), piv_join h1 (by omega) (by omega), e2]
        simp only []
        omega
/-- What is beside a matrix when all its columns have been cleared. -/
def solN (A S : List (List Nat)) : List (List Nat) × Bool := match invTo A S A.length with
  | some q => (q.2, true)
  | none => ([], false)
theorem invTo_none {A S : List (List Nat)} {k : Nat} (h : invTo A S k = none) : ∀ j, invTo A S (k + j) = none := by
  intro j
  induction j with
  | zero => exact h
  | succ j ih => rw [← Nat.add_assoc, invTo, ih]
theorem solN_no {A S : List (List Nat)} {k : Nat} (h : invTo A S k = none) (hk : k ≤ A.length) : solN A S = ([], false) := by
  obtain ⟨j, hj⟩ : ∃ j, A.length = k + j := ⟨A.length - k, by omega⟩
  unfold solN
  rw [hj, invTo_none h]
end Gf
end Go.Proofs.YtogopakmebiomaaDoor

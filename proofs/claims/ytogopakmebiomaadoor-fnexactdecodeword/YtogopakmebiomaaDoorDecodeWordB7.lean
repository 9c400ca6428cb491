/-
  A matrix and another one beside it, reduced as one and as two: plain mathematics. No call is walked here. What is beside a matrix stays told by another one: a map of rows that keeps multiples and sums keeps what is reduced. Plain mathematics; no call is walked here. Cauchy's theorem and what has no inverse: plain mathematics. A column that cannot be cleared gives a column of numbers, not all 0, that the matrix takes to noughts; Cauchy's rows take none so. No call is walked here. What has no inverse takes a column of numbers, not all 0, to noughts; what has one is undone by it: plain mathematics. No call is walked here. Two rows swapped, and a row swapped up: the program's function and its model's, call by call. Each contract says what it asks. A column cleared: the program's function and its model's, call by call. Each contract says what it asks.
-/
import Derived.Test.YtogopakmebiomaaDoorDecodeWordB6
namespace Go.Proofs.YtogopakmebiomaaDoor
open Go.RowKit
namespace Gf

theorem ext_getD {α : Type} {l m : List α} (d : α) (h : l.length = m.length) (hg : ∀ i, i < l.length → l.getD i d = m.getD i d) : l = m := by
  apply List.ext_getElem h
  intro i h1 h2
  have := hg i h1
  rwa [List.getD_eq_getElem?_getD, List.getD_eq_getElem?_getD, List.getElem?_eq_getElem h1, List.getElem?_eq_getElem h2, Option.getD_some, Option.getD_some] at this
theorem getD_app_left (a b : List Nat) (j : Nat) (h : j < a.length) : (a ++ b).getD j 0 = a.getD j 0 := by
  rw [List.getD_eq_getElem?_getD, List.getD_eq_getElem?_getD, List.getElem?_append_left h]

def joinN (A B : List (List Nat)) : List (List Nat) := (List.range A.length).map fun i => A.getD i [] ++ B.getD i []
theorem joinN_length (A B : List (List Nat)) : (joinN A B).length = A.length := by simp [joinN]
theorem joinN_get (A B : List (List Nat)) (i : Nat) (h : i < A.length) : (joinN A B).getD i [] = A.getD i [] ++ B.getD i [] := by simp [joinN, h]
theorem allLt_app {a b : List Nat} (ha : AllLt a) (hb : AllLt b) : AllLt (a ++ b) := by
  intro i
  by_cases h : i < a.length
  · rw [getD_app_left _ _ _ h]; exact ha i
  · rw [List.getD_eq_getElem?_getD, List.getElem?_append_right (by omega), ← List.getD_eq_getElem?_getD]; exact hb _
theorem Sh.join {A B : List (List Nat)} {n c d : Nat} (ha : Sh A n c) (hb : Sh B n d) : Sh (joinN A B) n (c + d) := by
  refine ⟨by rw [joinN_length, ha.len], fun i hi => ?_, fun i hi => ?_⟩
  · rw [joinN_get _ _ _ (by rw [ha.len]; exact hi), List.length_append, ha.row i hi, hb.row i hi]
  · rw [joinN_get _ _ _ (by rw [ha.len]; exact hi)]; exact allLt_app (ha.lt i hi) (hb.lt i hi)
theorem join_elt {A B : List (List Nat)} {n c : Nat} (ha : Sh A n c) (i col : Nat) (hi : i < n) (hc : col < c) : ((joinN A B).getD i []).getD col 0 = (A.getD i []).getD col 0 := by
  rw [joinN_get _ _ _ (by rw [ha.len]; exact hi), getD_app_left _ _ _ (by rw [ha.row i hi]; exact hc)]
theorem pf_join {A B : List (List Nat)} {n c col : Nat} (ha : Sh A n c) (hc : col < c) : ∀ d j, j + d ≤ n → pf (joinN A B) col d j = pf A col d j := by
  intro d
  induction d with
  | zero => intro j _; rfl
  | succ d ih => intro j h; rw [pf, pf, join_elt ha j col (by omega) hc, ih (j + 1) (by omega)]
theorem piv_join {A B : List (List Nat)} {n c col at_ : Nat} (ha : Sh A n c) (hc : col < c) (h : at_ ≤ n) : piv (joinN A B) at_ col = piv A at_ col := by
  unfold piv
  rw [joinN_length, ha.len, pf_join ha hc _ _ (by omega)]
theorem swap_join {A B : List (List Nat)} {n c d a b : Nat} (ha : Sh A n c) (hb : Sh B n d) (h1 : a < n) (h2 : b < n) : swapM (joinN A B) a b = joinN (swapM A a b) (swapM B a b) := by
  apply ext_getD []
  · rw [swapM_length, joinN_length, joinN_length, swapM_length]
  · intro i hi
    rw [swapM_length, joinN_length, ha.len] at hi
    rw [swapM_get _ _ _ _ (by rw [joinN_length, ha.len]; exact h1) (by rw [joinN_length, ha.len]; exact h2), joinN_get (swapM A a b) _ _ (by rw [swapM_length, ha.len]; exact hi), swapM_get _ _ _ _ (by rw [ha.len]; exact h1) (by rw [ha.len]; exact h2), swapM_get _ _ _ _ (by rw [hb.len]; exact h1) (by rw [hb.len]; exact h2)]
    apply joinN_get
    rw [ha.len]
    split
    · exact h1
    · split
      · exact h2
      · exact hi
theorem head_join {A B : List (List Nat)} {n c d a h : Nat} (ha : Sh A n c) (hb : Sh B n d) (h1 : a < n) : headM (joinN A B) a h = joinN (headM A a h) (headM B a h) := by
  unfold headM
  apply ext_getD []
  · rw [List.length_set, joinN_length, joinN_length, List.length_set]
  · intro i hi
    rw [List.length_set, joinN_length, ha.len] at hi
    rw [getD_set _ _ _ _ _ (by rw [joinN_length, ha.len]; exact h1), joinN_get (A.set _ _) _ _ (by rw [List.length_set, ha.len]; exact hi), getD_set _ _ _ _ _ (by rw [ha.len]; exact h1), getD_set _ _ _ _ _ (by rw [hb.len]; exact h1)]
    split
    · rw [joinN_get _ _ _ (by rw [ha.len]; exact h1)]; simp [sc]
    · exact joinN_get _ _ _ (by rw [ha.len]; exact hi)
theorem clear_join {A B : List (List Nat)} {n c d b : Nat} {fs : Nat → Nat} (ha : Sh A n c) (hb : Sh B n d) (h1 : b < n) (k : Nat) : clearM (joinN A B) b fs k = joinN (clearM A b fs k) (clearM B b fs k) := by
  apply ext_getD []
  · rw [clearM_length, joinN_length, joinN_length, clearM_length]
  · intro i hi
    rw [clearM_length, joinN_length, ha.len] at hi
    rw [clearM_get _ _ _ _ _ (by rw [joinN_length, ha.len]; exact hi), joinN_get (clearM A b fs k) _ _ (by rw [clearM_length, ha.len]; exact hi), clearM_get _ _ _ _ _ (by rw [ha.len]; exact hi), clearM_get _ _ _ _ _ (by rw [hb.len]; exact hi)]
    split
    · rw [joinN_get _ _ _ (by rw [ha.len]; exact hi), joinN_get _ _ _ (by rw [ha.len]; exact h1)]
      unfold addRow
      rw [List.zipWith_append (by rw [ha.row i hi, ha.row b h1])]
    · exact joinN_get _ _ _ (by rw [ha.len]; exact hi)
theorem op_join {A B : List (List Nat)} {n c d a p h : Nat} {fs : Nat → Nat} (ha : Sh A n c) (hb : Sh B n d) (h1 : a < n) (h2 : p < n) : opM (joinN A B) a p h fs = joinN (opM A a p h fs) (opM B a p h fs) := by
  unfold opM
  rw [swap_join ha hb h1 h2, head_join (ha.swap a p h1 h2) (hb.swap a p h1 h2) h1, clear_join ((ha.swap a p h1 h2).head a h h1) ((hb.swap a p h1 h2).head a h h1) h1, joinN_length, ha.len, hb.len]
theorem op_congr {M : List (List Nat)} {n c a p h : Nat} {fs gs : Nat → Nat} (hm : Sh M n c) (e : ∀ i, i < n → fs i = gs i) : opM M a p h fs = opM M a p h gs := by
  unfold opM clearM
  apply List.map_congr_left
  intro i hi
  have hl : (headM (swapM M a p) a h).length = n := by unfold headM; rw [List.length_set, swapM_length, hm.len]
  rw [List.mem_range, hl] at hi
  rw [e i hi]
theorem clr_join {A B : List (List Nat)} {n c d a col p : Nat} (ha : Sh A n c) (hb : Sh B n d) (h1 : a < n) (h2 : p < n) (hc : col < c) :
    clr (joinN A B) a col p = joinN (clr A a col p) (opM B a p (hOf A col p) (fOf A a col p)) := by
  unfold clr
  have e1 : hOf (joinN A B) col p = hOf A col p := by unfold hOf; exact join_elt ha p col h2 hc
  rw [e1, op_congr (gs := fOf A a col p) (ha.join hb) (fun i hi => ?_), op_join ha hb h1 h2]
  unfold fOf
  rw [swap_join ha hb h1 h2]
  exact join_elt (ha.swap a p h1 h2) i col hi hc

/-- A matrix and what stands beside it, when k columns have been cleared; nothing where one had none to clear it by. -/
def invTo (A S : List (List Nat)) : Nat → Option (List (List Nat) × List (List Nat))
  | 0 => some (A, S)
  | k + 1 => match invTo A S k with
    | none => none
    | some q => match piv q.1 k k with
      | none => none
      | some p => some (clr q.1 k k p, opM q.2 k p (hOf q.1 k p) (fOf q.1 k k p))
theorem invTo_sh {A S : List (List Nat)} {n c d : Nat} (ha : Sh A n c) (hs : Sh S n d) : ∀ k, k ≤ n → ∀ q, invTo A S k = some q → Sh q.1 n c ∧ Sh q.2 n d := by
  intro k
  induction k with
  | zero => intro _ q h; simp only [invTo, Option.some.injEq] at h; subst h; exact ⟨ha, hs⟩
  | succ k ih =>
    intro hk q h
    rw [invTo] at h
    cases e : invTo A S k with
    | none => rw [e] at h; simp at h
    | some r =>
      obtain ⟨h1, h2⟩ := ih (by omega) r e
      rw [e] at h
      simp only [] at h
      cases e2 : piv r.1 k k with
      | none => rw [e2] at h; simp at h
      | some p =>
        rw [e2] at h
        simp only [Option.some.injEq] at h
        have hp := (piv_facts e2).2.1
        rw [h1.len] at hp
        subst h
        exact ⟨h1.clr (by omega) hp, h2.op (by omega) hp (fun i => (h1.swap k p (by omega) hp).elt i k)⟩
theorem red_some {A S : List (List Nat)} {n c d : Nat} (ha : Sh A n c) (hs : Sh S n d) (hc : n ≤ c) : ∀ k, k ≤ n → ∀ q, invTo A S k = some q → redM (joinN A S) k = (k, joinN q.1 q.2) := by
  intro k
  induction k with
  | zero => intro _ q h; simp only [invTo, Option.some.injEq] at h; subst h; rfl
  | succ k ih =>
    intro hk q h
    rw [invTo] at h
    cases e : invTo A S k with
    | none => rw [e] at h; simp at h
    | some r =>
      obtain ⟨h1, h2⟩ := invTo_sh ha hs k (by omega) r e
      rw [e] at h
      simp only [] at h
      cases e2 : piv r.1 k k with
      | none => rw [e2] at h; simp at h
      | some p =>
        rw [e2] at h
        simp only [Option.some.injEq] at h
        have hp := (piv_facts e2).2.1
        rw [h1.len] at hp
        rw [redM, ih (by omega) r e, joinN_length, ha.len]
        simp only []
        rw [if_pos (by omega), piv_join h1 (by omega) (by omega), e2]
        simp only []
        rw [clr_join h1 h2 (by omega) hp (by omega)]
        subst h
        rfl
theorem red_le (M : List (List Nat)) (k : Nat) : (redM M (k + 1)).1 ≤ (redM M k).1 + 1 := by
  rw [redM]
  split
  · split
    · exact Nat.le_refl _
    · omega
  · omega
theorem red_none {A S : List (List Nat)} {n c d : Nat} (ha : Sh A n c) (hs : Sh S n d) (hc : n ≤ c) : ∀ k, k ≤ n → invTo A S k = none → (redM (joinN A S) k).1 < k := by
  intro k
  induction k with
  | zero => intro _ h; simp [invTo] at h
  | succ k ih =>
    intro hk h
    rw [invTo] at h
    cases e : invTo A S k with
    | none => have := ih (by omega) e; have := red_le (joinN A S) k; omega
    | some r =>
      obtain ⟨h1, h2⟩ := invTo_sh ha hs k (by omega) r e
      rw [e] at h
      simp only [] at h
      cases e2 : piv r.1 k k with
      | some p => rw [e2] at h; simp at h
      | none =>
        rw [redM, red_some ha hs hc k (by omega) r e, joinN_length, ha.len]
        simp only []
        rw [if_pos (by omega), piv_join h1 (by omega) (by omega), e2]
        simp only []
        omega
/-- What is beside a matrix when all its columns have been cleared. -/
def solN (A S : List (List Nat)) : List (List Nat) × Bool := match invTo A S A.length with
  | some q => (q.2, true)
  | none => ([], false)
theorem invTo_none {A S : List (List Nat)} {k : Nat} (h : invTo A S k = none) : ∀ j, invTo A S (k + j) = none := by
  intro j
  induction j with
  | zero => exact h
  | succ j ih => rw [← Nat.add_assoc, invTo, ih]
theorem solN_no {A S : List (List Nat)} {k : Nat} (h : invTo A S k = none) (hk : k ≤ A.length) : solN A S = ([], false) := by
  obtain ⟨j, hj⟩ : ∃ j, A.length = k + j := ⟨A.length - k, by omega⟩
  unfold solN
  rw [hj, invTo_none h]
end Gf
end Go.Proofs.YtogopakmebiomaaDoor

namespace Go.Proofs.YtogopakmebiomaaDoor
open Go.RowKit
namespace Gf

theorem map_get {α : Type} (L : List Nat → α) (S : List (List Nat)) (d : α) (i : Nat) (h : i < S.length) : (S.map L).getD i d = L (S.getD i []) := by
  simp [List.getD_eq_getElem?_getD, h]
structure Lin (L : List Nat → List Nat) (n : Nat) : Prop where
  sc : ∀ s f, s.length = n → AllLt s → f < 256 → L (sc s f) = Gf.sc (L s) f
  add : ∀ s q f, s.length = n → q.length = n → AllLt s → AllLt q → f < 256 → L (addRow s q f) = addRow (L s) (L q) f
theorem swap_map {L : List Nat → List Nat} {S : List (List Nat)} {n d a b : Nat} (hs : Sh S n d) (h1 : a < n) (h2 : b < n) : swapM (S.map L) a b = (swapM S a b).map L := by
  apply ext_getD []
  · rw [swapM_length, List.length_map, List.length_map, swapM_length]
  · intro i hi
    rw [swapM_length, List.length_map, hs.len] at hi
    rw [swapM_get _ _ _ _ (by rw [List.length_map, hs.len]; exact h1) (by rw [List.length_map, hs.len]; exact h2), map_get L (swapM S a b) _ _ (by rw [swapM_length, hs.len]; exact hi), swapM_get _ _ _ _ (by rw [hs.len]; exact h1) (by rw [hs.len]; exact h2)]
    apply map_get
    rw [hs.len]
    split
    · exact h1
    · split
      · exact h2
      · exact hi
theorem head_map {L : List Nat → List Nat} {S : List (List Nat)} {n d a h : Nat} (hL : Lin L d) (hs : Sh S n d) (h1 : a < n) : headM (S.map L) a h = (headM S a h).map L := by
  unfold headM
  apply ext_getD []
  · rw [List.length_set, List.length_map, List.length_map, List.length_set]
  · intro i hi
    rw [List.length_set, List.length_map, hs.len] at hi
    rw [getD_set _ _ _ _ _ (by rw [List.length_map, hs.len]; exact h1), map_get L (S.set _ _) _ _ (by rw [List.length_set, hs.len]; exact hi), getD_set _ _ _ _ _ (by rw [hs.len]; exact h1)]
    split
    · rw [map_get L _ _ _ (by rw [hs.len]; exact h1), hL.sc _ _ (hs.row a h1) (hs.lt a h1) (inv_lt h)]
    · exact map_get L _ _ _ (by rw [hs.len]; exact hi)
theorem clear_map {L : List Nat → List Nat} {S : List (List Nat)} {n d b : Nat} {fs : Nat → Nat} (hL : Lin L d) (hs : Sh S n d) (h1 : b < n) (hf : ∀ i, fs i < 256) (k : Nat) : clearM (S.map L) b fs k = (clearM S b fs k).map L := by
  apply ext_getD []
  · rw [clearM_length, List.length_map, List.length_map, clearM_length]
  · intro i hi
    rw [clearM_length, List.length_map, hs.len] at hi
    rw [clearM_get _ _ _ _ _ (by rw [List.length_map, hs.len]; exact hi), map_get L (clearM S b fs k) _ _ (by rw [clearM_length, hs.len]; exact hi), clearM_get _ _ _ _ _ (by rw [hs.len]; exact hi)]
    split
    · rw [map_get L _ _ _ (by rw [hs.len]; exact hi), map_get L _ _ _ (by rw [hs.len]; exact h1), hL.add _ _ _ (hs.row i hi) (hs.row b h1) (hs.lt i hi) (hs.lt b h1) (hf i)]
    · exact map_get L _ _ _ (by rw [hs.len]; exact hi)
theorem op_map {L : List Nat → List Nat} {S : List (List Nat)} {n d a p h : Nat} {fs : Nat → Nat} (hL : Lin L d) (hs : Sh S n d) (h1 : a < n) (h2 : p < n) (hf : ∀ i, fs i < 256) : opM (S.map L) a p h fs = (opM S a p h fs).map L := by
  unfold opM
  rw [swap_map hs h1 h2, head_map hL (hs.swap a p h1 h2) h1, clear_map hL ((hs.swap a p h1 h2).head a h h1) h1 hf, List.length_map]
theorem invTo_map {L : List Nat → List Nat} {A S : List (List Nat)} {n c d : Nat} (hL : Lin L d) (ha : Sh A n c) (hs : Sh S n d) : ∀ k, k ≤ n → invTo A (S.map L) k = (invTo A S k).map (fun q => (q.1, q.2.map L)) := by
  intro k
  induction k with
  | zero => intro _; rfl
  | succ k ih =>
    intro hk
    rw [invTo, invTo, ih (by omega)]
    cases e : invTo A S k with
    | none => rfl
    | some r =>
      obtain ⟨h1, h2⟩ := invTo_sh ha hs k (by omega) r e
      simp only [Option.map_some]
      cases e2 : piv r.1 k k with
      | none => rfl
      | some p =>
        have hp := (piv_facts e2).2.1
        rw [h1.len] at hp
        simp only [Option.map_some]
        rw [op_map (fs := fOf r.1 k k p) hL h2 (by omega) hp (fun i => (h1.swap k p (by omega) hp).elt i k)]
theorem solN_map {L : List Nat → List Nat} {A S : List (List Nat)} {n c d : Nat} (hL : Lin L d) (ha : Sh A n c) (hs : Sh S n d) : solN A (S.map L) = ((solN A S).1.map L, (solN A S).2) := by
  unfold solN
  rw [ha.len, invTo_map hL ha hs n (Nat.le_refl _)]
  cases invTo A S n with
  | none => rfl
  | some q => rfl

/-- The sum of products, place by place, of the first k. -/
def dotTo (r v : List Nat) : Nat → Nat
  | 0 => 0
  | k + 1 => dotTo r v k ^^^ mul (r.getD k 0) (v.getD k 0)
theorem dotTo_lt {r v : List Nat} (hr : AllLt r) : ∀ k, dotTo r v k < 256 := by
  intro k
  induction k with
  | zero => simp [dotTo]
  | succ k ih => rw [dotTo]; exact Nat.xor_lt_two_pow (n := 8) ih (mul_lt (hr k))
theorem sc_get (s : List Nat) (f i : Nat) (h : i < s.length) : (sc s f).getD i 0 = mul f (s.getD i 0) := by simp [sc, h]
theorem addRow_get (s q : List Nat) (f i : Nat) (h : i < s.length) (h2 : i < q.length) : (addRow s q f).getD i 0 = s.getD i 0 ^^^ mul f (q.getD i 0) := by
  simp [addRow, List.getD_eq_getElem?_getD, List.getElem?_zipWith, h, h2]
theorem dot_sc {s v : List Nat} {f : Nat} (hs : AllLt s) (hv : AllLt v) (hf : f < 256) : ∀ k, k ≤ s.length → dotTo (sc s f) v k = mul f (dotTo s v k) := by
  intro k
  induction k with
  | zero => intro _; simp [dotTo, mul_zero]
  | succ k ih => intro h; rw [dotTo, dotTo, ih (by omega), sc_get _ _ _ (by omega), mul_xor_b, mul_assoc _ _ _ hf (hs k) (hv k)]
theorem dot_add {s q v : List Nat} {f : Nat} (hs : AllLt s) (hq : AllLt q) (hv : AllLt v) (hf : f < 256) (hl : s.length = q.length) : ∀ k, k ≤ s.length → dotTo (addRow s q f) v k = dotTo s v k ^^^ mul f (dotTo q v k) := by
  intro k
  induction k with
  | zero => intro _; simp [dotTo, mul_zero]
  | succ k ih =>
    intro h
    rw [dotTo, dotTo, dotTo, ih (by omega), addRow_get _ _ _ _ (by omega) (by omega), mul_xor_a _ _ _ (hs k) (mul_lt hf), mul_xor_b, mul_assoc _ _ _ hf (hq k) (hv k), xor4]
def colL (v : List Nat) (n : Nat) (s : List Nat) : List Nat := [dotTo s v n]
theorem lin_col {v : List Nat} {n : Nat} (hv : AllLt v) : Lin (colL v n) n := by
  refine ⟨fun s f hl hs hf => ?_, fun s q f hl hl2 hs hq hf => ?_⟩
  · simp only [colL, sc, List.map_cons, List.map_nil]
    rw [← dot_sc hs hv hf n (by omega)]; rfl
  · simp only [colL, addRow, List.zipWith_cons_cons, List.zipWith_nil_left]
    rw [← dot_add hs hq hv hf (by omega) n (by omega)]; rfl
def unitN (n i : Nat) : List Nat := (List.replicate n 0).set i 1
def identN (n : Nat) : List (List Nat) := (List.range n).map (unitN n)
theorem unitN_get (n i j : Nat) (hi : i < n) : (unitN n i).getD j 0 = if j = i then 1 else 0 := by
  unfold unitN
  rw [getD_set _ _ _ _ _ (by simp; exact hi)]
  split
  · rfl
  · simp [List.getD_eq_getElem?_getD, List.getElem?_replicate]
    split <;> rfl
theorem identN_get (n i : Nat) (h : i < n) : (identN n).getD i [] = unitN n i := by simp [identN, h]
theorem sh_ident (n : Nat) : Sh (identN n) n n := by
  refine ⟨by simp [identN], fun i hi => ?_, fun i hi j => ?_⟩
  · rw [identN_get n i hi]; simp [unitN]
  · rw [identN_get n i hi, unitN_get n i j hi]; split <;> omega
theorem ci_unit (n i : Nat) : ci (unitN n i) = unitRow n i := by simp [ci, unitN, unitRow, List.map_set]
theorem ciM_ident (n : Nat) : ciM (identN n) = identM n := by
  unfold ciM identN identM
  rw [List.map_map]
  exact List.map_congr_left (fun i _ => ci_unit n i)
theorem dot_unit {v : List Nat} {n i : Nat} (hv : AllLt v) (hi : i < n) : ∀ k, dotTo (unitN n i) v k = if i < k then v.getD i 0 else 0 := by
  intro k
  induction k with
  | zero => simp [dotTo]
  | succ k ih =>
    rw [dotTo, ih, unitN_get n i k hi]
    by_cases e : k = i
    · subst e
      rw [if_neg (by omega), if_pos rfl, if_pos (by omega), one_mul _ (hv k), Nat.zero_xor]
    · rw [if_neg e, zero_mul (hv k), Nat.xor_zero]
      by_cases h : i < k
      · rw [if_pos h, if_pos (by omega)]
      · rw [if_neg h, if_neg (by omega)]
def colN (v : List Nat) : List (List Nat) := v.map fun x => [x]
theorem col_ident {v : List Nat} {n : Nat} (hv : AllLt v) (hl : v.length = n) : colN v = (identN n).map (colL v n) := by
  apply ext_getD []
  · simp [colN, identN, hl]
  · intro i hi
    have hi' : i < n := by simpa [colN, hl] using hi
    rw [map_get _ _ _ _ (by simp [identN]; exact hi'), identN_get n i hi']
    unfold colL
    rw [dot_unit hv hi' n, if_pos hi']
    simp [colN, List.getD_eq_getElem?_getD, hl, hi']
end Gf
end Go.Proofs.YtogopakmebiomaaDoor

namespace Go.Proofs.YtogopakmebiomaaDoor
open Go.RowKit
namespace Gf

/-- A sum of multiples of what is told by x and each y. -/
def cs (z y : Nat → Nat) (x : Nat) : Nat → Nat
  | 0 => 0
  | m + 1 => cs z y x m ^^^ mul (z m) (inv (x ^^^ y m))
def sumZ (z : Nat → Nat) : Nat → Nat
  | 0 => 0
  | m + 1 => sumZ z m ^^^ z m
theorem cs_lt {z y : Nat → Nat} {x : Nat} (hz : ∀ j, z j < 256) : ∀ m, cs z y x m < 256 := by
  intro m
  induction m with
  | zero => simp [cs]
  | succ m ih => exact xor_lt ih (mul_lt (hz m))
theorem cs_step {z y : Nat → Nat} {x Y : Nat} (hz : ∀ j, z j < 256) (hy : ∀ j, y j < 256) (hx : x < 256) (hY : Y < 256) : ∀ m, (∀ j, j < m → x ≠ y j) →
    mul (x ^^^ Y) (cs z y x m) = sumZ z m ^^^ cs (fun j => mul (z j) (y j ^^^ Y)) y x m := by
  intro m
  induction m with
  | zero => intro _; simp [cs, sumZ, mul_zero]
  | succ m ih =>
    intro h
    have hd : x ^^^ y m ≠ 0 := fun e => h m (by omega) (xor_zero_eq e)
    have b1 := xor_lt hx (hy m)
    have b2 := xor_lt (hy m) hY
    have e : x ^^^ Y = (x ^^^ y m) ^^^ (y m ^^^ Y) := by
      rw [Nat.xor_assoc, ← Nat.xor_assoc (y m), Nat.xor_self, Nat.zero_xor]
    have t : mul (x ^^^ Y) (mul (z m) (inv (x ^^^ y m))) = z m ^^^ mul (mul (z m) (y m ^^^ Y)) (inv (x ^^^ y m)) := by
      rw [e, mul_xor_a _ _ _ b1 b2, mul_left _ _ _ b1 (hz m) (inv_lt _), mul_inv _ b1 hd, mul_one _ (hz m), mul_left _ _ _ b2 (hz m) (inv_lt _), ← mul_assoc _ _ _ (hz m) b2 (inv_lt _)]
    rw [cs, sumZ, cs, mul_xor_b, ih (fun j hj => h j (by omega)), t, xor4]
theorem inv_two {a b : Nat} (ha : a < 256) (hb : b < 256) (a0 : a ≠ 0) (b0 : b ≠ 0) : inv a ^^^ inv b = mul (a ^^^ b) (mul (inv b) (inv a)) := by
  rw [mul_xor_a _ _ _ ha hb, mul_left a _ _ ha (inv_lt _) (inv_lt _), mul_inv a ha a0, mul_one _ (inv_lt _), ← mul_assoc b _ _ hb (inv_lt _) (inv_lt _), mul_inv b hb b0, one_mul _ (inv_lt _), Nat.xor_comm]
theorem cs_two {w y : Nat → Nat} {x X : Nat} (hw : ∀ j, w j < 256) (hy : ∀ j, y j < 256) (hx : x < 256) (hX : X < 256) : ∀ m, (∀ j, j < m → x ≠ y j ∧ X ≠ y j) →
    cs w y x m ^^^ cs w y X m = mul (x ^^^ X) (cs (fun j => mul (w j) (inv (X ^^^ y j))) y x m) := by
  intro m
  induction m with
  | zero => intro _; simp [cs, mul_zero]
  | succ m ih =>
    intro h
    obtain ⟨h1, h2⟩ := h m (by omega)
    have d1 : x ^^^ y m ≠ 0 := fun e => h1 (xor_zero_eq e)
    have d2 : X ^^^ y m ≠ 0 := fun e => h2 (xor_zero_eq e)
    have b1 := xor_lt hx (hy m)
    have b2 := xor_lt hX (hy m)
    have b3 := xor_lt hx hX
    have e : (x ^^^ y m) ^^^ (X ^^^ y m) = x ^^^ X := by
      rw [Nat.xor_comm X, Nat.xor_assoc, ← Nat.xor_assoc (y m), Nat.xor_self, Nat.zero_xor]
    have t : mul (w m) (inv (x ^^^ y m)) ^^^ mul (w m) (inv (X ^^^ y m)) = mul (x ^^^ X) (mul (mul (w m) (inv (X ^^^ y m))) (inv (x ^^^ y m))) := by
      rw [← mul_xor_b, inv_two b1 b2 d1 d2, e, mul_left _ _ _ (hw m) b3 (mul_lt (inv_lt _)), mul_assoc _ _ _ (hw m) (inv_lt _) (inv_lt _)]
    rw [cs, cs, cs, xor4, ih (fun j hj => h j (by omega)), t, ← mul_xor_b]
/-- Cauchy: where unlike elements are on both sides, no multiples but noughts sum to 0 for each x. -/
theorem cauchy_zero : ∀ (n : Nat) (x y z : Nat → Nat), (∀ i, x i < 256) → (∀ j, y j < 256) → (∀ j, z j < 256) → (∀ i j, i < n → j < n → i ≠ j → x i ≠ x j) → (∀ i j, i < n → j < n → i ≠ j → y i ≠ y j) → (∀ i j, i < n → j < n → x i ≠ y j) →
    (∀ i, i < n → cs z y (x i) n = 0) → ∀ j, j < n → z j = 0 := by
  intro n
  induction n with
  | zero => intro x y z _ _ _ _ _ _ _ j hj; omega
  | succ m ih =>
    intro x y z hx hy hz ix iy xy h
    have hw : ∀ j, mul (z j) (y j ^^^ y m) < 256 := fun j => mul_lt (hz j)
    have key : ∀ i, i < m + 1 → cs (fun j => mul (z j) (y j ^^^ y m)) y (x i) m = sumZ z m ^^^ z m := by
      intro i hi
      have hd : x i ^^^ y m ≠ 0 := fun e => xy i m hi (by omega) (xor_zero_eq e)
      have b := xor_lt (hx i) (hy m)
      have e1 := h i hi
      rw [cs] at e1
      have e2 : cs z y (x i) m = mul (z m) (inv (x i ^^^ y m)) := xor_zero_eq e1
      have e3 := cs_step (x := x i) (Y := y m) hz hy (hx i) (hy m) m (fun j hj => xy i j hi (by omega))
      rw [e2, mul_left _ _ _ b (hz m) (inv_lt _), mul_inv _ b hd, mul_one _ (hz m)] at e3
      rw [e3, ← Nat.xor_assoc, Nat.xor_self, Nat.zero_xor]
    have hv : ∀ i, i < m → cs (fun j => mul (mul (z j) (y j ^^^ y m)) (inv (x m ^^^ y j))) y (x i) m = 0 := by
      intro i hi
      have e1 := cs_two (x := x i) (X := x m) hw hy (hx i) (hx m) m (fun j hj => ⟨xy i j (by omega) (by omega), xy m j (by omega) (by omega)⟩)
      rw [key i (by omega), key m (by omega), Nat.xor_self] at e1
      have hd : x i ^^^ x m ≠ 0 := fun e => ix i m (by omega) (by omega) (by omega) (xor_zero_eq e)
      rcases mul_eq_zero _ _ (xor_lt (hx i) (hx m)) (cs_lt (fun j => mul_lt (hw j)) m) e1.symm with e | e
      · exact absurd e hd
      · exact e
    have hzero := ih x y (fun j => mul (mul (z j) (y j ^^^ y m)) (inv (x m ^^^ y j))) hx hy (fun j => mul_lt (hw j)) (fun i j hi hj => ix i j (by omega) (by omega)) (fun i j hi hj => iy i j (by omega) (by omega)) (fun i j hi hj => xy i j (by omega) (by omega)) hv
    have low : ∀ j, j < m → z j = 0 := by
      intro j hj
      have e := hzero j hj
      have d1 : x m ^^^ y j ≠ 0 := fun e => xy m j (by omega) (by omega) (xor_zero_eq e)
      have d2 : y j ^^^ y m ≠ 0 := fun e => iy j m (by omega) (by omega) (by omega) (xor_zero_eq e)
      rcases mul_eq_zero _ _ (hw j) (inv_lt _) e with e | e
      · rcases mul_eq_zero _ _ (hz j) (xor_lt (hy j) (hy m)) e with e | e
        · exact e
        · exact absurd e d2
      · exact absurd e (inv_ne (xor_lt (hx m) (hy j)) d1)
    intro j hj
    by_cases hjm : j < m
    · exact low j hjm
    · have hj' : j = m := by omega
      subst hj'
      have e1 := h j (by omega)
      rw [cs] at e1
      have e0 : ∀ k, k ≤ j → cs z y (x j) k = 0 := by
        intro k
        induction k with
        | zero => intro _; rfl
        | succ k ihk => intro hk; rw [cs, ihk (by omega), low k (by omega), zero_mul (inv_lt _), Nat.xor_zero]
      rw [e0 j (Nat.le_refl _), Nat.zero_xor] at e1
      have hd : x j ^^^ y j ≠ 0 := fun e => xy j j (by omega) (by omega) (xor_zero_eq e)
      rcases mul_eq_zero _ _ (hz j) (inv_lt _) e1 with e | e
      · exact e
      · exact absurd e (inv_ne (xor_lt (hx j) (hy j)) hd)
end Gf
end Go.Proofs.YtogopakmebiomaaDoor

namespace Go.Proofs.YtogopakmebiomaaDoor
open Go.RowKit
namespace Gf

theorem headM_get {M : List (List Nat)} {n c : Nat} (hm : Sh M n c) (at_ x i : Nat) (ha : at_ < n) : (headM M at_ x).getD i [] = if i = at_ then sc (M.getD at_ []) (inv x) else M.getD i [] := by
  unfold headM
  rw [getD_set _ _ _ _ _ (by rw [hm.len]; exact ha)]
/-- The rows behind one step: s is the matrix with its row swapped up. -/
theorem opM_get {M : List (List Nat)} {n c : Nat} (hm : Sh M n c) (at_ p x : Nat) (fs : Nat → Nat) (i : Nat) (ha : at_ < n) (hp : p < n) (hi : i < n) :
    (opM M at_ p x fs).getD i [] = if i = at_ then sc ((swapM M at_ p).getD at_ []) (inv x) else addRow ((swapM M at_ p).getD i []) (sc ((swapM M at_ p).getD at_ []) (inv x)) (fs i) := by
  have hs := hm.swap at_ p ha hp
  have hh := hs.head at_ x ha
  unfold opM
  rw [clearM_get _ _ _ _ _ (by rw [hh.len]; exact hi), headM_get hs at_ x i ha, headM_get hs at_ x at_ ha, if_pos rfl, hm.len]
  by_cases e : i = at_
  · subst e
    rw [if_neg (fun h => h.2 rfl), if_pos rfl, if_pos rfl]
  · rw [if_pos ⟨hi, e⟩, if_neg e, if_neg e]
theorem pf_none {M : List (List Nat)} {col : Nat} : ∀ d j, pf M col d j = none → ∀ i, j ≤ i → i < j + d → (M.getD i []).getD col 0 = 0 := by
  intro d
  induction d with
  | zero => intro j _ i h1 h2; omega
  | succ d ih =>
    intro j h i h1 h2
    rw [pf] at h
    by_cases e : (M.getD j []).getD col 0 ≠ 0
    · rw [if_pos e] at h; cases h
    · rw [if_neg e] at h
      by_cases e2 : i = j
      · subst e2; exact Classical.not_not.1 e
      · exact ih (j + 1) h i (by omega) (by omega)
theorem piv_none {M : List (List Nat)} {n c at_ col : Nat} (hm : Sh M n c) (h : piv M at_ col = none) (i : Nat) (h1 : at_ ≤ i) (h2 : i < n) : (M.getD i []).getD col 0 = 0 := by
  unfold piv at h
  rw [hm.len] at h
  exact pf_none _ _ h i h1 (by omega)

/-- A step can be taken back: what its rows take to noughts the rows ahead of it do. -/
theorem op_kern {M : List (List Nat)} {n c at_ p x : Nat} {fs : Nat → Nat} {z : List Nat} (hm : Sh M n c) (ha : at_ < n) (hp : p < n) (hx : x < 256) (hx0 : x ≠ 0) (hf : ∀ i, fs i < 256) (hz : AllLt z)
    (h : ∀ i, i < n → dotTo ((opM M at_ p x fs).getD i []) z c = 0) : ∀ i, i < n → dotTo (M.getD i []) z c = 0 := by
  have hs := hm.swap at_ p ha hp
  have e0 := h at_ ha
  rw [opM_get hm at_ p x fs at_ ha hp ha, if_pos rfl, dot_sc (hs.lt at_ ha) hz (inv_lt x) c (by rw [hs.row at_ ha]; exact Nat.le_refl _)] at e0
  have s0 : dotTo ((swapM M at_ p).getD at_ []) z c = 0 := by
    rcases mul_eq_zero _ _ (inv_lt x) (dotTo_lt (hs.lt at_ ha) c) e0 with e | e
    · exact absurd e (inv_ne hx hx0)
    · exact e
  have sw : ∀ i, i < n → dotTo ((swapM M at_ p).getD i []) z c = 0 := by
    intro i hi
    by_cases e : i = at_
    · rw [e]; exact s0
    · have ei := h i hi
      rw [opM_get hm at_ p x fs i ha hp hi, if_neg e, dot_add (hs.lt i hi) (sc_lt (inv_lt x)) hz (hf i) (by rw [sc_length, hs.row i hi, hs.row at_ ha]) c (by rw [hs.row i hi]; exact Nat.le_refl _), dot_sc (hs.lt at_ ha) hz (inv_lt x) c (by rw [hs.row at_ ha]; exact Nat.le_refl _)] at ei
      rw [s0, mul_zero, mul_zero, Nat.xor_zero] at ei
      exact ei
  intro i hi
  by_cases e1 : i = at_
  · have := sw p hp
    rw [swapM_get _ _ _ _ (by rw [hm.len]; exact ha) (by rw [hm.len]; exact hp), if_pos rfl] at this
    rw [e1]; exact this
  · by_cases e2 : i = p
    · have := sw at_ ha
      rw [swapM_get _ _ _ _ (by rw [hm.len]; exact ha) (by rw [hm.len]; exact hp)] at this
      by_cases e3 : at_ = p
      · exact absurd (e2.trans e3.symm) e1
      · rw [if_neg e3, if_pos rfl] at this
        rw [e2]; exact this
    · have := sw i hi
      rw [swapM_get _ _ _ _ (by rw [hm.len]; exact ha) (by rw [hm.len]; exact hp), if_neg e2, if_neg e1] at this
      exact this
theorem clr_kern {A : List (List Nat)} {n c k p : Nat} {z : List Nat} (ha : Sh A n c) (hk : k < n) (hp : piv A k k = some p) (hz : AllLt z) (h : ∀ i, i < n → dotTo ((clr A k k p).getD i []) z c = 0) : ∀ i, i < n → dotTo (A.getD i []) z c = 0 := by
  obtain ⟨_, h2, h3⟩ := piv_facts hp
  rw [ha.len] at h2
  exact op_kern ha hk h2 (ha.elt p k) h3 (fun i => (ha.swap k p hk h2).elt i k) hz h
theorem inv_kern {A S : List (List Nat)} {n c d : Nat} {z : List Nat} (ha : Sh A n c) (hs : Sh S n d) (hz : AllLt z) : ∀ k, k ≤ n → ∀ q, invTo A S k = some q → (∀ i, i < n → dotTo (q.1.getD i []) z c = 0) → ∀ i, i < n → dotTo (A.getD i []) z c = 0 := by
  intro k
  induction k with
  | zero => intro _ q h hh; simp only [invTo, Option.some.injEq] at h; subst h; exact hh
  | succ k ih =>
    intro hk q h hh
    rw [invTo] at h
    cases e : invTo A S k with
    | none => rw [e] at h; simp at h
    | some r =>
      obtain ⟨h1, h2⟩ := invTo_sh ha hs k (by omega) r e
      rw [e] at h
      simp only [] at h
      cases e2 : piv r.1 k k with
      | none => rw [e2] at h; simp at h
      | some p =>
        rw [e2] at h
        simp only [Option.some.injEq] at h
        subst h
        exact ih (by omega) r e (clr_kern h1 (by omega) e2 hz hh)
/-- The columns that are cleared are the identity's. -/
theorem inv_unit {A S : List (List Nat)} {n c d : Nat} (ha : Sh A n c) (hs : Sh S n d) (hc : n ≤ c) : ∀ k, k ≤ n → ∀ q, invTo A S k = some q → ∀ i j, i < n → j < k → (q.1.getD i []).getD j 0 = if i = j then 1 else 0 := by
  intro k
  induction k with
  | zero => intro _ q _ i j _ hj; omega
  | succ k ih =>
    intro hk q h i j hi hj
    rw [invTo] at h
    cases e : invTo A S k with
    | none => rw [e] at h; simp at h
    | some r =>
      obtain ⟨h1, h2⟩ := invTo_sh ha hs k (by omega) r e
      rw [e] at h
      simp only [] at h
      cases e2 : piv r.1 k k with
      | none => rw [e2] at h; simp at h
      | some p =>
        rw [e2] at h
        simp only [Option.some.injEq] at h
        subst h
        simp only []
        obtain ⟨hp1, hp2, hp3⟩ := piv_facts e2
        rw [h1.len] at hp2
        have hs1 := h1.swap k p (by omega) hp2
        have U := ih (by omega) r e
        have lk : k < r.1.length := by rw [h1.len]; omega
        have lp : p < r.1.length := by rw [h1.len]; exact hp2
        have hx : hOf r.1 k p = ((swapM r.1 k p).getD k []).getD k 0 := by
          unfold hOf
          rw [swapM_get _ _ _ _ lk lp]
          by_cases e3 : k = p
          · rw [if_pos e3, e3]
          · rw [if_neg e3, if_pos rfl]
        have sU : ∀ i j, i < n → j < k → ((swapM r.1 k p).getD i []).getD j 0 = if i = j then 1 else 0 := by
          intro i j hi hj
          rw [swapM_get _ _ _ _ lk lp]
          by_cases e3 : i = p
          · rw [if_pos e3, U k j (by omega) hj, if_neg (by omega), if_neg (by omega)]
          · rw [if_neg e3]
            by_cases e4 : i = k
            · rw [if_pos e4, U p j hp2 hj, if_neg (by omega), if_neg (by omega)]
            · rw [if_neg e4]; exact U i j hi hj
        have x0 : hOf r.1 k p ≠ 0 := hp3
        have x256 : hOf r.1 k p < 256 := h1.elt p k
        unfold clr
        rw [opM_get h1 k p _ _ i (by omega) hp2 hi]
        have rowk : ∀ j, j < c → (sc ((swapM r.1 k p).getD k []) (inv (hOf r.1 k p))).getD j 0 = mul (inv (hOf r.1 k p)) (((swapM r.1 k p).getD k []).getD j 0) := fun j hj => sc_get _ _ _ (by rw [hs1.row k (by omega)]; exact hj)
        by_cases e3 : i = k
        · rw [if_pos e3, rowk j (by omega)]
          by_cases e4 : j = k
          · rw [e4, ← hx, mul_comm _ _ (inv_lt _) x256, mul_inv _ x256 x0, if_pos (by omega)]
          · rw [sU k j (by omega) (by omega), if_neg (by omega), mul_zero, if_neg (by omega)]
        · rw [if_neg e3, addRow_get _ _ _ _ (by rw [hs1.row i hi]; omega) (by rw [sc_length, hs1.row k (by omega)]; omega), rowk j (by omega)]
          by_cases e4 : j = k
          · have ff : fOf r.1 k k p i = ((swapM r.1 k p).getD i []).getD k 0 := rfl
            rw [e4, ← hx, mul_comm _ _ (inv_lt _) x256, mul_inv _ x256 x0, ff, mul_one _ (hs1.elt i k), if_neg (by omega)]
            exact Nat.xor_self _
          · rw [sU k j (by omega) (by omega), if_neg (by omega), mul_zero, mul_zero, Nat.xor_zero, sU i j hi (by omega)]
/-- What a column that cannot be cleared takes to noughts. -/
def kerZ (A : List (List Nat)) (k c : Nat) : List Nat := (List.range c).map fun j => if j < k then (A.getD j []).getD k 0 else if j = k then 1 else 0
theorem kerZ_get (A : List (List Nat)) (k c j : Nat) (h : j < c) : (kerZ A k c).getD j 0 = if j < k then (A.getD j []).getD k 0 else if j = k then 1 else 0 := by simp [kerZ, h]
theorem kerZ_lt {A : List (List Nat)} {n k c : Nat} {d : Nat} (ha : Sh A n d) : AllLt (kerZ A k c) := by
  intro j
  by_cases h : j < c
  · rw [kerZ_get _ _ _ _ h]
    split
    · exact ha.elt j k
    · split <;> omega
  · rw [List.getD_eq_getElem?_getD, List.getElem?_eq_none (by simp [kerZ]; omega)]; decide
theorem ker_dot {A : List (List Nat)} {n c k : Nat} (ha : Sh A n c) (hU : ∀ i j, i < n → j < k → (A.getD i []).getD j 0 = if i = j then 1 else 0) (i : Nat) (hi : i < n) : ∀ m, m ≤ c →
    dotTo (A.getD i []) (kerZ A k c) m = (if i < k ∧ i < m then (A.getD i []).getD k 0 else 0) ^^^ (if k < m then (A.getD i []).getD k 0 else 0) := by
  intro m
  induction m with
  | zero => intro _; simp [dotTo]
  | succ m ih =>
    intro hm
    rw [dotTo, ih (by omega), kerZ_get _ _ _ _ (by omega)]
    by_cases h1 : m < k
    · rw [if_pos h1, hU i m hi h1, if_neg (show ¬ k < m by omega), if_neg (show ¬ k < m + 1 by omega), Nat.xor_zero, Nat.xor_zero]
      by_cases h2 : i = m
      · subst h2
        rw [if_pos rfl, one_mul _ (ha.elt i k), if_neg (by omega), if_pos (by omega), Nat.zero_xor]
      · rw [if_neg h2, zero_mul (ha.elt m k), Nat.xor_zero]
        by_cases h3 : i < k ∧ i < m
        · rw [if_pos h3, if_pos (by omega)]
        · rw [if_neg h3, if_neg (by omega)]
    · rw [if_neg h1]
      by_cases h2 : m = k
      · subst h2
        rw [if_pos rfl, mul_one _ (ha.elt i m), if_neg (show ¬ m < m by omega), Nat.xor_zero, if_pos (show m < m + 1 by omega)]
        by_cases h3 : i < m
        · rw [if_pos ⟨h3, h3⟩, if_pos (by omega)]
        · rw [if_neg (by omega), if_neg (by omega)]
      · rw [if_neg h2, mul_zero, Nat.xor_zero]
        have e1 : (i < k ∧ i < m) ↔ (i < k ∧ i < m + 1) := by omega
        have e2 : k < m ↔ k < m + 1 := by omega
        simp only [e1, e2]
/-- A square matrix that takes nothing but noughts to noughts has an inverse. -/
theorem inv_exists {A S : List (List Nat)} {n d : Nat} (ha : Sh A n n) (hs : Sh S n d) (hk : ∀ z : List Nat, z.length = n → AllLt z → (∀ i, i < n → dotTo (A.getD i []) z n = 0) → ∀ j, j < n → z.getD j 0 = 0) : ∀ k, k ≤ n → ∃ q, invTo A S k = some q := by
  intro k
  induction k with
  | zero => intro _; exact ⟨_, rfl⟩
  | succ k ih =>
    intro hk'
    obtain ⟨r, e⟩ := ih (by omega)
    obtain ⟨h1, h2⟩ := invTo_sh ha hs k (by omega) r e
    rw [invTo, e]
    simp only []
    cases e2 : piv r.1 k k with
    | some p => exact ⟨_, rfl⟩
    | none =>
      exfalso
      have U := inv_unit ha hs (Nat.le_refl _) k (by omega) r e
      have Z : AllLt (kerZ r.1 k n) := kerZ_lt h1
      have hz : ∀ i, i < n → dotTo (r.1.getD i []) (kerZ r.1 k n) n = 0 := by
        intro i hi
        rw [ker_dot h1 U i hi n (Nat.le_refl _), if_pos (show k < n by omega)]
        by_cases h : i < k
        · rw [if_pos ⟨h, hi⟩, Nat.xor_self]
        · rw [if_neg (by omega), piv_none h1 e2 i (by omega) hi, Nat.xor_self]
      have := hk (kerZ r.1 k n) (by simp [kerZ]) Z (inv_kern ha hs Z k (by omega) r e hz) k (by omega)
      rw [kerZ_get _ _ _ _ (by omega), if_neg (by omega), if_pos rfl] at this
      cases this
theorem solN_ok {A S : List (List Nat)} {n d : Nat} (ha : Sh A n n) (hs : Sh S n d) (hk : ∀ z : List Nat, z.length = n → AllLt z → (∀ i, i < n → dotTo (A.getD i []) z n = 0) → ∀ j, j < n → z.getD j 0 = 0) : (solN A S).2 = true := by
  obtain ⟨q, h⟩ := inv_exists ha hs hk n (Nat.le_refl _)
  unfold solN
  rw [ha.len, h]
/-- A sum of products is Cauchy's where the row is. -/
theorem dot_cs {r z : List Nat} {x : Nat} {y : Nat → Nat} (hz : AllLt z) : ∀ m, (∀ j, j < m → r.getD j 0 = inv (x ^^^ y j)) → dotTo r z m = cs (fun j => z.getD j 0) y x m := by
  intro m
  induction m with
  | zero => intro _; rfl
  | succ m ih => intro h; rw [dotTo, cs, ih (fun j hj => h j (by omega)), h m (by omega), mul_comm _ _ (inv_lt _) (hz m)]
end Gf
end Go.Proofs.YtogopakmebiomaaDoor

namespace Go.Proofs.YtogopakmebiomaaDoor
open Go.RowKit
open Gf (ci ciM swapM pf piv Sh AllLt)

/-- The rows, with row p (where there is one) swapped up. -/
def upM (M : List (List Nat)) (at_ : Nat) : Option Nat → List (List Nat)
  | some p => swapM M at_ p
  | none => M
theorem MatV.swap {w : World} {lo hi g n cap : Nat} {vs : List Value} {m : List (List Int)} (h : MatV w lo hi (.slice (some ⟨g, 0, none⟩) n cap) vs m) (a b : Nat) (ha : a < m.length) (hb : b < m.length) :
    MatV ((w.setCell ⟨g, a, none⟩ (vs.getD b nilRow)).setCell ⟨g, b, none⟩ (vs.getD a nilRow)) lo hi (.slice (some ⟨g, 0, none⟩) n cap) ((vs.set a (vs.getD b nilRow)).set b (vs.getD a nilRow)) ((m.set a (m.getD b [])).set b (m.getD a [])) ∧
      w.grownBy ((w.setCell ⟨g, a, none⟩ (vs.getD b nilRow)).setCell ⟨g, b, none⟩ (vs.getD a nilRow)) (some g) := by
  obtain rfl := h.lenEq
  have st1 := World.ownsRow.stored h.head a (vs.getD b nilRow)
  have st2 := World.ownsRow.stored st1.1 b (vs.getD a nilRow)
  have hg : w.grownBy ((w.setCell ⟨g, a, none⟩ (vs.getD b nilRow)).setCell ⟨g, b, none⟩ (vs.getD a nilRow)) (some g) := Gf.grownBy_trans st1.2 st2.2
  have hla : a < vs.length := by rw [h.len]; exact ha
  have hlb : b < vs.length := by rw [h.len]; exact hb
  have gv : ∀ i, ((vs.set a (vs.getD b nilRow)).set b (vs.getD a nilRow)).getD i nilRow = vs.getD (if i = b then a else if i = a then b else i) nilRow := by
    intro i
    rw [getD_set _ _ _ _ _ (by rw [List.length_set]; exact hlb), getD_set _ _ _ _ _ hla]
    split
    · rfl
    · split <;> rfl
  have gm : ∀ i, ((m.set a (m.getD b [])).set b (m.getD a [])).getD i [] = m.getD (if i = b then a else if i = a then b else i) [] := by
    intro i
    rw [getD_set _ _ _ _ _ (by rw [List.length_set]; exact hb), getD_set _ _ _ _ _ ha]
    split
    · rfl
    · split <;> rfl
  have sl : ∀ i, i < m.length → (if i = b then a else if i = a then b else i) < m.length := by
    intro i hi
    split
    · exact ha
    · split
      · exact hb
      · exact hi
  have ml : ((m.set a (m.getD b [])).set b (m.getD a [])).length = m.length := by simp
  refine ⟨⟨by simp [h.len], by rw [ml]; exact st2.1, ?_, h.top, ?_, ?_⟩, hg⟩
  · intro i hi
    rw [ml] at hi
    rw [gv, gm]
    exact World.ownsRow.kept (h.row _ (sl i hi)) hg (heads_apart' h.head (h.row _ (sl i hi)))
  · intro i k hi hk
    rw [ml] at hi
    rw [gv] at hk
    exact h.tops _ k (sl i hi) hk
  · intro i j hi hj hij
    rw [ml] at hi hj
    rw [gv, gv]
    refine h.apart _ _ (sl i hi) (sl j hj) ?_
    split <;> split <;> (try split) <;> (try split) <;> omega
theorem MatV.swapN {w : World} {lo hi g n cap : Nat} {vs : List Value} {M : List (List Nat)} (h : MatV w lo hi (.slice (some ⟨g, 0, none⟩) n cap) vs (ciM M)) (a b : Nat) (ha : a < M.length) (hb : b < M.length) :
    MatV ((w.setCell ⟨g, a, none⟩ (vs.getD b nilRow)).setCell ⟨g, b, none⟩ (vs.getD a nilRow)) lo hi (.slice (some ⟨g, 0, none⟩) n cap) ((vs.set a (vs.getD b nilRow)).set b (vs.getD a nilRow)) (ciM (swapM M a b)) ∧
      w.grownBy ((w.setCell ⟨g, a, none⟩ (vs.getD b nilRow)).setCell ⟨g, b, none⟩ (vs.getD a nilRow)) (some g) := by
  have := h.swap a b (by rw [Gf.ciM_length]; exact ha) (by rw [Gf.ciM_length]; exact hb)
  rw [Gf.ciM_get, Gf.ciM_get, Gf.ciM_set, Gf.ciM_set] at this
  exact this
theorem MatV.headChg {w w' : World} {lo hi g n cap : Nat} {vs : List Value} {m : List (List Int)} (h : MatV w lo hi (.slice (some ⟨g, 0, none⟩) n cap) vs m) (hg : w.grownBy w' (some g)) : Chg lo hi w w' :=
  Chg.ofGrown hg (fun k hk => by cases hk; exact ⟨(World.ownsRow.lt h.head g rfl).1, h.top g rfl⟩)
theorem MatV.shape {w : World} {lo hi : Nat} {v : Value} {vs : List Value} {m : List (List Int)} (h : MatV w lo hi v vs m) (i : Nat) (hi' : i < m.length) : ∃ a n c, vs.getD i nilRow = .slice a n c := (h.row i hi').shape

set_option maxRecDepth 100000 in
set_option maxHeartbeats 800000 in
theorem l2Swap_calls (v : Value) (M : List (List Nat)) (a b lo hi : Nat) (w : World) (h : Mat w lo hi v (ciM M)) (ha : a < M.length) (hb : b < M.length) (hn : M.length ≤ 1048576) :
    Calls Tryd.prog 174 #[v, .int .i64 a, .int .i64 b] w fun e w' => e = .returned (.tuple #[]) ∧ Mat w' lo hi v (ciM (swapM M a b)) ∧ Chg lo hi w w' := by
  obtain ⟨vs, h⟩ := h
  obtain ⟨g, cap, rfl, _, _, _, _⟩ := h.open (by rw [Gf.ciM_length]; omega)
  have hl : (ciM M).length = M.length := Gf.ciM_length M
  have ha' : (a : Int) < ((ciM M).length : Int) := by omega
  have hb' : (b : Int) < ((ciM M).length : Int) := by omega
  have hca := h.cell a (by omega)
  have hcb := h.cell b (by omega)
  have hfa : w.frozen? ⟨g, a, none⟩ = false := World.ownsRow.frozenAt h.head a
  have hfb : w.frozen? ⟨g, b, none⟩ = false := World.ownsRow.frozenAt h.head b
  obtain ⟨aa, an, ac, hsa⟩ := h.shape a (by omega)
  obtain ⟨ba, bn, bc, hsb⟩ := h.shape b (by omega)
  have SW := h.swapN a b ha hb
  rw [hsa] at hca
  rw [hsb] at hcb
  rw [hsa, hsb] at SW
  have CH := hide (h.headChg SW.2)
  have SW1 := hide SW.1
  have st1 := World.ownsRow.stored h.head a (.slice ba bn bc)
  have hfb2 : (w.setCell ⟨g, a, none⟩ (.slice ba bn bc)).frozen? ⟨g, b, none⟩ = false := World.ownsRow.frozenAt st1.1 b
  have hcb2 : ∃ o, (w.setCell ⟨g, a, none⟩ (.slice ba bn bc)).cell? ⟨g, b, none⟩ = some o := by
    rw [World.ownsRow.cellAt st1.1 b (by omega)]
    exact ⟨_, List.getElem?_eq_getElem (by rw [List.length_set, h.len]; omega)⟩
  obtain ⟨o2, hcb2⟩ := hcb2
  clear h SW st1 hsa hsb
  go_enter Tryd.func174, Tryd.ntmps174
  go_wp2
  go_end0
  exact ⟨rfl, ⟨_, SW1.out⟩, CH.out⟩

set_option maxRecDepth 100000 in
set_option maxHeartbeats 1600000 in
theorem swapUp_calls (v : Value) (M : List (List Nat)) (n c at_ col lo hi : Nat) (w : World) (h : Mat w lo hi v (ciM M)) (hs : Sh M n c) (ha : at_ < n) (hc : col < c) (hn : n ≤ 1048576) (hcn : c ≤ 1048576) :
    Calls Tryd.prog 163 #[v, .int .i64 at_, .int .i64 col] w fun e w' => e = .returned (.bool (piv M at_ col).isSome) ∧ Mat w' lo hi v (ciM (upM M at_ (piv M at_ col))) ∧ Chg lo hi w w' := by
  obtain ⟨vs, h⟩ := h
  have hlen := hs.len
  obtain ⟨g, cap, hv, _, _, _, _⟩ := h.open (by rw [Gf.ciM_length, hlen]; omega)
  rw [Gf.ciM_length, hlen] at hv
  subst hv
  obtain ⟨pv, hpv⟩ : ∃ pv, pv = piv M at_ col := ⟨_, rfl⟩
  rw [← hpv]
  have PV := hide hpv
  have H := hide h
  have S := hide hs
  have HL := hide hlen
  have hc' : (col : Int) < (c : Int) := by omega
  clear hpv h hs hlen
  go_enter Tryd.func163, Tryd.ntmps163
  go_wp2
  go_loop [7] (fun vi => ∃ j : Nat, at_ ≤ j ∧ j ≤ n ∧ vi = .int .i64 j ∧ pv = pf M col (M.length - j) j) (fun vi => n - (intOf vi).toNat)
  case atStart => exact ⟨at_, Nat.le_refl _, by omega, rfl, PV.out⟩
  case round =>
    obtain ⟨j, hj1, hj2, rfl, hj3⟩ := hrel
    have J := hide hj3
    clear hj3
    by_cases hlt : j < n
    · have hlt' : (j : Int) < (n : Int) := by omega
      have hjl : j < (ciM M).length := by rw [Gf.ciM_length, HL.out]; exact hlt
      have hal : at_ < (ciM M).length := by rw [Gf.ciM_length, HL.out]; exact ha
      have hc1 := H.out.cell j hjl
      have hro := H.out.row j hjl
      rw [Gf.ciM_get] at hro
      obtain ⟨g2, cap2, hu, _, _, _, _⟩ := hro.open1 (by rw [Gf.ci_length, S.out.row j hlt]; omega)
      rw [Gf.ci_length, S.out.row j hlt] at hu
      have hel := hro
      rw [hu] at hel hc1
      obtain ⟨_, hce⟩ := hel.at col (by rw [Gf.ci_length, S.out.row j hlt]; exact hc)
      rw [Gf.ci_getD] at hce
      obtain ⟨x, hx⟩ : ∃ x, x = (M.getD j []).getD col 0 := ⟨_, rfl⟩
      rw [← hx] at hce
      have X := hide hx
      have HU := hide hu
      clear hel hro hx hu
      by_cases h0 : x = 0
      · subst h0
        go_wp2
        go_round
        case rel =>
          refine ⟨j + 1, by omega, by omega, by go_num, ?_⟩
          have := J.out
          rw [Gf.pf_step (by rw [HL.out]; exact hlt), ← X.out, if_neg (by simp)] at this
          exact this
        case measure => simp [intOf]; omega
      · have h0' : ((x : Int) == 0) = false := by simp; exact h0
        have hpv : pv = some j := by
          have := J.out
          rw [Gf.pf_step (by rw [HL.out]; exact hlt), ← X.out, if_pos h0] at this
          exact this
        have PJ := hide hpv
        clear hpv
        have hca := H.out.cell at_ hal
        have hfa : w.frozen? ⟨g, at_, none⟩ = false := World.ownsRow.frozenAt (by have := H.out.head; rwa [Gf.ciM_length, HL.out] at this) at_
        have hfj : w.frozen? ⟨g, j, none⟩ = false := World.ownsRow.frozenAt (by have := H.out.head; rwa [Gf.ciM_length, HL.out] at this) j
        obtain ⟨aa, an, ac, hsa⟩ := H.out.shape at_ hal
        have SW := H.out.swapN at_ j (by rw [HL.out]; exact ha) (by rw [HL.out]; exact hlt)
        rw [hsa] at hca
        rw [hsa, HU.out] at SW
        have CH := hide (H.out.headChg SW.2)
        have SW1 := hide SW.1
        have hd := H.out.head
        rw [Gf.ciM_length, HL.out] at hd
        have st1 := World.ownsRow.stored hd at_ (.slice (some ⟨g2, 0, none⟩) c cap2)
        have hfb2 : (w.setCell ⟨g, at_, none⟩ (.slice (some ⟨g2, 0, none⟩) c cap2)).frozen? ⟨g, j, none⟩ = false := World.ownsRow.frozenAt st1.1 j
        have hcb2 : ∃ o, (w.setCell ⟨g, at_, none⟩ (.slice (some ⟨g2, 0, none⟩) c cap2)).cell? ⟨g, j, none⟩ = some o := by
          rw [World.ownsRow.cellAt st1.1 j (by omega)]
          exact ⟨_, List.getElem?_eq_getElem (by rw [List.length_set, H.out.len]; exact hjl)⟩
        obtain ⟨o2, hcb2⟩ := hcb2
        have ha' : (at_ : Int) < (n : Int) := by omega
        have i0 : (0 : Int) ≤ (at_ : Int) := by omega
        have i1 : (0 : Int) ≤ (j : Int) := by omega
        clear SW st1 hsa hd
        go_wp2
        go_region
        all_goals (try go_wp2)
        all_goals
          go_ret
          have e := PJ.out
          subst e
          exact ⟨rfl, ⟨_, SW1.out.below (below_drew' (Below.refl _ _))⟩, CH.out.trans (Chg.ofBelow (below_drew' (Below.refl _ _)))⟩
    · obtain rfl : j = n := by omega
      have hpv : pv = none := by
        have := J.out
        rw [Gf.pf_end (by rw [HL.out]; exact Nat.le_refl _)] at this
        exact this
      subst hpv
      go_wp2
      go_ret
      exact ⟨rfl, ⟨_, H.out⟩, Chg.refl _ _ _⟩
end Go.Proofs.YtogopakmebiomaaDoor

namespace Go.Proofs.YtogopakmebiomaaDoor
open Go.RowKit
open Gf (ci ciM swapM pf piv Sh AllLt clearM addRow headM opM hOf fOf clr sc inv mul amTo)

set_option maxRecDepth 100000 in
set_option maxHeartbeats 1600000 in
theorem clearColumn_calls (v : Value) (M : List (List Nat)) (n c by_ col lo hi : Nat) (w : World) (hT : Gf.Tab w) (h : Mat w lo hi v (ciM M)) (hs : Sh M n c) (ha : by_ < n) (hc : col < c) (hn : n ≤ 1048576) (hcn : c ≤ 1048576) (hlo : 0 < lo) :
    Calls Tryd.prog 165 #[v, .int .i64 by_, .int .i64 col] w fun e w' => e = .returned (.tuple #[]) ∧ Mat w' lo hi v (ciM (clearM M by_ (fun i => (M.getD i []).getD col 0) n)) ∧ Chg lo hi w w' := by
  obtain ⟨vs, h⟩ := h
  have hlen := hs.len
  obtain ⟨g, cap, hv, _, _, _, _⟩ := h.open (by rw [Gf.ciM_length, hlen]; omega)
  rw [Gf.ciM_length, hlen] at hv
  subst hv
  obtain ⟨fs, hfs⟩ : ∃ fs : Nat → Nat, fs = fun i => (M.getD i []).getD col 0 := ⟨_, rfl⟩
  rw [← hfs]
  have hf256 : ∀ i, fs i < 256 := fun i => by rw [hfs]; exact hs.elt i col
  have F256 := hide hf256
  have FS := hide hfs
  have H := hide h
  have S := hide hs
  have HL := hide hlen
  have T := hide hT
  have hc' : (col : Int) < (c : Int) := by omega
  have ha' : (by_ : Int) < (n : Int) := by omega
  clear h hs hlen hT hfs hf256
  go_enter Tryd.func165, Tryd.ntmps165
  go_wp2
  go_loopw [10] (fun vi wr => ∃ k : Nat, k ≤ n ∧ vi = .int .i64 k ∧ MatV wr lo hi (.slice (some ⟨g, 0, none⟩) n cap) vs (ciM (clearM M by_ fs k)) ∧ Chg lo hi w wr) (fun vi _ => n - (intOf vi).toNat)
  case atStart => exact ⟨0, Nat.zero_le _, rfl, by rw [Gf.clearM_zero]; exact H.out, Chg.refl _ _ _⟩
  case round =>
    obtain ⟨k, hk, rfl, hM, hC⟩ := hrel
    have SC := hide (S.out.clear ha F256.out k)
    have MH := hide hM
    have C := hide hC
    clear hC
    by_cases hlt : k < n
    · have hlt' : (k : Int) < (n : Int) := by omega
      have hkl : k < (ciM (clearM M by_ fs k)).length := by rw [Gf.ciM_length, SC.out.len]; exact hlt
      have hbl : by_ < (ciM (clearM M by_ fs k)).length := by rw [Gf.ciM_length, SC.out.len]; exact ha
      have hck := hM.cell k hkl
      have hro := hM.row k hkl
      rw [Gf.ciM_get] at hro
      obtain ⟨g2, cap2, hu, _, _, _, _⟩ := hro.open1 (by rw [Gf.ci_length, SC.out.row k hlt]; omega)
      rw [Gf.ci_length, SC.out.row k hlt] at hu
      have HU := hide hu
      by_cases heq : k = by_
      · subst heq
        rw [hu] at hck
        have e1 : ((k : Int) == (k : Int)) = true := by simp
        clear hM hro hu
        go_wp2
        go_roundw
        case rel =>
          refine ⟨k + 1, by omega, by go_num, ?_, C.out⟩
          rw [← Gf.clearM_skip]
          exact MH.out
        case measure => simp [intOf]; omega
      · have e1 : ((k : Int) == (by_ : Int)) = false := by simp; omega
        have hcb := hM.cell by_ hbl
        have hgk : (clearM M by_ fs k).getD k [] = M.getD k [] := by rw [Gf.clearM_get _ _ _ _ _ (by rw [HL.out]; exact hlt), if_neg (fun h' => by omega)]
        have hgb : (clearM M by_ fs k).getD by_ [] = M.getD by_ [] := by rw [Gf.clearM_get _ _ _ _ _ (by rw [HL.out]; exact ha), if_neg (fun h' => h'.2 rfl)]
        obtain ⟨s, hss⟩ : ∃ s, s = M.getD k [] := ⟨_, rfl⟩
        obtain ⟨q, hqq⟩ : ∃ q, q = M.getD by_ [] := ⟨_, rfl⟩
        rw [hgk, ← hss] at hro
        have hsl : s.length = c := by rw [hss]; exact S.out.row k hlt
        have hql : q.length = c := by rw [hqq]; exact S.out.row by_ ha
        have hslt : AllLt s := by rw [hss]; exact S.out.lt k hlt
        have hqlt : AllLt q := by rw [hqq]; exact S.out.lt by_ ha
        obtain ⟨u, huu⟩ : ∃ u, u = vs.getD k nilRow := ⟨_, rfl⟩
        obtain ⟨bu, hbu⟩ : ∃ bu, bu = vs.getD by_ nilRow := ⟨_, rfl⟩
        rw [← hbu] at hcb
        have hO := hro
        rw [hu] at hck hro
        obtain ⟨_, hce⟩ := hro.at col (by rw [Gf.ci_length, hsl]; exact hc)
        rw [Gf.ci_getD] at hce
        obtain ⟨x, hx⟩ : ∃ x, x = s.getD col 0 := ⟨_, rfl⟩
        rw [← hx] at hce
        have hxf : fs k = x := by rw [FS.out, hx, hss]
        have hx256 : x < 256 := by rw [← hxf]; exact F256.out k
        have hnx : addRow (M.getD k []) (M.getD by_ []) (fs k) = amTo s q x 0 q.length := by rw [← hss, ← hqq, hxf, Gf.amTo_add s q x (by rw [hql, hsl])]
        have NX := hide hnx
        have O := hide hro
        have QL := hide hql
        have SL := hide hsl
        have QLT := hide hqlt
        have SLT := hide hslt
        have BU := hide hbu
        have KL := hide hkl
        have TT := hide (Gf.tab_chg T.out C.out hlo)
        have TG : Hid (∀ w', wr.grownBy w' (some g2) → Gf.Tab w') := fun w' hg => Gf.tab_grown TT.out hg (fun k hk => by have := (World.ownsRow.lt O.out k hk).1; omega)
        have QG : Hid (∀ w', wr.grownBy w' (some g2) → Rd w' bu (ci q)) := fun w' hg => by
          have := MH.out.other k by_ KL.out hbl (fun h => heq h.symm) (by rw [HU.out]; exact hg)
          rw [Gf.ciM_get, hgb, ← hqq, ← BU.out] at this
          exact this.rd
        have i0 : (0 : Int) ≤ (k : Int) := by omega
        have i1 : (0 : Int) ≤ (by_ : Int) := by omega
        have i2 : (0 : Int) ≤ (col : Int) := by omega
        clear hM hO hro hu hgk hgb hss hqq hsl hql hslt hqlt huu hbu hx hxf hnx hkl hbl
        go_wp2
        go_region_with (go_at_call 84; refine (Gf.addMultiple_calls (.slice (some ⟨g2, 0, none⟩) c cap2) bu s q x 0 lo wr.drew (fun w' hg => TG.out w' ⟨hg.os, hg.tape, hg.output, hg.size, hg.block⟩) (by exact O.out.drew) (fun w' hg => QG.out w' ⟨hg.os, hg.tape, hg.output, hg.size, hg.block⟩) (by omega) (by omega) (by omega) (by rw [QL.out, SL.out]; omega) (by rw [SL.out]; omega) SLT.out QLT.out (by rw [SL.out]; omega)).mono ?_; rintro e w' ⟨rfl, ho, hg⟩)
        all_goals
          have ho2 : Own w' lo (vs.getD k nilRow) (ci (addRow (M.getD k []) (M.getD by_ []) (fs k))) := by
            rw [NX.out, HU.out]
            simpa using ho
          have hg2' : wr.grownBy w' (vs.getD k nilRow).ownBlock := by
            rw [HU.out]
            exact ⟨hg.os, hg.tape, hg.output, hg.size, hg.block⟩
          have W2 := hide (MH.out.write k KL.out _ ho2 hg2')
          have C3 := hide (C.out.trans (MH.out.writeChg k KL.out hg2'))
          clear ho hg ho2 hg2'
          go_wp2
          go_roundw
          case rel =>
            refine ⟨k + 1, by omega, by go_num, ?_, C3.out⟩
            have := W2.out
            rw [Gf.ciM_set, Gf.clearM_step _ _ _ _ heq] at this
            exact this
          case measure => simp [intOf]; omega
    · obtain rfl : k = n := by omega
      clear hM
      go_wp2
      go_end0
      exact ⟨rfl, ⟨_, MH.out⟩, C.out⟩

/-- What the program's reduction does at a column that has something: rows swapped, made to begin with 1, the others cleared. -/
theorem clr_parts (M : List (List Nat)) (n c at_ col p : Nat) (hs : Sh M n c) (ha : at_ < n) (hp : p < n) :
    clearM (headM (swapM M at_ p) at_ (((swapM M at_ p).getD at_ []).getD col 0)) at_ (fun i => ((headM (swapM M at_ p) at_ (((swapM M at_ p).getD at_ []).getD col 0)).getD i []).getD col 0) n = clr M at_ col p := by
  have e1 : ((swapM M at_ p).getD at_ []).getD col 0 = hOf M col p := by
    rw [Gf.swapM_get _ _ _ _ (by rw [hs.len]; exact ha) (by rw [hs.len]; exact hp)]
    unfold hOf
    by_cases e : at_ = p
    · rw [if_pos e, e]
    · rw [if_neg e, if_pos rfl]
  unfold clr opM
  rw [e1, hs.len]
  unfold clearM
  apply List.map_congr_left
  intro i hi
  by_cases e : i < n ∧ i ≠ at_
  · rw [if_pos e, if_pos e]
    congr 1
    unfold fOf headM
    dsimp only
    rw [getD_set _ _ _ _ _ (by rw [Gf.swapM_length, hs.len]; exact ha), if_neg e.2]
  · rw [if_neg e, if_neg e]

set_option maxRecDepth 100000 in
set_option maxHeartbeats 1600000 in
theorem reduceRows_calls (v : Value) (M : List (List Nat)) (n c cols lo hi : Nat) (w : World) (hT : Gf.Tab w) (h : Mat w lo hi v (ciM M)) (hs : Sh M n c) (h1 : 1 ≤ n) (hc : cols ≤ c) (hn : n ≤ 1048576) (hcn : c ≤ 1048576) (hlo : 0 < lo) :
    Calls Tryd.prog 144 #[v, .int .i64 cols] w fun e w' => e = .returned (.int .i64 (Gf.redM M cols).1) ∧ Mat w' lo hi v (ciM (Gf.redM M cols).2) ∧ Chg lo hi w w' := by
  have S := hide hs
  have hlen := hs.len
  obtain ⟨va, vc, hv⟩ : ∃ a c, v = .slice a n c := by
    obtain ⟨vs, h⟩ := h
    obtain ⟨g, cap, hv, _⟩ := h.open (by rw [Gf.ciM_length, hlen]; omega)
    rw [Gf.ciM_length, hlen] at hv
    exact ⟨_, _, hv⟩
  subst hv
  have H := hide h
  have HL := hide hlen
  have T := hide hT
  obtain ⟨res, hres⟩ : ∃ r, r = Gf.redM M cols := ⟨_, rfl⟩
  rw [← hres]
  have RS := hide hres
  clear h hs hlen hT hres
  go_enter Tryd.func144, Tryd.ntmps144
  go_wp2
  go_loopw [5, 6] (fun vd vk wr => ∃ k d : Nat, ∃ A : List (List Nat), k ≤ cols ∧ d ≤ n ∧ Gf.redM M k = (d, A) ∧ vk = .int .i64 k ∧ vd = .int .i64 d ∧ Mat wr lo hi (.slice va n vc) (ciM A) ∧ Chg lo hi w wr) (fun _ vk _ => cols - (intOf vk).toNat)
  case atStart => exact ⟨0, 0, M, Nat.zero_le _, Nat.zero_le _, rfl, rfl, rfl, H.out, Chg.refl _ _ _⟩
  case round =>
    obtain ⟨k, d, A, hk, hd, hr, rfl, rfl, hM, hC⟩ := hrel
    have MH := hide hM
    have C := hide hC
    have HR := hide hr
    have hsa := (S.out.red k).1
    rw [hr] at hsa
    have SA := hide hsa
    clear hM hC hr hsa
    have done : (¬ k < cols ∨ ¬ d < n) → res = (d, A) := by
      intro hh
      rw [RS.out]
      rcases hh with hh | hh
      · obtain rfl : k = cols := by omega
        exact HR.out
      · obtain ⟨j, hj⟩ : ∃ j, cols = k + j := ⟨cols - k, by omega⟩
        rw [hj, Gf.redM_stop (by rw [HR.out, HL.out]; simp only []; omega), HR.out]
    have DN := hide done
    clear done
    by_cases hlt : k < cols
    · have hlt' : (k : Int) < (cols : Int) := by omega
      by_cases hdn : d < n
      · have hdn' : (d : Int) < (n : Int) := by omega
        go_wp2_with fail
        refine (swapUp_calls _ A n c d k lo hi _ MH.out SA.out hdn (by omega) hn hcn).mono ?_
        obtain ⟨pv, hpv⟩ : ∃ pv, pv = piv A d k := ⟨_, rfl⟩
        rw [← hpv]
        have PV := hide hpv
        rintro e w1 ⟨rfl, hm1, hc1⟩
        have M1 := hide hm1
        have C1 := hide (C.out.trans hc1)
        clear hm1 hc1
        cases pv with
        | none =>
          clear hpv
          go_wp2
          go_roundw
          case rel =>
            refine ⟨k + 1, d, A, by omega, hd, ?_, by go_num, rfl, M1.out, C1.out⟩
            rw [Gf.redM, HR.out, HL.out, if_pos hdn]
            simp only []
            rw [← PV.out]
          case measure => simp [intOf]; omega
        | some p =>
          have hp := Gf.piv_facts hpv.symm
          rw [SA.out.len] at hp
          clear hpv
          have hpn : p < n := hp.2.1
          clear hp
          have hsw := SA.out.swap d p hdn hpn
          obtain ⟨A1, hA1⟩ : ∃ A1, A1 = swapM A d p := ⟨_, rfl⟩
          have hm1 : Mat w1 lo hi (.slice va n vc) (ciM A1) := by rw [hA1]; exact M1.out
          rw [← hA1] at hsw
          obtain ⟨vs, hm1⟩ := hm1
          have hdl : d < (ciM A1).length := by rw [Gf.ciM_length, hsw.len]; exact hdn
          obtain ⟨g, cap, hv, _, _, _, _⟩ := hm1.open (by rw [Gf.ciM_length, hsw.len]; omega)
          rw [Gf.ciM_length, hsw.len] at hv
          simp only [Value.slice.injEq, true_and] at hv
          obtain ⟨rfl, rfl⟩ := hv
          have hcd := hm1.cell d hdl
          have hro := hm1.row d hdl
          rw [Gf.ciM_get] at hro
          have MV := hide hm1
          have SW := hide hsw
          have RO := hide hro
          have HA1 := hide hA1
          have DL := hide hdl
          obtain ⟨u, hu⟩ : ∃ u, u = vs.getD d nilRow := ⟨_, rfl⟩
          rw [← hu] at hcd
          have U := hide hu
          have T1 := hide (Gf.tab_chg T.out C1.out hlo)
          clear hm1 hsw hro hA1 hdl hu
          go_wp2_with fail
          refine (Gf.headOne_calls u (A1.getD d []) k lo _ T1.out (by rw [U.out]; exact RO.out) hlo (by rw [SW.out.row d hdn]; exact hcn) (SW.out.lt d hdn) (by rw [SW.out.row d hdn]; omega)).mono ?_
          rintro e w2 ⟨rfl, ho, hg⟩
          rw [U.out] at ho hg
          have hm2 := MV.out.write d DL.out _ ho hg
          have hc2 := MV.out.writeChg d DL.out hg
          rw [Gf.ciM_set] at hm2
          have M2 := hide hm2
          have C2 := hide (C1.out.trans hc2)
          have T2 := hide (Gf.tab_chg T.out C2.out hlo)
          have S2 := hide (SW.out.head d ((A1.getD d []).getD k 0) hdn)
          clear ho hg hm2 hc2
          go_wp2_with fail
          refine (clearColumn_calls _ (headM A1 d ((A1.getD d []).getD k 0)) n c d k lo hi _ T2.out ⟨_, M2.out⟩ S2.out hdn (by omega) hn hcn hlo).mono ?_
          rintro e w3 ⟨rfl, hm3, hc3⟩
          have M3 := hide hm3
          have C3 := hide (C2.out.trans hc3)
          clear hm3 hc3
          go_wp2
          go_roundw
          case rel =>
            refine ⟨k + 1, d + 1, clr A d k p, by omega, by omega, ?_, by go_num, by go_num, ?_, C3.out⟩
            · rw [Gf.redM, HR.out, HL.out, if_pos hdn]
              simp only []
              rw [← PV.out]
            · have := M3.out
              rw [HA1.out, clr_parts A n c d k p SA.out hdn hpn] at this
              exact this
          case measure => simp [intOf]; omega
      · go_wp2
        go_ret
        have := DN.out (.inr hdn)
        rw [this]
        exact ⟨rfl, MH.out, C.out⟩
    · go_wp2
      go_ret
      have := DN.out (.inl hlt)
      rw [this]
      exact ⟨rfl, MH.out, C.out⟩
end Go.Proofs.YtogopakmebiomaaDoor

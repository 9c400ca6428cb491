/-
  Rows of elements, reduced: plain mathematics (rows swapped, scaled, added; where a column has something first). No call is walked here.
-/
import Derived.Test.YtogopakmebiomaaDoorMulM
namespace Go.Proofs.YtogopakmebiomaaDoor
open Go.RowKit
namespace Gf

def ciM (M : List (List Nat)) : List (List Int) := M.map ci
theorem ciM_length (M : List (List Nat)) : (ciM M).length = M.length := by simp [ciM]
theorem ciM_get (M : List (List Nat)) (i : Nat) : (ciM M).getD i [] = ci (M.getD i []) := by
  simp only [ciM, List.getD_eq_getElem?_getD, List.getElem?_map]
  cases M[i]? with
  | none => rfl
  | some x => rfl
theorem ciM_set (M : List (List Nat)) (i : Nat) (r : List Nat) : (ciM M).set i (ci r) = ciM (M.set i r) := by simp [ciM, List.map_set]
/-- n rows, each of c elements. -/
structure Sh (M : List (List Nat)) (n c : Nat) : Prop where
  len : M.length = n
  row : ∀ i, i < n → (M.getD i []).length = c
  lt : ∀ i, i < n → AllLt (M.getD i [])
theorem Sh.elt {M : List (List Nat)} {n c : Nat} (h : Sh M n c) (i j : Nat) : (M.getD i []).getD j 0 < 256 := by
  by_cases hi : i < n
  · exact h.lt i hi j
  · have e : M.getD i [] = [] := by
      rw [List.getD_eq_getElem?_getD, List.getElem?_eq_none (by rw [h.len]; omega)]; rfl
    rw [e]; simp
theorem Sh.set {M : List (List Nat)} {n c : Nat} (h : Sh M n c) (i : Nat) (r : List Nat) (hr : r.length = c) (hl : AllLt r) : Sh (M.set i r) n c := by
  by_cases hi : i < n
  · have hi' : i < M.length := by rw [h.len]; exact hi
    refine ⟨by rw [List.length_set, h.len], fun j hj => ?_, fun j hj => ?_⟩
    · rw [getD_set _ _ _ _ _ hi']; split
      · exact hr
      · exact h.row j hj
    · rw [getD_set _ _ _ _ _ hi']; split
      · exact hl
      · exact h.lt j hj
  · rw [List.set_eq_of_length_le (by rw [h.len]; omega)]; exact h

def swapM (M : List (List Nat)) (a b : Nat) : List (List Nat) := (M.set a (M.getD b [])).set b (M.getD a [])
theorem swapM_length (M : List (List Nat)) (a b : Nat) : (swapM M a b).length = M.length := by simp [swapM]
theorem swapM_get (M : List (List Nat)) (a b i : Nat) (ha : a < M.length) (hb : b < M.length) : (swapM M a b).getD i [] = M.getD (if i = b then a else if i = a then b else i) [] := by
  unfold swapM
  rw [getD_set _ _ _ _ _ (by rw [List.length_set]; exact hb), getD_set _ _ _ _ _ ha]
  split
  · rfl
  · split <;> rfl
theorem Sh.swap {M : List (List Nat)} {n c : Nat} (h : Sh M n c) (a b : Nat) (ha : a < n) (hb : b < n) : Sh (swapM M a b) n c :=
  (h.set a _ (h.row b hb) (h.lt b hb)).set b _ (h.row a ha) (h.lt a ha)

/-- From j on, the first row that has something in the column. -/
def pf (M : List (List Nat)) (col : Nat) : Nat → Nat → Option Nat
  | 0, _ => none
  | d + 1, j => if (M.getD j []).getD col 0 ≠ 0 then some j else pf M col d (j + 1)
def piv (M : List (List Nat)) (at_ col : Nat) : Option Nat := pf M col (M.length - at_) at_
theorem pf_at {M : List (List Nat)} {col : Nat} : ∀ d j p, pf M col d j = some p → j ≤ p ∧ p < j + d ∧ (M.getD p []).getD col 0 ≠ 0 := by
  intro d
  induction d with
  | zero => intro j p h; simp [pf] at h
  | succ d ih =>
    intro j p h
    rw [pf] at h
    split at h
    · rename_i hne
      cases h
      exact ⟨Nat.le_refl _, by omega, hne⟩
    · obtain ⟨h1, h2, h3⟩ := ih _ _ h
      exact ⟨by omega, by omega, h3⟩
theorem pf_step {M : List (List Nat)} {col j : Nat} (h : j < M.length) : pf M col (M.length - j) j = if (M.getD j []).getD col 0 ≠ 0 then some j else pf M col (M.length - (j + 1)) (j + 1) := by
  obtain ⟨d, hd⟩ : ∃ d, M.length - j = d + 1 := ⟨M.length - j - 1, by omega⟩
  have hd2 : M.length - (j + 1) = d := by omega
  rw [hd, hd2, pf]
theorem pf_end {M : List (List Nat)} {col j : Nat} (h : M.length ≤ j) : pf M col (M.length - j) j = none := by
  rw [show M.length - j = 0 from by omega, pf]
theorem piv_facts {M : List (List Nat)} {at_ col p : Nat} (h : piv M at_ col = some p) : at_ ≤ p ∧ p < M.length ∧ (M.getD p []).getD col 0 ≠ 0 := by
  unfold piv at h
  obtain ⟨h1, h2, h3⟩ := pf_at _ _ _ h
  exact ⟨h1, by omega, h3⟩

def addRow (s q : List Nat) (f : Nat) : List Nat := List.zipWith (fun x y => x ^^^ mul f y) s q
theorem addRow_length (s q : List Nat) (f : Nat) (h : q.length = s.length) : (addRow s q f).length = s.length := by simp [addRow, h]
theorem addRow_lt {s q : List Nat} {f : Nat} (hs : AllLt s) (hf : f < 256) : AllLt (addRow s q f) := by
  intro i
  unfold addRow
  rw [List.getD_eq_getElem?_getD, List.getElem?_zipWith]
  have h1 := hs i
  rw [List.getD_eq_getElem?_getD] at h1
  cases h : s[i]? with
  | none => simp
  | some x =>
    cases h' : q[i]? with
    | none => simp
    | some y =>
      simp [h] at h1
      simp
      exact Nat.xor_lt_two_pow (n := 8) h1 (mul_lt hf)
theorem amTo_zip (s q : List Nat) (f : Nat) : ∀ k, k ≤ q.length → q.length = s.length → amTo s q f 0 k = List.zipWith (fun x y => x ^^^ mul f y) (s.take k) (q.take k) ++ s.drop k := by
  intro k
  induction k with
  | zero => intro _ _; simp [amTo]
  | succ k ih =>
    intro hk hl
    have hks : k < s.length := by omega
    have hkq : k < q.length := by omega
    rw [amTo, ih (by omega) hl, Nat.zero_add]
    unfold xorAt
    have e1 : (List.zipWith (fun x y => x ^^^ mul f y) (s.take k) (q.take k)).length = k := by simp; omega
    rw [List.set_append_right _ _ (by omega), e1, Nat.sub_self, List.drop_eq_getElem_cons hks, List.set_cons_zero, List.getD_eq_getElem?_getD, List.getElem?_append_right (by omega), e1, Nat.sub_self]
    simp only [List.getElem?_cons_zero, Option.getD_some]
    rw [List.take_succ_eq_append_getElem hks, List.take_succ_eq_append_getElem hkq, List.zipWith_append (by simp; omega)]
    simp [List.getD_eq_getElem?_getD, List.getElem?_eq_getElem hkq]
theorem amTo_add (s q : List Nat) (f : Nat) (h : q.length = s.length) : amTo s q f 0 q.length = addRow s q f := by
  rw [amTo_zip s q f q.length (Nat.le_refl _) h, List.take_length, List.take_of_length_le (by omega), List.drop_eq_nil_of_le (by omega), List.append_nil]
  rfl
theorem addRow_zero {s q : List Nat} (h : q.length = s.length) (hq : AllLt q) : addRow s q 0 = s := by
  unfold addRow
  apply List.ext_getElem?
  intro i
  rw [List.getElem?_zipWith]
  by_cases hi : i < s.length
  · have hz := hq i
    rw [List.getD_eq_getElem?_getD, List.getElem?_eq_getElem (by omega), Option.getD_some] at hz
    rw [List.getElem?_eq_getElem hi, List.getElem?_eq_getElem (by omega)]
    simp [zero_mul hz]
  · rw [List.getElem?_eq_none (by omega)]

/-- All rows but one get their multiple of that one. -/
def clearM (M : List (List Nat)) (by_ : Nat) (fs : Nat → Nat) (k : Nat) : List (List Nat) := (List.range M.length).map fun i => if i < k ∧ i ≠ by_ then addRow (M.getD i []) (M.getD by_ []) (fs i) else M.getD i []
theorem clearM_length (M : List (List Nat)) (b : Nat) (fs : Nat → Nat) (k : Nat) : (clearM M b fs k).length = M.length := by simp [clearM]
theorem clearM_get (M : List (List Nat)) (b : Nat) (fs : Nat → Nat) (k i : Nat) (h : i < M.length) : (clearM M b fs k).getD i [] = if i < k ∧ i ≠ b then addRow (M.getD i []) (M.getD b []) (fs i) else M.getD i [] := by
  simp [clearM, h]
theorem clearM_zero (M : List (List Nat)) (b : Nat) (fs : Nat → Nat) : clearM M b fs 0 = M := by
  apply List.ext_getElem?
  intro i
  unfold clearM
  by_cases hi : i < M.length
  · simp [hi]
  · simp [hi]
theorem clearM_step (M : List (List Nat)) (b : Nat) (fs : Nat → Nat) (k : Nat) (hb : k ≠ b) : (clearM M b fs k).set k (addRow (M.getD k []) (M.getD b []) (fs k)) = clearM M b fs (k + 1) := by
  unfold clearM
  rw [map_range_set]
  apply List.map_congr_left
  intro i _
  by_cases e : i = k
  · subst e; simp [hb]
  · rw [if_neg e]
    by_cases h : i < k ∧ i ≠ b
    · rw [if_pos h, if_pos ⟨by omega, h.2⟩]
    · rw [if_neg h, if_neg (fun h' => h ⟨by omega, h'.2⟩)]
theorem clearM_skip (M : List (List Nat)) (b : Nat) (fs : Nat → Nat) : clearM M b fs b = clearM M b fs (b + 1) := by
  unfold clearM
  apply List.map_congr_left
  intro i _
  by_cases h : i < b ∧ i ≠ b
  · rw [if_pos h, if_pos ⟨by omega, h.2⟩]
  · rw [if_neg h, if_neg (fun h' => h ⟨by omega, h'.2⟩)]
theorem clearM_same (M : List (List Nat)) (b : Nat) (fs : Nat → Nat) (k : Nat) (h : k < M.length) (hq : addRow (M.getD k []) (M.getD b []) (fs k) = M.getD k []) : clearM M b fs k = clearM M b fs (k + 1) := by
  by_cases hb : k = b
  · subst hb; exact clearM_skip M k fs
  · rw [← clearM_step M b fs k hb, hq]
    have := set_same (clearM M b fs k) k [] (by rw [clearM_length]; exact h)
    rw [clearM_get _ _ _ _ _ h, if_neg (fun h' => by omega)] at this
    exact this.symm
theorem Sh.clear {M : List (List Nat)} {n c b : Nat} {fs : Nat → Nat} (h : Sh M n c) (hb : b < n) (hf : ∀ i, fs i < 256) (k : Nat) : Sh (clearM M b fs k) n c := by
  refine ⟨by rw [clearM_length, h.len], fun i hi => ?_, fun i hi => ?_⟩
  · rw [clearM_get _ _ _ _ _ (by rw [h.len]; exact hi)]
    split
    · rw [addRow_length _ _ _ (by rw [h.row i hi, h.row b hb]), h.row i hi]
    · exact h.row i hi
  · rw [clearM_get _ _ _ _ _ (by rw [h.len]; exact hi)]
    split
    · exact addRow_lt (h.lt i hi) (hf i)
    · exact h.lt i hi
/-- A pivot found: its row swapped up, made to begin with 1 (h: what it begins with), the others cleared (fs: by how much). -/
def headM (M : List (List Nat)) (at_ h : Nat) : List (List Nat) := M.set at_ (sc (M.getD at_ []) (inv h))
def opM (M : List (List Nat)) (at_ p h : Nat) (fs : Nat → Nat) : List (List Nat) := clearM (headM (swapM M at_ p) at_ h) at_ fs M.length
def hOf (M : List (List Nat)) (col p : Nat) : Nat := (M.getD p []).getD col 0
def fOf (M : List (List Nat)) (at_ col p : Nat) (i : Nat) : Nat := ((swapM M at_ p).getD i []).getD col 0
def clr (M : List (List Nat)) (at_ col p : Nat) : List (List Nat) := opM M at_ p (hOf M col p) (fOf M at_ col p)
theorem Sh.head {M : List (List Nat)} {n c : Nat} (h : Sh M n c) (at_ x : Nat) (ha : at_ < n) : Sh (headM M at_ x) n c :=
  h.set at_ _ (by rw [sc_length, h.row at_ ha]) (sc_lt (inv_lt x))
theorem Sh.op {M : List (List Nat)} {n c at_ p x : Nat} {fs : Nat → Nat} (h : Sh M n c) (ha : at_ < n) (hp : p < n) (hf : ∀ i, fs i < 256) : Sh (opM M at_ p x fs) n c :=
  ((h.swap at_ p ha hp).head at_ x ha).clear ha hf _
theorem Sh.clr {M : List (List Nat)} {n c at_ col p : Nat} (h : Sh M n c) (ha : at_ < n) (hp : p < n) : Sh (clr M at_ col p) n c :=
  h.op ha hp (fun i => (h.swap at_ p ha hp).elt i col)
/-- How many rows are done, and what the rows are, when k columns have been looked at. -/
def redM (M : List (List Nat)) : Nat → Nat × List (List Nat)
  | 0 => (0, M)
  | k + 1 => if (redM M k).1 < M.length then (match piv (redM M k).2 (redM M k).1 k with | some p => ((redM M k).1 + 1, clr (redM M k).2 (redM M k).1 k p) | none => redM M k) else redM M k
theorem Sh.red {M : List (List Nat)} {n c : Nat} (h : Sh M n c) (k : Nat) : Sh (redM M k).2 n c ∧ (redM M k).1 ≤ n ∧ (redM M k).1 ≤ k := by
  induction k with
  | zero => exact ⟨h, Nat.zero_le _, Nat.le_refl _⟩
  | succ k ih =>
    obtain ⟨h1, h2, h3⟩ := ih
    rw [redM]
    split
    · rename_i hlt
      rw [h.len] at hlt
      split
      · rename_i p hp
        obtain ⟨_, hp2, _⟩ := piv_facts hp
        rw [h1.len] at hp2
        exact ⟨h1.clr hlt hp2, by simp only []; omega, by simp only []; omega⟩
      · exact ⟨h1, h2, by omega⟩
    · exact ⟨h1, h2, by omega⟩
theorem redM_stop {M : List (List Nat)} {k : Nat} (h : M.length ≤ (redM M k).1) : ∀ j, redM M (k + j) = redM M k := by
  intro j
  induction j with
  | zero => rfl
  | succ j ih => rw [← Nat.add_assoc, redM, ih, if_neg (by omega)]
end Gf
end Go.Proofs.YtogopakmebiomaaDoor

/-
  Rows of elements, reduced: plain mathematics (rows swapped, scaled, added; where a column has something first). No call is walked here. A matrix and another one beside it, reduced as one and as two: plain mathematics. No call is walked here. What is beside a matrix stays told by another one: a map of rows that keeps multiples and sums keeps what is reduced. Plain mathematics; no call is walked here. Cauchy's theorem and what has no inverse: plain mathematics. A column that cannot be cleared gives a column of numbers, not all 0, that the matrix takes to noughts; Cauchy's rows take none so. No call is walked here. What has no inverse takes a column of numbers, not all 0, to noughts; what has one is undone by it: plain mathematics. No call is walked here.
-/
import Derived.Test.YtbgadbokejaomaaGreatDoorRewriteAtB21
namespace Go.Proofs.YtbgadbokejaomaaGreatDoor
open Go.RowKit
namespace Gf

def ciM (M : List (List Nat)) : List (List Int) := M.map ci
theorem ciM_length (M : List (List Nat)) : (ciM M).length = M.length := by simp [ciM]
theorem ciM_get (M : List (List Nat)) (i : Nat) : (ciM M).getD i [] = ci (M.getD i []) := by
  simp only [ciM, List.getD_eq_getElem?_getD, List.getElem?_map]
  cases M[i]? with
  | none => rfl
  | some x => rfl
/-- n rows, each of c elements. -/
structure Sh (M : List (List Nat)) (n c : Nat) : Prop where
  len : M.length = n
  row : ∀ i, i < n → (M.getD i []).length = c
  lt : ∀ i, i < n → AllLt (M.getD i [])
theorem Sh.elt {M : List (List Nat)} {n c : Nat} (h : Sh M n c) (i j : Nat) : (M.getD i []).getD j 0 < 256 := by
  by_cases hi : i < n
  · exact h.lt i hi j
  · have e : M.getD i [] = [] := by
      rw [List.getD_eq_getElem?_getD, List.getElem?_eq_none (by rw [h.len]; omega)]; rfl
    rw [e]; simp
theorem Sh.set {M : List (List Nat)} {n c : Nat} (h : Sh M n c) (i : Nat) (r : List Nat) (hr : r.length = c) (hl : AllLt r) : Sh (M.set i r) n c := by
  by_cases hi : i < n
  · have hi' : i < M.length := by rw [h.len]; exact hi
    refine ⟨by rw [List.length_set, h.len], fun j hj => ?_, fun j hj => ?_⟩
    · rw [getD_set _ _ _ _ _ hi']; split
      · exact hr
      · exact h.row j hj
    · rw [getD_set _ _ _ _ _ hi']; split
      · exact hl
      · exact h.lt j hj
  · rw [List.set_eq_of_length_le (by rw [h.len]; omega)]; exact h

def swapM (M : List (List Nat)) (a b : Nat) : List (List Nat) := (M.set a (M.getD b [])).set b (M.getD a [])
theorem swapM_length (M : List (List Nat)) (a b : Nat) : (swapM M a b).length = M.length := by simp [swapM]
theorem swapM_get (M : List (List Nat)) (a b i : Nat) (ha : a < M.length) (hb : b < M.length) : (swapM M a b).getD i [] = M.getD (if i = b then a else if i = a then b else i) [] := by
  unfold swapM
  rw [getD_set _ _ _ _ _ (by rw [List.length_set]; exact hb), getD_set _ _ _ _ _ ha]
  split
  · rfl
  · split <;> rfl
theorem Sh.swap {M : List (List Nat)} {n c : Nat} (h : Sh M n c) (a b : Nat) (ha : a < n) (hb : b < n) : Sh (swapM M a b) n c :=
  (h.set a _ (h.row b hb) (h.lt b hb)).set b _ (h.row a ha) (h.lt a ha)

/-- From j on, the first row that has something in the column. -/
def pf (M : List (List Nat)) (col : Nat) : Nat → Nat → Option Nat
  | 0, _ => none
  | d + 1, j => if (M.getD j []).getD col 0 ≠ 0 then some j else pf M col d (j + 1)
def piv (M : List (List Nat)) (at_ col : Nat) : Option Nat := pf M col (M.length - at_) at_
theorem pf_at {M : List (List Nat)} {col : Nat} : ∀ d j p, pf M col d j = some p → j ≤ p ∧ p < j + d ∧ (M.getD p []).getD col 0 ≠ 0 := by
  intro d
  induction d with
  | zero => intro j p h; simp [pf] at h
  | succ d ih =>
    intro j p h
    rw [pf] at h
    split at h
    · rename_i hne
      cases h
      exact ⟨Nat.le_refl _, by omega, hne⟩
    · obtain ⟨h1, h2, h3⟩ := ih _ _ h
      exact ⟨by omega, by omega, h3⟩
theorem piv_facts {M : List (List Nat)} {at_ col p : Nat} (h : piv M at_ col = some p) : at_ ≤ p ∧ p < M.length ∧ (M.getD p []).getD col 0 ≠ 0 := by
  unfold piv at h
  obtain ⟨h1, h2, h3⟩ := pf_at _ _ _ h
  exact ⟨h1, by omega, h3⟩

def addRow (s q : List Nat) (f : Nat) : List Nat := List.zipWith (fun x y => x ^^^ mul f y) s q
theorem addRow_length (s q : List Nat) (f : Nat) (h : q.length = s.length) : (addRow s q f).length = s.length := by simp [addRow, h]
theorem addRow_lt {s q : List Nat} {f : Nat} (hs : AllLt s) (hf : f < 256) : AllLt (addRow s q f) := by
  intro i
  unfold addRow
  rw [List.getD_eq_getElem?_getD, List.getElem?_zipWith]
  have h1 := hs i
  rw [List.getD_eq_getElem?_getD] at h1
  cases h : s[i]? with
  | none => simp
  | some x =>
    cases h' : q[i]? with
    | none => simp
    | some y =>
      simp [h] at h1
      simp
      exact Nat.xor_lt_two_pow (n := 8) h1 (mul_lt hf)
theorem amTo_zip (s q : List Nat) (f : Nat) : ∀ k, k ≤ q.length → q.length = s.length → amTo s q f 0 k = List.zipWith (fun x y => x ^^^ mul f y) (s.take k) (q.take k) ++ s.drop k := by
  intro k
  induction k with
  | zero => intro _ _; simp [amTo]
  | succ k ih =>
    intro hk hl
    have hks : k < s.length := by omega
    have hkq : k < q.length := by omega
    rw [amTo, ih (by omega) hl, Nat.zero_add]
    unfold xorAt
    have e1 : (List.zipWith (fun x y => x ^^^ mul f y) (s.take k) (q.take k)).length = k := by simp; omega
    rw [List.set_append_right _ _ (by omega), e1, Nat.sub_self, List.drop_eq_getElem_cons hks, List.set_cons_zero, List.getD_eq_getElem?_getD, List.getElem?_append_right (by omega), e1, Nat.sub_self]
    simp only [List.getElem?_cons_zero, Option.getD_some]
    rw [List.take_succ_eq_append_getElem hks, List.take_succ_eq_append_getElem hkq, List.zipWith_append (by simp; omega)]
    simp [List.getD_eq_getElem?_getD, List.getElem?_eq_getElem hkq]
theorem amTo_add (s q : List Nat) (f : Nat) (h : q.length = s.length) : amTo s q f 0 q.length = addRow s q f := by
  rw [amTo_zip s q f q.length (Nat.le_refl _) h, List.take_length, List.take_of_length_le (by omega), List.drop_eq_nil_of_le (by omega), List.append_nil]
  rfl
/-- All rows but one get their multiple of that one. -/
def clearM (M : List (List Nat)) (by_ : Nat) (fs : Nat → Nat) (k : Nat) : List (List Nat) := (List.range M.length).map fun i => if i < k ∧ i ≠ by_ then addRow (M.getD i []) (M.getD by_ []) (fs i) else M.getD i []
theorem clearM_length (M : List (List Nat)) (b : Nat) (fs : Nat → Nat) (k : Nat) : (clearM M b fs k).length = M.length := by simp [clearM]
theorem clearM_get (M : List (List Nat)) (b : Nat) (fs : Nat → Nat) (k i : Nat) (h : i < M.length) : (clearM M b fs k).getD i [] = if i < k ∧ i ≠ b then addRow (M.getD i []) (M.getD b []) (fs i) else M.getD i [] := by
  simp [clearM, h]
theorem Sh.clear {M : List (List Nat)} {n c b : Nat} {fs : Nat → Nat} (h : Sh M n c) (hb : b < n) (hf : ∀ i, fs i < 256) (k : Nat) : Sh (clearM M b fs k) n c := by
  refine ⟨by rw [clearM_length, h.len], fun i hi => ?_, fun i hi => ?_⟩
  · rw [clearM_get _ _ _ _ _ (by rw [h.len]; exact hi)]
    split
    · rw [addRow_length _ _ _ (by rw [h.row i hi, h.row b hb]), h.row i hi]
    · exact h.row i hi
  · rw [clearM_get _ _ _ _ _ (by rw [h.len]; exact hi)]
    split
    · exact addRow_lt (h.lt i hi) (hf i)
    · exact h.lt i hi
/-- A pivot found: its row swapped up, made to begin with 1 (h: what it begins with), the others cleared (fs: by how much). -/
def headM (M : List (List Nat)) (at_ h : Nat) : List (List Nat) := M.set at_ (sc (M.getD at_ []) (inv h))
def opM (M : List (List Nat)) (at_ p h : Nat) (fs : Nat → Nat) : List (List Nat) := clearM (headM (swapM M at_ p) at_ h) at_ fs M.length
def hOf (M : List (List Nat)) (col p : Nat) : Nat := (M.getD p []).getD col 0
def fOf (M : List (List Nat)) (at_ col p : Nat) (i : Nat) : Nat := ((swapM M at_ p).getD i []).getD col 0
def clr (M : List (List Nat)) (at_ col p : Nat) : List (List Nat) := opM M at_ p (hOf M col p) (fOf M at_ col p)
theorem Sh.head {M : List (List Nat)} {n c : Nat} (h : Sh M n c) (at_ x : Nat) (ha : at_ < n) : Sh (headM M at_ x) n c :=
  h.set at_ _ (by rw [sc_length, h.row at_ ha]) (sc_lt (inv_lt x))
theorem Sh.op {M : List (List Nat)} {n c at_ p x : Nat} {fs : Nat → Nat} (h : Sh M n c) (ha : at_ < n) (hp : p < n) (hf : ∀ i, fs i < 256) : Sh (opM M at_ p x fs) n c :=
  ((h.swap at_ p ha hp).head at_ x ha).clear ha hf _
theorem Sh.clr {M : List (List Nat)} {n c at_ col p : Nat} (h : Sh M n c) (ha : at_ < n) (hp : p < n) : Sh (clr M at_ col p) n c :=
  h.op ha hp (fun i => (h.swap at_ p ha hp).elt i col)
/-- How many rows are done, and what the rows are, when k columns have been looked at. -/
def redM (M : List (List Nat)) : Nat → Nat × List (List Nat)
  | 0 => (0, M)
  | k + 1 => if (redM M k).1 < M.length then (match piv (redM M k).2 (redM M k).1 k with | some p => ((redM M k).1 + 1, clr (redM M k).2 (redM M k).1 k p) | none => redM M k) else redM M k
end Gf
end Go.Proofs.YtbgadbokejaomaaGreatDoor

namespace Go.Proofs.YtbgadbokejaomaaGreatDoor
open Go.RowKit
namespace Gf

theorem ext_getD {α : Type} {l m : List α} (d : α) (h : l.length = m.length) (hg : ∀ i, i < l.length → l.getD i d = m.getD i d) : l = m := by
  apply List.ext_getElem h
  intro i h1 h2
  have := hg i h1
  rwa [List.getD_eq_getElem?_getD, List.getD_eq_getElem?_getD, List.getElem?_eq_getElem h1, List.getElem?_eq_getElem h2, Option.getD_some, Option.getD_some] at this
def joinN (A B : List (List Nat)) : List (List Nat) := (List.range A.length).map fun i => A.getD i [] ++ B.getD i []
/-- A matrix and what stands beside it, when k columns have been cleared; nothing where one had none to clear it by. -/
def invTo (A S : List (List Nat)) : Nat → Option (List (List Nat) × List (List Nat))
  | 0 => some (A, S)
  | k + 1 => match invTo A S k with
    | none => none
    | some q => match piv q.1 k k with
      | none => none
      | some p => some (clr q.1 k k p, opM q.2 k p (hOf q.1 k p) (fOf q.1 k k p))
theorem invTo_sh {A S : List (List Nat)} {n c d : Nat} (ha : Sh A n c) (hs : Sh S n d) : ∀ k, k ≤ n → ∀ q, invTo A S k = some q → Sh q.1 n c ∧ Sh q.2 n d := by
  intro k
  induction k with
  | zero => intro _ q h; simp only [invTo, Option.some.injEq] at h; subst h; exact ⟨ha, hs⟩
  | succ k ih =>
    intro hk q h
    rw [invTo] at h
    cases e : invTo A S k with
    | none => rw [e] at h; simp at h
    | some r =>
      obtain ⟨h1, h2⟩ := ih (by omega) r e
      rw [e] at h
      simp only [] at h
      cases e2 : piv r.1 k k with
      | none => rw [e2] at h; simp at h
      | some p =>
        rw [e2] at h
        simp only [Option.some.injEq] at h
        have hp := (piv_facts e2).2.1
        rw [h1.len] at hp
        subst h
        exact ⟨h1.clr (by omega) hp, h2.op (by omega) hp (fun i => (h1.swap k p (by omega) hp).elt i k)⟩
/-- What is beside a matrix when all its columns have been cleared. -/
def solN (A S : List (List Nat)) : List (List Nat) × Bool := match invTo A S A.length with
  | some q => (q.2, true)
  | none => ([], false)
end Gf
end Go.Proofs.YtbgadbokejaomaaGreatDoor

namespace Go.Proofs.YtbgadbokejaomaaGreatDoor
open Go.RowKit
namespace Gf

theorem map_get {α : Type} (L : List Nat → α) (S : List (List Nat)) (d : α) (i : Nat) (h : i < S.length) : (S.map L).getD i d = L (S.getD i []) := by
  simp [List.getD_eq_getElem?_getD, h]
structure Lin (L : List Nat → List Nat) (n : Nat) : Prop where
  sc : ∀ s f, s.length = n → AllLt s → f < 256 → L (sc s f) = Gf.sc (L s) f
  add : ∀ s q f, s.length = n → q.length = n → AllLt s → AllLt q → f < 256 → L (addRow s q f) = addRow (L s) (L q) f
theorem swap_map {L : List Nat → List Nat} {S : List (List Nat)} {n d a b : Nat} (hs : Sh S n d) (h1 : a < n) (h2 : b < n) : swapM (S.map L) a b = (swapM S a b).map L := by
  apply ext_getD []
  · rw [swapM_length, List.length_map, List.length_map, swapM_length]
  · intro i hi
    rw [swapM_length, List.length_map, hs.len] at hi
    rw [swapM_get _ _ _ _ (by rw [List.length_map, hs.len]; exact h1) (by rw [List.length_map, hs.len]; exact h2), map_get L (swapM S a b) _ _ (by rw [swapM_length, hs.len]; exact hi), swapM_get _ _ _ _ (by rw [hs.len]; exact h1) (by rw [hs.len]; exact h2)]
    apply map_get
    rw [hs.len]
    split
    · exact h1
    · split
      · exact h2
      · exact hi
theorem head_map {L : List Nat → List Nat} {S : List (List Nat)} {n d a h : Nat} (hL : Lin L d) (hs : Sh S n d) (h1 : a < n) : headM (S.map L) a h = (headM S a h).map L := by
  unfold headM
  apply ext_getD []
  · rw [List.length_set, List.length_map, List.length_map, List.length_set]
  · intro i hi
    rw [List.length_set, List.length_map, hs.len] at hi
    rw [getD_set _ _ _ _ _ (by rw [List.length_map, hs.len]; exact h1), map_get L (S.set _ _) _ _ (by rw [List.length_set, hs.len]; exact hi), getD_set _ _ _ _ _ (by rw [hs.len]; exact h1)]
    split
    · rw [map_get L _ _ _ (by rw [hs.len]; exact h1), hL.sc _ _ (hs.row a h1) (hs.lt a h1) (inv_lt h)]
    · exact map_get L _ _ _ (by rw [hs.len]; exact hi)
theorem clear_map {L : List Nat → List Nat} {S : List (List Nat)} {n d b : Nat} {fs : Nat → Nat} (hL : Lin L d) (hs : Sh S n d) (h1 : b < n) (hf : ∀ i, fs i < 256) (k : Nat) : clearM (S.map L) b fs k = (clearM S b fs k).map L := by
  apply ext_getD []
  · rw [clearM_length, List.length_map, List.length_map, clearM_length]
  · intro i hi
    rw [clearM_length, List.length_map, hs.len] at hi
    rw [clearM_get _ _ _ _ _ (by rw [List.length_map, hs.len]; exact hi), map_get L (clearM S b fs k) _ _ (by rw [clearM_length, hs.len]; exact hi), clearM_get _ _ _ _ _ (by rw [hs.len]; exact hi)]
    split
    · rw [map_get L _ _ _ (by rw [hs.len]; exact hi), map_get L _ _ _ (by rw [hs.len]; exact h1), hL.add _ _ _ (hs.row i hi) (hs.row b h1) (hs.lt i hi) (hs.lt b h1) (hf i)]
    · exact map_get L _ _ _ (by rw [hs.len]; exact hi)
theorem op_map {L : List Nat → List Nat} {S : List (List Nat)} {n d a p h : Nat} {fs : Nat → Nat} (hL : Lin L d) (hs : Sh S n d) (h1 : a < n) (h2 : p < n) (hf : ∀ i, fs i < 256) : opM (S.map L) a p h fs = (opM S a p h fs).map L := by
  unfold opM
  rw [swap_map hs h1 h2, head_map hL (hs.swap a p h1 h2) h1, clear_map hL ((hs.swap a p h1 h2).head a h h1) h1 hf, List.length_map]
theorem invTo_map {L : List Nat → List Nat} {A S : List (List Nat)} {n c d : Nat} (hL : Lin L d) (ha : Sh A n c) (hs : Sh S n d) : ∀ k, k ≤ n → invTo A (S.map L) k = (invTo A S k).map (fun q => (q.1, q.2.map L)) := by
  intro k
  induction k with
  | zero => intro _; rfl
  | succ k ih =>
    intro hk
    rw [invTo, invTo, ih (by omega)]
    cases e : invTo A S k with
    | none => rfl
    | some r =>
      obtain ⟨h1, h2⟩ := invTo_sh ha hs k (by omega) r e
      simp only [Option.map_some]
      cases e2 : piv r.1 k k with
      | none => rfl
      | some p =>
        have hp := (piv_facts e2).2.1
        rw [h1.len] at hp
        simp only [Option.map_some]
        rw [op_map (fs := fOf r.1 k k p) hL h2 (by omega) hp (fun i => (h1.swap k p (by omega) hp).elt i k)]
theorem solN_map {L : List Nat → List Nat} {A S : List (List Nat)} {n c d : Nat} (hL : Lin L d) (ha : Sh A n c) (hs : Sh S n d) : solN A (S.map L) = ((solN A S).1.map L, (solN A S).2) := by
  unfold solN
  rw [ha.len, invTo_map hL ha hs n (Nat.le_refl _)]
  cases invTo A S n with
  | none => rfl
  | some q => rfl

/-- The sum of products, place by place, of the first k. -/
def dotTo (r v : List Nat) : Nat → Nat
  | 0 => 0
  | k + 1 => dotTo r v k ^^^ mul (r.getD k 0) (v.getD k 0)
theorem dotTo_lt {r v : List Nat} (hr : AllLt r) : ∀ k, dotTo r v k < 256 := by
  intro k
  induction k with
  | zero => simp [dotTo]
  | succ k ih => rw [dotTo]; exact Nat.xor_lt_two_pow (n := 8) ih (mul_lt (hr k))
theorem sc_get (s : List Nat) (f i : Nat) (h : i < s.length) : (sc s f).getD i 0 = mul f (s.getD i 0) := by simp [sc, h]
theorem addRow_get (s q : List Nat) (f i : Nat) (h : i < s.length) (h2 : i < q.length) : (addRow s q f).getD i 0 = s.getD i 0 ^^^ mul f (q.getD i 0) := by
  simp [addRow, List.getD_eq_getElem?_getD, List.getElem?_zipWith, h, h2]
theorem dot_sc {s v : List Nat} {f : Nat} (hs : AllLt s) (hv : AllLt v) (hf : f < 256) : ∀ k, k ≤ s.length → dotTo (sc s f) v k = mul f (dotTo s v k) := by
  intro k
  induction k with
  | zero => intro _; simp [dotTo, mul_zero]
  | succ k ih => intro h; rw [dotTo, dotTo, ih (by omega), sc_get _ _ _ (by omega), mul_xor_b, mul_assoc _ _ _ hf (hs k) (hv k)]
theorem dot_add {s q v : List Nat} {f : Nat} (hs : AllLt s) (hq : AllLt q) (hv : AllLt v) (hf : f < 256) (hl : s.length = q.length) : ∀ k, k ≤ s.length → dotTo (addRow s q f) v k = dotTo s v k ^^^ mul f (dotTo q v k) := by
  intro k
  induction k with
  | zero => intro _; simp [dotTo, mul_zero]
  | succ k ih =>
    intro h
    rw [dotTo, dotTo, dotTo, ih (by omega), addRow_get _ _ _ _ (by omega) (by omega), mul_xor_a _ _ _ (hs k) (mul_lt hf), mul_xor_b, mul_assoc _ _ _ hf (hq k) (hv k), xor4]
def unitN (n i : Nat) : List Nat := (List.replicate n 0).set i 1
def identN (n : Nat) : List (List Nat) := (List.range n).map (unitN n)
theorem unitN_get (n i j : Nat) (hi : i < n) : (unitN n i).getD j 0 = if j = i then 1 else 0 := by
  unfold unitN
  rw [getD_set _ _ _ _ _ (by simp; exact hi)]
  split
  · rfl
  · simp [List.getD_eq_getElem?_getD, List.getElem?_replicate]
    split <;> rfl
theorem identN_get (n i : Nat) (h : i < n) : (identN n).getD i [] = unitN n i := by simp [identN, h]
theorem sh_ident (n : Nat) : Sh (identN n) n n := by
  refine ⟨by simp [identN], fun i hi => ?_, fun i hi j => ?_⟩
  · rw [identN_get n i hi]; simp [unitN]
  · rw [identN_get n i hi, unitN_get n i j hi]; split <;> omega
theorem ci_unit (n i : Nat) : ci (unitN n i) = unitRow n i := by simp [ci, unitN, unitRow, List.map_set]
theorem dot_unit {v : List Nat} {n i : Nat} (hv : AllLt v) (hi : i < n) : ∀ k, dotTo (unitN n i) v k = if i < k then v.getD i 0 else 0 := by
  intro k
  induction k with
  | zero => simp [dotTo]
  | succ k ih =>
    rw [dotTo, ih, unitN_get n i k hi]
    by_cases e : k = i
    · subst e
      rw [if_neg (by omega), if_pos rfl, if_pos (by omega), one_mul _ (hv k), Nat.zero_xor]
    · rw [if_neg e, zero_mul (hv k), Nat.xor_zero]
      by_cases h : i < k
      · rw [if_pos h, if_pos (by omega)]
      · rw [if_neg h, if_neg (by omega)]
end Gf
end Go.Proofs.YtbgadbokejaomaaGreatDoor

namespace Go.Proofs.YtbgadbokejaomaaGreatDoor
open Go.RowKit
namespace Gf

/-- A sum of multiples of what is told by x and each y. -/
def cs (z y : Nat → Nat) (x : Nat) : Nat → Nat
  | 0 => 0
  | m + 1 => cs z y x m ^^^ mul (z m) (inv (x ^^^ y m))
def sumZ (z : Nat → Nat) : Nat → Nat
  | 0 => 0
  | m + 1 => sumZ z m ^^^ z m
theorem cs_lt {z y : Nat → Nat} {x : Nat} (hz : ∀ j, z j < 256) : ∀ m, cs z y x m < 256 := by
  intro m
  induction m with
  | zero => simp [cs]
  | succ m ih => exact xor_lt ih (mul_lt (hz m))
theorem cs_step {z y : Nat → Nat} {x Y : Nat} (hz : ∀ j, z j < 256) (hy : ∀ j, y j < 256) (hx : x < 256) (hY : Y < 256) : ∀ m, (∀ j, j < m → x ≠ y j) →
    mul (x ^^^ Y) (cs z y x m) = sumZ z m ^^^ cs (fun j => mul (z j) (y j ^^^ Y)) y x m := by
  intro m
  induction m with
  | zero => intro _; simp [cs, sumZ, mul_zero]
  | succ m ih =>
    intro h
    have hd : x ^^^ y m ≠ 0 := fun e => h m (by omega) (xor_zero_eq e)
    have b1 := xor_lt hx (hy m)
    have b2 := xor_lt (hy m) hY
    have e : x ^^^ Y = (x ^^^ y m) ^^^ (y m ^^^ Y) := by
      rw [Nat.xor_assoc, ← Nat.xor_assoc (y m), Nat.xor_self, Nat.zero_xor]
    have t : mul (x ^^^ Y) (mul (z m) (inv (x ^^^ y m))) = z m ^^^ mul (mul (z m) (y m ^^^ Y)) (inv (x ^^^ y m)) := by
      rw [e, mul_xor_a _ _ _ b1 b2, mul_left _ _ _ b1 (hz m) (inv_lt _), mul_inv _ b1 hd, mul_one _ (hz m), mul_left _ _ _ b2 (hz m) (inv_lt _), ← mul_assoc _ _ _ (hz m) b2 (inv_lt _)]
    rw [cs, sumZ, cs, mul_xor_b, ih (fun j hj => h j (by omega)), t, xor4]
theorem inv_two {a b : Nat} (ha : a < 256) (hb : b < 256) (a0 : a ≠ 0) (b0 : b ≠ 0) : inv a ^^^ inv b = mul (a ^^^ b) (mul (inv b) (inv a)) := by
  rw [mul_xor_a _ _ _ ha hb, mul_left a _ _ ha (inv_lt _) (inv_lt _), mul_inv a ha a0, mul_one _ (inv_lt _), ← mul_assoc b _ _ hb (inv_lt _) (inv_lt _), mul_inv b hb b0, one_mul _ (inv_lt _), Nat.xor_comm]
theorem cs_two {w y : Nat → Nat} {x X : Nat} (hw : ∀ j, w j < 256) (hy : ∀ j, y j < 256) (hx : x < 256) (hX : X < 256) : ∀ m, (∀ j, j < m → x ≠ y j ∧ X ≠ y j) →
    cs w y x m ^^^ cs w y X m = mul (x ^^^ X) (cs (fun j => mul (w j) (inv (X ^^^ y j))) y x m) := by
  intro m
  induction m with
  | zero => intro _; simp [cs, mul_zero]
  | succ m ih =>
    intro h
    obtain ⟨h1, h2⟩ := h m (by omega)
    have d1 : x ^^^ y m ≠ 0 := fun e => h1 (xor_zero_eq e)
    have d2 : X ^^^ y m ≠ 0 := fun e => h2 (xor_zero_eq e)
    have b1 := xor_lt hx (hy m)
    have b2 := xor_lt hX (hy m)
    have b3 := xor_lt hx hX
    have e : (x ^^^ y m) ^^^ (X ^^^ y m) = x ^^^ X := by
      rw [Nat.xor_comm X, Nat.xor_assoc, ← Nat.xor_assoc (y m), Nat.xor_self, Nat.zero_xor]
    have t : mul (w m) (inv (x ^^^ y m)) ^^^ mul (w m) (inv (X ^^^ y m)) = mul (x ^^^ X) (mul (mul (w m) (inv (X ^^^ y m))) (inv (x ^^^ y m))) := by
      rw [← mul_xor_b, inv_two b1 b2 d1 d2, e, mul_left _ _ _ (hw m) b3 (mul_lt (inv_lt _)), mul_assoc _ _ _ (hw m) (inv_lt _) (inv_lt _)]
    rw [cs, cs, cs, xor4, ih (fun j hj => h j (by omega)), t, ← mul_xor_b]
/-- Cauchy: where unlike elements are on both sides, no multiples but noughts sum to 0 for each x. -/
theorem cauchy_zero : ∀ (n : Nat) (x y z : Nat → Nat), (∀ i, x i < 256) → (∀ j, y j < 256) → (∀ j, z j < 256) → (∀ i j, i < n → j < n → i ≠ j → x i ≠ x j) → (∀ i j, i < n → j < n → i ≠ j → y i ≠ y j) → (∀ i j, i < n → j < n → x i ≠ y j) →
    (∀ i, i < n → cs z y (x i) n = 0) → ∀ j, j < n → z j = 0 := by
  intro n
  induction n with
  | zero => intro x y z _ _ _ _ _ _ _ j hj; omega
  | succ m ih =>
    intro x y z hx hy hz ix iy xy h
    have hw : ∀ j, mul (z j) (y j ^^^ y m) < 256 := fun j => mul_lt (hz j)
    have key : ∀ i, i < m + 1 → cs (fun j => mul (z j) (y j ^^^ y m)) y (x i) m = sumZ z m ^^^ z m := by
      intro i hi
      have hd : x i ^^^ y m ≠ 0 := fun e => xy i m hi (by omega) (xor_zero_eq e)
      have b := xor_lt (hx i) (hy m)
      have e1 := h i hi
      rw [cs] at e1
      have e2 : cs z y (x i) m = mul (z m) (inv (x i ^^^ y m)) := xor_zero_eq e1
      have e3 := cs_step (x := x i) (Y := y m) hz hy (hx i) (hy m) m (fun j hj => xy i j hi (by omega))
      rw [e2, mul_left _ _ _ b (hz m) (inv_lt _), mul_inv _ b hd, mul_one _ (hz m)] at e3
      rw [e3, ← Nat.xor_assoc, Nat.xor_self, Nat.zero_xor]
    have hv : ∀ i, i < m → cs (fun j => mul (mul (z j) (y j ^^^ y m)) (inv (x m ^^^ y j))) y (x i) m = 0 := by
      intro i hi
      have e1 := cs_two (x := x i) (X := x m) hw hy (hx i) (hx m) m (fun j hj => ⟨xy i j (by omega) (by omega), xy m j (by omega) (by omega)⟩)
      rw [key i (by omega), key m (by omega), Nat.xor_self] at e1
      have hd : x i ^^^ x m ≠ 0 := fun e => ix i m (by omega) (by omega) (by omega) (xor_zero_eq e)
      rcases mul_eq_zero _ _ (xor_lt (hx i) (hx m)) (cs_lt (fun j => mul_lt (hw j)) m) e1.symm with e | e
      · exact absurd e hd
      · exact e
    have hzero := ih x y (fun j => mul (mul (z j) (y j ^^^ y m)) (inv (x m ^^^ y j))) hx hy (fun j => mul_lt (hw j)) (fun i j hi hj => ix i j (by omega) (by omega)) (fun i j hi hj => iy i j (by omega) (by omega)) (fun i j hi hj => xy i j (by omega) (by omega)) hv
    have low : ∀ j, j < m → z j = 0 := by
      intro j hj
      have e := hzero j hj
      have d1 : x m ^^^ y j ≠ 0 := fun e => xy m j (by omega) (by omega) (xor_zero_eq e)
      have d2 : y j ^^^ y m ≠ 0 := fun e => iy j m (by omega) (by omega) (by omega) (xor_zero_eq e)
      rcases mul_eq_zero _ _ (hw j) (inv_lt _) e with e | e
      · rcases mul_eq_zero _ _ (hz j) (xor_lt (hy j) (hy m)) e with e | e
        · exact e
        · exact absurd e d2
      · exact absurd e (inv_ne (xor_lt (hx m) (hy j)) d1)
    intro j hj
    by_cases hjm : j < m
    · exact low j hjm
    · have hj' : j = m := by omega
      subst hj'
      have e1 := h j (by omega)
      rw [cs] at e1
      have e0 : ∀ k, k ≤ j → cs z y (x j) k = 0 := by
        intro k
        induction k with
        | zero => intro _; rfl
        | succ k ihk => intro hk; rw [cs, ihk (by omega), low k (by omega), zero_mul (inv_lt _), Nat.xor_zero]
      rw [e0 j (Nat.le_refl _), Nat.zero_xor] at e1
      have hd : x j ^^^ y j ≠ 0 := fun e => xy j j (by omega) (by omega) (xor_zero_eq e)
      rcases mul_eq_zero _ _ (hz j) (inv_lt _) e1 with e | e
      · exact e
      · exact absurd e (inv_ne (xor_lt (hx j) (hy j)) hd)
end Gf
end Go.Proofs.YtbgadbokejaomaaGreatDoor

namespace Go.Proofs.YtbgadbokejaomaaGreatDoor
open Go.RowKit
namespace Gf

theorem headM_get {M : List (List Nat)} {n c : Nat} (hm : Sh M n c) (at_ x i : Nat) (ha : at_ < n) : (headM M at_ x).getD i [] = if i = at_ then sc (M.getD at_ []) (inv x) else M.getD i [] := by
  unfold headM
  rw [getD_set _ _ _ _ _ (by rw [hm.len]; exact ha)]
/-- The rows behind one step: s is the matrix with its row swapped up. -/
theorem opM_get {M : List (List Nat)} {n c : Nat} (hm : Sh M n c) (at_ p x : Nat) (fs : Nat → Nat) (i : Nat) (ha : at_ < n) (hp : p < n) (hi : i < n) :
    (opM M at_ p x fs).getD i [] = if i = at_ then sc ((swapM M at_ p).getD at_ []) (inv x) else addRow ((swapM M at_ p).getD i []) (sc ((swapM M at_ p).getD at_ []) (inv x)) (fs i) := by
  have hs := hm.swap at_ p ha hp
  have hh := hs.head at_ x ha
  unfold opM
  rw [clearM_get _ _ _ _ _ (by rw [hh.len]; exact hi), headM_get hs at_ x i ha, headM_get hs at_ x at_ ha, if_pos rfl, hm.len]
  by_cases e : i = at_
  · subst e
    rw [if_neg (fun h => h.2 rfl), if_pos rfl, if_pos rfl]
  · rw [if_pos ⟨hi, e⟩, if_neg e, if_neg e]
theorem pf_none {M : List (List Nat)} {col : Nat} : ∀ d j, pf M col d j = none → ∀ i, j ≤ i → i < j + d → (M.getD i []).getD col 0 = 0 := by
  intro d
  induction d with
  | zero => intro j _ i h1 h2; omega
  | succ d ih =>
    intro j h i h1 h2
    rw [pf] at h
    by_cases e : (M.getD j []).getD col 0 ≠ 0
    · rw [if_pos e] at h; cases h
    · rw [if_neg e] at h
      by_cases e2 : i = j
      · subst e2; exact Classical.not_not.1 e
      · exact ih (j + 1) h i (by omega) (by omega)
theorem piv_none {M : List (List Nat)} {n c at_ col : Nat} (hm : Sh M n c) (h : piv M at_ col = none) (i : Nat) (h1 : at_ ≤ i) (h2 : i < n) : (M.getD i []).getD col 0 = 0 := by
  unfold piv at h
  rw [hm.len] at h
  exact pf_none _ _ h i h1 (by omega)

/-- A step can be taken back: what its rows take to noughts the rows ahead of it do. -/
theorem op_kern {M : List (List Nat)} {n c at_ p x : Nat} {fs : Nat → Nat} {z : List Nat} (hm : Sh M n c) (ha : at_ < n) (hp : p < n) (hx : x < 256) (hx0 : x ≠ 0) (hf : ∀ i, fs i < 256) (hz : AllLt z)
    (h : ∀ i, i < n → dotTo ((opM M at_ p x fs).getD i []) z c = 0) : ∀ i, i < n → dotTo (M.getD i []) z c = 0 := by
  have hs := hm.swap at_ p ha hp
  have e0 := h at_ ha
  rw [opM_get hm at_ p x fs at_ ha hp ha, if_pos rfl, dot_sc (hs.lt at_ ha) hz (inv_lt x) c (by rw [hs.row at_ ha]; exact Nat.le_refl _)] at e0
  have s0 : dotTo ((swapM M at_ p).getD at_ []) z c = 0 := by
    rcases mul_eq_zero _ _ (inv_lt x) (dotTo_lt (hs.lt at_ ha) c) e0 with e | e
    · exact absurd e (inv_ne hx hx0)
    · exact e
  have sw : ∀ i, i < n → dotTo ((swapM M at_ p).getD i []) z c = 0 := by
    intro i hi
    by_cases e : i = at_
    · rw [e]; exact s0
    · have ei := h i hi
      rw [opM_get hm at_ p x fs i ha hp hi, if_neg e, dot_add (hs.lt i hi) (sc_lt (inv_lt x)) hz (hf i) (by rw [sc_length, hs.row i hi, hs.row at_ ha]) c (by rw [hs.row i hi]; exact Nat.le_refl _), dot_sc (hs.lt at_ ha) hz (inv_lt x) c (by rw [hs.row at_ ha]; exact Nat.le_refl _)] at ei
      rw [s0, mul_zero, mul_zero, Nat.xor_zero] at ei
      exact ei
  intro i hi
  by_cases e1 : i = at_
  · have := sw p hp
    rw [swapM_get _ _ _ _ (by rw [hm.len]; exact ha) (by rw [hm.len]; exact hp), if_pos rfl] at this
    rw [e1]; exact this
  · by_cases e2 : i = p
    · have := sw at_ ha
      rw [swapM_get _ _ _ _ (by rw [hm.len]; exact ha) (by rw [hm.len]; exact hp)] at this
      by_cases e3 : at_ = p
      · exact absurd (e2.trans e3.symm) e1
      · rw [if_neg e3, if_pos rfl] at this
        rw [e2]; exact this
    · have := sw i hi
      rw [swapM_get _ _ _ _ (by rw [hm.len]; exact ha) (by rw [hm.len]; exact hp), if_neg e2, if_neg e1] at this
      exact this
theorem clr_kern {A : List (List Nat)} {n c k p : Nat} {z : List Nat} (ha : Sh A n c) (hk : k < n) (hp : piv A k k = some p) (hz : AllLt z) (h : ∀ i, i < n → dotTo ((clr A k k p).getD i []) z c = 0) : ∀ i, i < n → dotTo (A.getD i []) z c = 0 := by
  obtain ⟨_, h2, h3⟩ := piv_facts hp
  rw [ha.len] at h2
  exact op_kern ha hk h2 (ha.elt p k) h3 (fun i => (ha.swap k p hk h2).elt i k) hz h
theorem inv_kern {A S : List (List Nat)} {n c d : Nat} {z : List Nat} (ha : Sh A n c) (hs : Sh S n d) (hz : AllLt z) : ∀ k, k ≤ n → ∀ q, invTo A S k = some q → (∀ i, i < n → dotTo (q.1.getD i []) z c = 0) → ∀ i, i < n → dotTo (A.getD i []) z c = 0 := by
  intro k
  induction k with
  | zero => intro _ q h hh; simp only [invTo, Option.some.injEq] at h; subst h; exact hh
  | succ k ih =>
    intro hk q h hh
    rw [invTo] at h
    cases e : invTo A S k with
    | none => rw [e] at h; simp at h
    | some r =>
      obtain ⟨h1, h2⟩ := invTo_sh ha hs k (by omega) r e
      rw [e] at h
      simp only [] at h
      cases e2 : piv r.1 k k with
      | none => rw [e2] at h; simp at h
      | some p =>
        rw [e2] at h
        simp only [Option.some.injEq] at h
        subst h
        exact ih (by omega) r e (clr_kern h1 (by omega) e2 hz hh)
/-- The columns that are cleared are the identity's. -/
theorem inv_unit {A S : List (List Nat)} {n c d : Nat} (ha : Sh A n c) (hs : Sh S n d) (hc : n ≤ c) : ∀ k, k ≤ n → ∀ q, invTo A S k = some q → ∀ i j, i < n → j < k → (q.1.getD i []).getD j 0 = if i = j then 1 else 0 := by
  intro k
  induction k with
  | zero => intro _ q _ i j _ hj; omega
  | succ k ih =>
    intro hk q h i j hi hj
    rw [invTo] at h
    cases e : invTo A S k with
    | none => rw [e] at h; simp at h
    | some r =>
      obtain ⟨h1, h2⟩ := invTo_sh ha hs k (by omega) r e
      rw [e] at h
      simp only [] at h
      cases e2 : piv r.1 k k with
      | none => rw [e2] at h; simp at h
      | some p =>
        rw [e2] at h
        simp only [Option.some.injEq] at h
        subst h
        simp only []
        obtain ⟨hp1, hp2, hp3⟩ := piv_facts e2
        rw [h1.len] at hp2
        have hs1 := h1.swap k p (by omega) hp2
        have U := ih (by omega) r e
        have lk : k < r.1.length := by rw [h1.len]; omega
        have lp : p < r.1.length := by rw [h1.len]; exact hp2
        have hx : hOf r.1 k p = ((swapM r.1 k p).getD k []).getD k 0 := by
          unfold hOf
          rw [swapM_get _ _ _ _ lk lp]
          by_cases e3 : k = p
          · rw [if_pos e3, e3]
          · rw [if_neg e3, if_pos rfl]
        have sU : ∀ i j, i < n → j < k → ((swapM r.1 k p).getD i []).getD j 0 = if i = j then 1 else 0 := by
          intro i j hi hj
          rw [swapM_get _ _ _ _ lk lp]
          by_cases e3 : i = p
          · rw [if_pos e3, U k j (by omega) hj, if_neg (by omega), if_neg (by omega)]
          · rw [if_neg e3]
            by_cases e4 : i = k
            · rw [if_pos e4, U p j hp2 hj, if_neg (by omega), if_neg (by omega)]
            · rw [if_neg e4]; exact U i j hi hj
        have x0 : hOf r.1 k p ≠ 0 := hp3
        have x256 : hOf r.1 k p < 256 := h1.elt p k
        unfold clr
        rw [opM_get h1 k p _ _ i (by omega) hp2 hi]
        have rowk : ∀ j, j < c → (sc ((swapM r.1 k p).getD k []) (inv (hOf r.1 k p))).getD j 0 = mul (inv (hOf r.1 k p)) (((swapM r.1 k p).getD k []).getD j 0) := fun j hj => sc_get _ _ _ (by rw [hs1.row k (by omega)]; exact hj)
        by_cases e3 : i = k
        · rw [if_pos e3, rowk j (by omega)]
          by_cases e4 : j = k
          · rw [e4, ← hx, mul_comm _ _ (inv_lt _) x256, mul_inv _ x256 x0, if_pos (by omega)]
          · rw [sU k j (by omega) (by omega), if_neg (by omega), mul_zero, if_neg (by omega)]
        · rw [if_neg e3, addRow_get _ _ _ _ (by rw [hs1.row i hi]; omega) (by rw [sc_length, hs1.row k (by omega)]; omega), rowk j (by omega)]
          by_cases e4 : j = k
          · have ff : fOf r.1 k k p i = ((swapM r.1 k p).getD i []).getD k 0 := rfl
            rw [e4, ← hx, mul_comm _ _ (inv_lt _) x256, mul_inv _ x256 x0, ff, mul_one _ (hs1.elt i k), if_neg (by omega)]
            exact Nat.xor_self _
          · rw [sU k j (by omega) (by omega), if_neg (by omega), mul_zero, mul_zero, Nat.xor_zero, sU i j hi (by omega)]
/-- What a column that cannot be cleared takes to noughts. -/
def kerZ (A : List (List Nat)) (k c : Nat) : List Nat := (List.range c).map fun j => if j < k then (A.getD j []).getD k 0 else if j = k then 1 else 0
theorem kerZ_get (A : List (List Nat)) (k c j : Nat) (h : j < c) : (kerZ A k c).getD j 0 = if j < k then (A.getD j []).getD k 0 else if j = k then 1 else 0 := by simp [kerZ, h]
theorem kerZ_lt {A : List (List Nat)} {n k c : Nat} {d : Nat} (ha : Sh A n d) : AllLt (kerZ A k c) := by
  intro j
  by_cases h : j < c
  · rw [kerZ_get _ _ _ _ h]
    split
    · exact ha.elt j k
    · split <;> omega
  · rw [List.getD_eq_getElem?_getD, List.getElem?_eq_none (by simp [kerZ]; omega)]; decide
theorem ker_dot {A : List (List Nat)} {n c k : Nat} (ha : Sh A n c) (hU : ∀ i j, i < n → j < k → (A.getD i []).getD j 0 = if i = j then 1 else 0) (i : Nat) (hi : i < n) : ∀ m, m ≤ c →
    dotTo (A.getD i []) (kerZ A k c) m = (if i < k ∧ i < m then (A.getD i []).getD k 0 else 0) ^^^ (if k < m then (A.getD i []).getD k 0 else 0) := by
  intro m
  induction m with
  | zero => intro _; simp [dotTo]
  | succ m ih =>
    intro hm
    rw [dotTo, ih (by omega), kerZ_get _ _ _ _ (by omega)]
    by_cases h1 : m < k
    · rw [if_pos h1, hU i m hi h1, if_neg (show ¬ k < m by omega), if_neg (show ¬ k < m + 1 by omega), Nat.xor_zero, Nat.xor_zero]
      by_cases h2 : i = m
      · subst h2
        rw [if_pos rfl, one_mul _ (ha.elt i k), if_neg (by omega), if_pos (by omega), Nat.zero_xor]
      · rw [if_neg h2, zero_mul (ha.elt m k), Nat.xor_zero]
        by_cases h3 : i < k ∧ i < m
        · rw [if_pos h3, if_pos (by omega)]
        · rw [if_neg h3, if_neg (by omega)]
    · rw [if_neg h1]
      by_cases h2 : m = k
      · subst h2
        rw [if_pos rfl, mul_one _ (ha.elt i m), if_neg (show ¬ m < m by omega), Nat.xor_zero, if_pos (show m < m + 1 by omega)]
        by_cases h3 : i < m
        · rw [if_pos ⟨h3, h3⟩, if_pos (by omega)]
        · rw [if_neg (by omega), if_neg (by omega)]
      · rw [if_neg h2, mul_zero, Nat.xor_zero]
        have e1 : (i < k ∧ i < m) ↔ (i < k ∧ i < m + 1) := by omega
        have e2 : k < m ↔ k < m + 1 := by omega
        simp only [e1, e2]
/-- A square matrix that takes nothing but noughts to noughts has an inverse. -/
theorem inv_exists {A S : List (List Nat)} {n d : Nat} (ha : Sh A n n) (hs : Sh S n d) (hk : ∀ z : List Nat, z.length = n → AllLt z → (∀ i, i < n → dotTo (A.getD i []) z n = 0) → ∀ j, j < n → z.getD j 0 = 0) : ∀ k, k ≤ n → ∃ q, invTo A S k = some q := by
  intro k
  induction k with
  | zero => intro _; exact ⟨_, rfl⟩
  | succ k ih =>
    intro hk'
    obtain ⟨r, e⟩ := ih (by omega)
    obtain ⟨h1, h2⟩ := invTo_sh ha hs k (by omega) r e
    rw [invTo, e]
    simp only []
    cases e2 : piv r.1 k k with
    | some p => exact ⟨_, rfl⟩
    | none =>
      exfalso
      have U := inv_unit ha hs (Nat.le_refl _) k (by omega) r e
      have Z : AllLt (kerZ r.1 k n) := kerZ_lt h1
      have hz : ∀ i, i < n → dotTo (r.1.getD i []) (kerZ r.1 k n) n = 0 := by
        intro i hi
        rw [ker_dot h1 U i hi n (Nat.le_refl _), if_pos (show k < n by omega)]
        by_cases h : i < k
        · rw [if_pos ⟨h, hi⟩, Nat.xor_self]
        · rw [if_neg (by omega), piv_none h1 e2 i (by omega) hi, Nat.xor_self]
      have := hk (kerZ r.1 k n) (by simp [kerZ]) Z (inv_kern ha hs Z k (by omega) r e hz) k (by omega)
      rw [kerZ_get _ _ _ _ (by omega), if_neg (by omega), if_pos rfl] at this
      cases this
theorem solN_ok {A S : List (List Nat)} {n d : Nat} (ha : Sh A n n) (hs : Sh S n d) (hk : ∀ z : List Nat, z.length = n → AllLt z → (∀ i, i < n → dotTo (A.getD i []) z n = 0) → ∀ j, j < n → z.getD j 0 = 0) : (solN A S).2 = true := by
  obtain ⟨q, h⟩ := inv_exists ha hs hk n (Nat.le_refl _)
  unfold solN
  rw [ha.len, h]
end Gf
end Go.Proofs.YtbgadbokejaomaaGreatDoor

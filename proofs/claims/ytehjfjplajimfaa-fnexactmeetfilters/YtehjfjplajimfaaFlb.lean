/-
  Bits put, the bits of a key, what two filters have: the mathematics. No program, no condition.
-/
import Derived.Test.YtehjfjplajimfaaTbm
namespace Go.Proofs.Ytehjfjplajimfaa
open Go.RowKit
set_option linter.unusedVariables false

/-- The bit that is number i of a key. -/
def hB (k : Int) (i : Nat) : Int := (k * (2 * (i : Int) + 7) + 13 * (i : Int)) % 61
theorem hB_lo (k : Int) (i : Nat) : 0 ≤ hB k i := by unfold hB; omega
theorem hB_hi (k : Int) (i : Nat) : hB k i < 61 := by unfold hB; omega
def no64 : List Bool := List.replicate 64 false
theorem no64_len : no64.length = 64 := by simp [no64]
/-- The bits of a key so far. -/
def kB (k : Int) (n : Nat) : List Bool := rchN no64 ((List.range n).map (hB k))
theorem kB_zero (k : Int) : kB k 0 = no64 := rfl
theorem kB_succ (k : Int) (n : Nat) : kB k (n + 1) = (kB k n).set (hB k n).toNat true := by
  unfold kB rchN
  rw [List.range_succ, List.map_append, List.foldl_append]
  rfl
theorem kB_len (k : Int) (n : Nat) : (kB k n).length = 64 := by unfold kB; rw [rchN_len, no64_len]
/-- The numbers of a key's bits, rising. -/
def bK (k : Int) : List Int := selF 0 (kB k 3)
/-- What the model puts so far. -/
def bS (k : Int) : Nat → List Int
  | 0 => []
  | n + 1 => putS (hB k n) (bS k n)
theorem bS_eq (k : Int) : ∀ n, bS k n = selF 0 (kB k n)
  | 0 => by rw [kB_zero]; exact (selF_none 64 0).symm
  | n + 1 => by
    rw [kB_succ, ← putS_sel (kB k n) 0 (hB k n).toNat (by rw [kB_len]; have := hB_hi k n; have := hB_lo k n; omega), ← bS_eq k n]
    have := hB_lo k n
    show putS (hB k n) (bS k n) = putS _ _
    rw [show (((0 + (hB k n).toNat : Nat)) : Int) = hB k n by omega]
theorem selF_lt : ∀ (bs : List Bool) (o : Nat), ∀ y ∈ selF o bs, y < ((o + bs.length : Nat) : Int)
  | [], o, y, h => by simp [selF] at h
  | b :: bs, o, y, h => by
    have hm : y ∈ selF (o + 1) bs ∨ y = (o : Int) := by
      cases b with
      | false => exact .inl (by simpa [selF] using h)
      | true =>
        simp only [selF] at h
        rcases List.mem_cons.1 (by simpa using h) with e | e
        · exact .inr e
        · exact .inl e
    rcases hm with hm | rfl
    · have := selF_lt bs (o + 1) y hm
      simp only [List.length_cons]
      omega
    · simp only [List.length_cons]
      omega
theorem bK_len (k : Int) : (bK k).length ≤ 64 := by
  have := selF_len (kB k 3) 0
  rw [kB_len] at this
  exact this
theorem bK_in (k : Int) : ∀ y ∈ bK k, 0 ≤ y ∧ y < 64 := fun y hy => by
  have h1 := selF_ge (kB k 3) 0 y hy
  have h2 := selF_lt (kB k 3) 0 y hy
  rw [kB_len] at h2
  omega
theorem rchN_getD : ∀ (ks : List Int) (bs : List Bool) (i : Nat), (∀ y ∈ ks, 0 ≤ y) → i < bs.length → ((rchN bs ks).getD i false = true ↔ (bs.getD i false = true ∨ (i : Int) ∈ ks))
  | [], bs, i, _, _ => by simp [rchN]
  | k :: ks, bs, i, hk, hi => by
    have ih := rchN_getD ks (bs.set k.toNat true) i (fun y hy => hk y (by simp [hy])) (by simpa using hi)
    show (rchN (bs.set k.toNat true) ks).getD i false = true ↔ _
    rw [ih]
    have h0 := hk k (by simp)
    by_cases e : k.toNat = i
    · have e2 : (i : Int) = k := by omega
      subst e
      simp [List.getD_eq_getElem?_getD, hi, e2]
    · have e2 : ¬ (i : Int) = k := by omega
      simp [List.getD_eq_getElem?_getD, e, e2]
theorem bools_ext {a b : List Bool} (hl : a.length = b.length) (h : ∀ i, i < a.length → (a.getD i false = true ↔ b.getD i false = true)) : a = b := by
  refine List.ext_getElem hl fun i h1 h2 => ?_
  have := h i h1
  simp only [List.getD_eq_getElem?_getD, List.getElem?_eq_getElem h1, List.getElem?_eq_getElem h2, Option.getD_some] at this
  cases ha : a[i] <;> cases hb : b[i] <;> simp_all
/-- What either has, what both have, so far. -/
def orB (a b : List Bool) (n : Nat) : List Bool := rchN a (selF 0 (b.take n))
def anB (a b : List Bool) (n : Nat) : List Bool := (List.range a.length).map fun i => a.getD i false && (decide (n ≤ i) || b.getD i false)
theorem orB_len (a b : List Bool) (n : Nat) : (orB a b n).length = a.length := rchN_len _ _
theorem anB_len (a b : List Bool) (n : Nat) : (anB a b n).length = a.length := by simp [anB]
theorem anB_getD (a b : List Bool) (n i : Nat) (h : i < a.length) : (anB a b n).getD i false = (a.getD i false && (decide (n ≤ i) || b.getD i false)) := by
  simp [anB, List.getD_eq_getElem?_getD, h]
theorem orB_zero (a b : List Bool) : orB a b 0 = a := by simp [orB, selF, rchN]
theorem anB_zero (a b : List Bool) : anB a b 0 = a := bools_ext (anB_len _ _ _) fun i hi => by
  rw [anB_len] at hi
  rw [anB_getD a b 0 i hi]; simp
theorem orB_succ (a b : List Bool) (k : Nat) (hk : k < b.length) (ha : k < a.length) : (orB a b k).set k ((orB a b k).getD k false || b.getD k false) = orB a b (k + 1) := by
  unfold orB
  rw [selF_succ b k hk]
  cases hb : b.getD k false with
  | false =>
    simp only [Bool.or_false, Bool.false_eq_true, if_false, List.append_nil]
    have hl : k < (rchN a (selF 0 (b.take k))).length := by rw [rchN_len]; exact ha
    rw [List.getD_eq_getElem?_getD, List.getElem?_eq_getElem hl, Option.getD_some, List.set_getElem_self]
  | true =>
    simp only [Bool.or_true, if_true]
    show _ = rchN a (selF 0 (b.take k) ++ [(k : Int)])
    unfold rchN
    rw [List.foldl_append]
    simp
theorem anB_succ (a b : List Bool) (k : Nat) (ha : k < a.length) : (anB a b k).set k ((anB a b k).getD k false && b.getD k false) = anB a b (k + 1) := by
  refine bools_ext (by simp [anB_len]) fun i hi => ?_
  have hi' : i < a.length := by simpa [anB_len] using hi
  rw [anB_getD a b (k + 1) i hi', anB_getD a b k k ha]
  by_cases e : k = i
  · subst e
    rw [List.getD_eq_getElem?_getD, List.getElem?_set]
    simp only [anB_len, if_true, hi']
    simp
    intro h1 h2
    omega
  · have e3 : ((anB a b k).set k (a.getD k false && (decide (k ≤ k) || b.getD k false) && b.getD k false)).getD i false = (anB a b k).getD i false := by
      rw [List.getD_eq_getElem?_getD, List.getElem?_set, if_neg e, ← List.getD_eq_getElem?_getD]
    rw [e3, anB_getD a b k i hi']
    have e2 : (decide (k ≤ i)) = decide (k + 1 ≤ i) := by
      rw [decide_eq_decide]; omega
    rw [e2]
/-- A join: all that rise in the other one are put. -/
theorem or_end (a b : List Bool) : rchN a (selF 0 b) = orB a b b.length := by unfold orB; rw [List.take_length]
theorem selF_all (b : List Bool) (i : Nat) : (i : Int) ∈ selF 0 b ↔ b.getD i false = true := by
  have := selF_mem b 0 i
  rwa [Nat.zero_add] at this
/-- A meet: what rises in one and is set in the other is put where nothing is. -/
theorem and_end (a b : List Bool) (h : a.length = 64) (hb : b.length = 64) : rchN no64 ((selF 0 a).filter fun y => !!b.getD y.toNat false) = anB a b 64 := by
  refine bools_ext (by rw [rchN_len, no64_len, anB_len, h]) fun i hi => ?_
  have hi' : i < 64 := by rw [rchN_len, no64_len] at hi; exact hi
  rw [rchN_getD _ no64 i (fun y hy => by have := selF_ge a 0 y (List.mem_filter.1 hy).1; omega) (by rw [no64_len]; exact hi'), anB_getD a b 64 i (by omega), List.mem_filter, selF_all]
  have e1 : no64.getD i false = false := by unfold no64; rw [List.getD_eq_getElem?_getD, List.getElem?_replicate, if_pos hi']; rfl
  have e2 : decide (64 ≤ i) = false := by simp; omega
  rw [e2]
  simp only [e1, Bool.false_eq_true, false_or, Bool.not_not, Int.toNat_natCast, Bool.false_or, Bool.and_eq_true]
/-- Keys put one after the other. -/
def kysB (b : List Bool) (ks : List Int) : List Bool := ks.foldl (fun b k => rchN b (bK k)) b
theorem kysB_len : ∀ (ks : List Int) (b : List Bool), (kysB b ks).length = b.length
  | [], b => rfl
  | k :: ks, b => by
    show (kysB (rchN b (bK k)) ks).length = _
    rw [kysB_len ks, rchN_len]
theorem kysB_succ (b : List Bool) (ks : List Int) (i : Nat) (h : i < ks.length) : kysB b (ks.take (i + 1)) = rchN (kysB b (ks.take i)) (bK (ks.getD i 0)) := by
  unfold kysB
  rw [take_succ_getD ks i 0 h, List.foldl_append]
  rfl
/-- How many are set. -/
theorem selF_count (b : List Bool) : (selF 0 b).length ≤ b.length := selF_len b 0
end Go.Proofs.Ytehjfjplajimfaa

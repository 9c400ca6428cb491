/-
  Unlike elements: plain mathematics. No call is walked here.
-/
import Derived.Test.YtiojipicincgfaaDoorGood
import Derived.Test.YtiojipicincgfaaDoorMath
namespace Go.Proofs.YtiojipicincgfaaDoor
open Go.RowKit

/-- All are elements, and no two are alike. -/
def unl (l : List Int) : Bool := decide (l.Pairwise (· ≠ ·)) && l.all Gf.elOk
theorem unl_nil : unl [] = true := by simp [unl]
theorem unl_snoc (p : List Int) (a : Int) : unl (p ++ [a]) = (unl p && (Gf.elOk a && !p.contains a)) := by
  unfold unl
  rw [List.all_append]
  have e : decide ((p ++ [a]).Pairwise (· ≠ ·)) = (decide (p.Pairwise (· ≠ ·)) && !p.contains a) := by
    rw [Bool.eq_iff_iff]
    simp only [decide_eq_true_eq, Bool.and_eq_true, List.pairwise_append, Bool.not_eq_true', List.contains_eq_mem, decide_eq_false_iff_not]
    constructor
    · rintro ⟨h1, _, h3⟩
      exact ⟨h1, fun hm => h3 a hm a (by simp) rfl⟩
    · rintro ⟨h1, h2⟩
      refine ⟨h1, by simp, fun x hx y hy => ?_⟩
      simp at hy
      subst hy
      intro e
      subst e
      exact h2 hx
  rw [e]
  simp only [List.all_cons, List.all_nil, Bool.and_true]
  cases decide (p.Pairwise (· ≠ ·)) <;> cases p.contains a <;> cases p.all Gf.elOk <;> cases Gf.elOk a <;> rfl
theorem unl_app {p : List Int} (h : unl p = false) (r : List Int) : unl (p ++ r) = false := by
  cases e : unl (p ++ r) with
  | false => rfl
  | true =>
    unfold unl at e h
    simp only [Bool.and_eq_true, decide_eq_true_eq, List.pairwise_append, List.all_append] at e
    rw [decide_eq_true e.1.1, e.2.1] at h
    cases h
theorem unl_els {p : List Int} (h : unl p = true) : p.all Gf.elOk = true := by
  unfold unl at h
  simp only [Bool.and_eq_true] at h
  exact h.2
theorem take_snocM {α : Type} (l : List α) (d : α) (k : Nat) (h : k < l.length) : l.take (k + 1) = l.take k ++ [l.getD k d] := by
  rw [List.take_succ_eq_append_getElem h, List.getD_eq_getElem?_getD, List.getElem?_eq_getElem h, Option.getD_some]
theorem elOk_facts {a : Int} (h : Gf.elOk a = true) : 0 ≤ a ∧ a < 256 := by
  simp only [Gf.elOk, decide_eq_true_eq] at h
  omega
/-- Which of the 256 have been seen. -/
def seenL (p : List Int) : List Value := (List.range 256).map fun a : Nat => Value.bool (p.contains (a : Int))
theorem seenL_length (p : List Int) : (seenL p).length = 256 := by simp [seenL]
theorem seenL_nil : seenL [] = List.replicate 256 (Value.bool false) := by
  rw [List.eq_replicate_iff]
  simp [seenL]
theorem seenL_get (p : List Int) (a : Nat) (h : a < 256) : (seenL p)[a]? = some (.bool (p.contains (a : Int))) := by
  simp [seenL, h]
theorem seenL_set (p : List Int) (a : Nat) (h : a < 256) : (seenL p).set a (.bool true) = seenL (p ++ [(a : Int)]) := by
  unfold seenL
  apply List.ext_getElem?
  intro i
  rw [List.getElem?_set]
  by_cases hi : i < 256
  · by_cases e : a = i
    · subst e; simp [hi]
    · rw [if_neg e]
      simp only [List.getElem?_map, List.getElem?_range hi, Option.map_some, Option.some.injEq, Value.bool.injEq, List.contains_eq_mem, List.mem_append, List.mem_singleton]
      have : ¬ ((i : Int) = (a : Int)) := by omega
      simp [this]
  · have : ¬ (a = i) := by omega
    rw [if_neg this]
    simp [hi]
/-- Cauchy's rows. -/
def cauRow (a : Int) (ys : List Int) : List Int := ys.map fun b => ((Gf.inv (a.toNat ^^^ b.toNat) : Nat) : Int)
def cauM (xs ys : List Int) : List (List Int) := xs.map fun a => cauRow a ys
end Go.Proofs.YtiojipicincgfaaDoor

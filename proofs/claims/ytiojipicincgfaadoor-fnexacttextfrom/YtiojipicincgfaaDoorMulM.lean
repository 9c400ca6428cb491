/-
  Products of matrices: the program's function and its model's, call by call. The program's table of rests must hold its seven numbers where the program's own functions are called.
-/
import Derived.Test.YtiojipicincgfaaDoorRowOps
namespace Go.Proofs.YtiojipicincgfaaDoor
open Go.RowKit
open Gf (ci nat mul inv amTo AllLt)

theorem RdM.rowAt {w : World} {a : Option Addr} {n cap : Nat} {m : List (List Int)} (h : RdM w (.slice a n cap) m) (i : Nat) (hi : i < m.length) :
    ∃ b off u, a = some ⟨b, off, none⟩ ∧ b < w.heap.size ∧ w.cell? ⟨b, off + i, none⟩ = some u ∧ Rd w u (m.getD i []) := by
  obtain ⟨a', cap', hv, _, _, h3⟩ := h
  simp only [Value.slice.injEq] at hv
  obtain ⟨rfl, rfl, rfl⟩ := hv
  rcases h3 with h3 | ⟨b, off, rfl, hlt, hc⟩
  · subst h3; simp at hi
  · obtain ⟨u, hu, hr⟩ := hc i hi
    exact ⟨b, off, u, rfl, hlt, hu, hr⟩
theorem below_drew' {B : Nat} {w w' : World} (h : Below B w w') : Below B w w'.drew := ⟨h.os, h.tape, h.output, h.size, h.block⟩
/-- The first k rows of m; d in the places of the others. -/
def gTo (m : List (List Int)) (d : List Int) (k : Nat) : List (List Int) := m.take k ++ List.replicate (m.length - k) d
theorem gTo_length (m : List (List Int)) (d : List Int) (k : Nat) (h : k ≤ m.length) : (gTo m d k).length = m.length := by simp [gTo]; omega
theorem gTo_get (m : List (List Int)) (d : List Int) (k : Nat) (h : k < m.length) : (gTo m d k).getD k [] = d := by
  unfold gTo
  rw [List.getD_eq_getElem?_getD, List.getElem?_append_right (by simp; omega)]
  rw [List.length_take, Nat.min_eq_left (Nat.le_of_lt h), Nat.sub_self, List.getElem?_replicate, if_pos (by omega)]
  rfl
theorem gTo_step (m : List (List Int)) (d : List Int) (k : Nat) (h : k < m.length) : (gTo m d k).set k (m.getD k []) = gTo m d (k + 1) := by
  have e1 : (m.take k).length = k := by simp; omega
  unfold gTo
  rw [List.set_append_right _ _ (by omega), e1, Nat.sub_self]
  obtain ⟨j, hm⟩ : ∃ j, m.length - k = j + 1 := ⟨m.length - k - 1, by omega⟩
  have hm2 : m.length - (k + 1) = j := by omega
  rw [hm, hm2, List.replicate_succ, List.set_cons_zero, List.take_succ_eq_append_getElem h, List.append_assoc]
  simp only [List.getD_eq_getElem?_getD, List.getElem?_eq_getElem h, Option.getD_some, List.singleton_append]
theorem gTo_end (m : List (List Int)) (d : List Int) : gTo m d m.length = m := by simp [gTo]
theorem gTo_zero (m : List (List Int)) (d : List Int) : gTo m d 0 = List.replicate m.length d := by simp [gTo]
theorem set_same {α : Type} (l : List α) (k : Nat) (d : α) (h : k < l.length) : l.set k (l.getD k d) = l := by
  rw [List.getD_eq_getElem?_getD, List.getElem?_eq_getElem h, Option.getD_some]
  exact List.set_getElem_self h

def mulRow (b : List (List Nat)) (l : Nat) (r : List Nat) : Nat → List Nat
  | 0 => List.replicate l 0
  | k + 1 => amTo (mulRow b l r k) (b.getD k []) (r.getD k 0) 0 (b.getD k []).length
def mulM (a b : List (List Int)) : List (List Int) := a.map fun r => ci (mulRow (b.map nat) (b.getD 0 []).length (nat r) r.length)
theorem mulRow_length (b : List (List Nat)) (l : Nat) (r : List Nat) (k : Nat) : (mulRow b l r k).length = l := by
  induction k with
  | zero => simp [mulRow]
  | succ k ih => rw [mulRow, Gf.amTo_length, ih]
theorem mulRow_lt {b : List (List Nat)} {l : Nat} {r : List Nat} (hr : AllLt r) (k : Nat) : AllLt (mulRow b l r k) := by
  induction k with
  | zero => exact Gf.allLt_zeros l
  | succ k ih => exact Gf.amTo_lt ih (hr k) _
theorem mulM_length (a b : List (List Int)) : (mulM a b).length = a.length := by simp [mulM]
theorem mulM_get (a b : List (List Int)) (k : Nat) (h : k < a.length) : (mulM a b).getD k [] = ci (mulRow (b.map nat) (b.getD 0 []).length (nat (a.getD k [])) (a.getD k []).length) := by
  simp [mulM, List.getD_eq_getElem?_getD, h]
theorem natM_get (b : List (List Int)) (k : Nat) : (b.map nat).getD k [] = nat (b.getD k []) := by
  simp only [List.getD_eq_getElem?_getD, List.getElem?_map]
  cases b[k]? with
  | none => rfl
  | some x => rfl

end Go.Proofs.YtiojipicincgfaaDoor

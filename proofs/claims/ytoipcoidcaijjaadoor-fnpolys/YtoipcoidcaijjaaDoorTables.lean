/-
  The two tables (powers of 2, and their places), as the program and its model make them; the laws that hold the two against each other. The program's table of rests must hold its seven numbers where the program's own functions are called.
-/
import Derived.Test.YtoipcoidcaijjaaDoorField
import Derived.Test.YtoipcoidcaijjaaDoorInts
namespace Go.Proofs.YtoipcoidcaijjaaDoor
open Go.RowKit
namespace Gf

def ex : Nat → Nat
  | 0 => 1
  | n + 1 => mul (ex n) 2
theorem ex_lt (n : Nat) : ex n < 256 := by
  induction n with
  | zero => decide
  | succ n ih => exact mul_lt ih
def expL : List Int := (List.range 255).map fun i => (ex i : Int)
theorem expL_length : expL.length = 255 := by simp [expL]
theorem expL_getD (k : Nat) (h : k < 255) : expL.getD k 0 = (ex k : Int) := by simp [expL, h]
theorem tab_setCell {B : Nat} {w w' : World} (hT : Tab w) (h0 : 0 < B) (hb : Below B w w') : Tab w' := fun k hk => (hb.cell (p := ⟨0, k, none⟩) h0).trans (hT k hk)
theorem tab_pos {w : World} (hT : Tab w) : 0 < w.heap.size := by
  have h := hT 0 (by decide)
  unfold World.cell? at h
  cases hh : w.heap[0]? with
  | none => simp [hh] at h
  | some o => exact (Array.getElem?_eq_some_iff.1 hh).1
theorem Tab.below {w w' : World} (hT : Tab w) (hb : Below w.heap.size w w') : Tab w' := tab_setCell hT (tab_pos hT) hb

/-- A slice's length, for a loop's measure. -/
def lenOf : Value → Nat
  | .slice _ n _ => n
  | _ => 0
def expTo (k : Nat) : List Int := expL.take k
theorem expL_take (k : Nat) (h : k < 255) : expTo k ++ [(ex k : Int)] = expTo (k + 1) := by
  unfold expTo
  have h' : k < expL.length := by rw [expL_length]; exact h
  rw [List.take_succ_eq_append_getElem h']
  have := expL_getD k h
  rw [List.getD_eq_getElem?_getD, List.getElem?_eq_getElem h', Option.getD_some] at this
  rw [this]
theorem expL_take_length (k : Nat) (h : k ≤ 255) : (expL.take k).length = k := by rw [List.length_take, expL_length]; omega
theorem expL_take_get (k j : Nat) (h : k ≤ 255) (hj : j < k) : ((expTo k).map (Value.int .i64))[j]? = some (.int .i64 (ex j : Nat)) := by
  unfold expTo
  have h' : j < expL.length := by rw [expL_length]; omega
  rw [List.getElem?_map, List.getElem?_take, if_pos hj, List.getElem?_eq_getElem h']
  have := expL_getD j (by omega)
  rw [List.getD_eq_getElem?_getD, List.getElem?_eq_getElem h', Option.getD_some] at this
  rw [this]; rfl

/-- The places so far. -/
def logTo : Nat → List Int
  | 0 => List.replicate 256 0
  | k + 1 => (logTo k).set (ex k) k
def logL : List Int := logTo 255
theorem logTo_length (k : Nat) : (logTo k).length = 256 := by
  induction k with
  | zero => exact List.length_replicate
  | succ k ih => simp [logTo, ih]
theorem logL_length : logL.length = 256 := logTo_length 255

/-- An owned slice that is not empty, opened. -/
theorem Own.open {w : World} {base : Nat} {v : Value} {xs : List Int} (h : Own w base v xs) (hn : 0 < xs.length) :
    ∃ g cap, v = .slice (some ⟨g, 0, none⟩) xs.length cap ∧ base ≤ g ∧ g < w.heap.size ∧ ∀ i, i < xs.length → w.cell? ⟨g, i, none⟩ = some (.int .i64 (xs.getD i 0)) := by
  rcases h.2 with ⟨_, h0⟩ | ⟨g, cap, cur, rfl, hb, hg, _⟩
  · omega
  · refine ⟨g, cap, rfl, hb, (Array.getElem?_eq_some_iff.1 hg).1, fun i hi => ?_⟩
    rw [World.ownsRow.cellAt h i (by omega)]
    simp [hi]

end Gf
end Go.Proofs.YtoipcoidcaijjaaDoor

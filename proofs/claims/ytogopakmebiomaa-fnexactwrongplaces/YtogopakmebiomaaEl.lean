/-
  Elements of the field in lists: which integers are elements, which lists hold elements alone, which integers lie between two: the program's functions and its model's, call by call; memory stays as it was. No condition.
-/
import Derived.Test.YtogopakmebiomaaInts
import Derived.Deep.RegionWith
namespace Go.Proofs.Ytogopakmebiomaa
open Go.RowKit
namespace Gf

/-- An owned slice that is not empty, opened. -/
theorem Own.open {w : World} {base : Nat} {v : Value} {xs : List Int} (h : Own w base v xs) (hn : 0 < xs.length) :
    ∃ g cap, v = .slice (some ⟨g, 0, none⟩) xs.length cap ∧ base ≤ g ∧ g < w.heap.size ∧ ∀ i, i < xs.length → w.cell? ⟨g, i, none⟩ = some (.int .i64 (xs.getD i 0)) := by
  rcases h.2 with ⟨_, h0⟩ | ⟨g, cap, cur, rfl, hb, hg, _⟩
  · omega
  · refine ⟨g, cap, rfl, hb, (Array.getElem?_eq_some_iff.1 hg).1, fun i hi => ?_⟩
    rw [World.ownsRow.cellAt h i (by omega)]
    simp [hi]

def elOk (x : Int) : Bool := decide (0 ≤ x ∧ x ≤ 255)
theorem ret_bool {a b : Bool} (h : a = b) : Ending.returned (.bool a) = .returned (.bool b) := by rw [h]
theorem elOk_iff {x : Int} : elOk x = true ↔ 0 ≤ x ∧ x ≤ 255 := by simp [elOk]
theorem elOk_no {x : Int} : elOk x = false ↔ ¬ (0 ≤ x ∧ x ≤ 255) := by simp [elOk]
theorem all_of_getD {xs : List Int} : (xs.all elOk = true) ↔ ∀ i, i < xs.length → elOk (xs.getD i 0) = true := by
  rw [List.all_eq_true]
  constructor
  · intro h i hi
    rw [List.getD_eq_getElem?_getD, List.getElem?_eq_getElem hi, Option.getD_some]
    exact h _ (List.getElem_mem hi)
  · intro h x hx
    obtain ⟨i, hi, rfl⟩ := List.mem_iff_getElem.1 hx
    have := h i hi
    rwa [List.getD_eq_getElem?_getD, List.getElem?_eq_getElem hi, Option.getD_some] at this
theorem all_bad {xs : List Int} {k : Nat} (hk : k < xs.length) (h : elOk (xs.getD k 0) = false) : xs.all elOk = false := by
  cases hh : xs.all elOk with
  | false => rfl
  | true => rw [all_of_getD.1 hh k hk] at h; cases h
/-- An element's outcome, in the walk's own form. -/
theorem elOk_tests {z : Int} (h : elOk z = true) : 0 ≤ z ∧ z < 256 := by have := elOk_iff.1 h; omega

theorem quiet_same {P : Program} {f : FuncId} {args : Array Value} {w : World} {n : Nat} {v : Value}
    (h : Calls P f args (w.drewN n) fun e w' => e = .returned v ∧ w.drewN n = w') : Calls P f args (w.drewN n) fun e w'' => e = .returned v ∧ ∃ m, w'' = w.drewN m :=
  h.mono fun _ _ ⟨he, hm⟩ => ⟨he, n, hm.symm⟩
end Gf
end Go.Proofs.Ytogopakmebiomaa

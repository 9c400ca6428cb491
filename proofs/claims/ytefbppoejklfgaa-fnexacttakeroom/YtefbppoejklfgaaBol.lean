/-
  Slices of Booleans: what is read, what is owned, and what the laws' own small functions do with them (copy, compare, measure, mark, look whether the marks are held), call by call. Each contract says what it asks.
-/
import Derived.Test.YtefbppoejklfgaaTxm
import Derived.Test.YtefbppoejklfgaaMat
namespace Go.Proofs.Ytefbppoejklfgaa
open Go.RowKit
set_option linter.unusedVariables false

theorem infoBol : (Try.prog.info? 4).map (fun i => (i.zero, i.size, i.bytes)) = some (some (.bool false), 1, 1) := by kernel_rfl
theorem infoBolSize : (Try.prog.info? 4).map (·.size) = some 1 := by kernel_rfl
/-- The value v is a slice that reads as these Booleans, in this world. -/
def RdZ (w : World) (v : Value) (xs : List Bool) : Prop :=
  ∃ a cap, v = .slice a xs.length cap ∧ xs.length ≤ cap ∧ (cap ≤ maxLen ∧ (a = none → cap = 0)) ∧ (xs = [] ∨ ∃ b off, a = some ⟨b, off, none⟩ ∧ b < w.heap.size ∧ ∀ i, i < xs.length → w.cell? ⟨b, off + i, none⟩ = some (.bool (xs.getD i false)))
/-- The value v is a slice of the call's own (its block is base or later) that reads as these Booleans. -/
abbrev OwnZ (w : World) (base : Nat) (v : Value) (xs : List Bool) : Prop := w.ownsRow base 4 1 v xs.length (xs.map Value.bool)

theorem RdZ.below {w w' : World} {v : Value} {xs : List Bool} (h : RdZ w v xs) (hb : Below w.heap.size w w') : RdZ w' v xs := by
  obtain ⟨a, cap, rfl, h1, h2, h3⟩ := h
  refine ⟨a, cap, rfl, h1, h2, ?_⟩
  rcases h3 with h3 | ⟨b, off, rfl, hlt, hc⟩
  · exact .inl h3
  · exact .inr ⟨b, off, rfl, Nat.lt_of_lt_of_le hlt hb.size, fun i hi => (hb.cell (p := ⟨b, off + i, none⟩) hlt).trans (hc i hi)⟩
theorem OwnZ.rd {w : World} {base : Nat} {v : Value} {xs : List Bool} (h : OwnZ w base v xs) : RdZ w v xs := by
  rcases h.2 with ⟨rfl, hn⟩ | ⟨g, cap, cur, rfl, hb, hg, hc, hm, hs, ht⟩
  · have : xs = [] := List.eq_nil_of_length_eq_zero hn
    subst this
    exact ⟨none, 0, rfl, Nat.le_refl _, ⟨Nat.zero_le _, fun _ => rfl⟩, .inl rfl⟩
  · refine ⟨_, cap, rfl, hc, ⟨hm, fun h => by cases h⟩, .inr ⟨g, 0, rfl, (Array.getElem?_eq_some_iff.1 hg).1, fun i hi => ?_⟩⟩
    have := World.ownsRow.cellAt h i (by omega)
    rw [Nat.zero_add, this]
    simp [hi]
theorem rdZ_nil (w : World) : RdZ w (.slice none 0 0) [] := ⟨none, 0, rfl, Nat.le_refl _, ⟨Nat.zero_le _, fun _ => rfl⟩, .inl rfl⟩
theorem bols_oneCell (zs : List Bool) : ∀ u ∈ zs.map Value.bool, u.oneCell' = true := by
  intro u hu
  obtain ⟨b, _, rfl⟩ := List.mem_map.1 hu
  rfl
/-- What is copied so far. -/
def cpZ (xs : List Bool) (k : Nat) : List Bool := xs.take k ++ List.replicate (xs.length - k) false
theorem cpZ_length (xs : List Bool) (k : Nat) (h : k ≤ xs.length) : (cpZ xs k).length = xs.length := by simp [cpZ]; omega
theorem cpZ_step (xs : List Bool) (k : Nat) (h : k < xs.length) : (cpZ xs k).set k (xs.getD k false) = cpZ xs (k + 1) := by
  have e1 : (xs.take k).length = k := by simp; omega
  unfold cpZ
  rw [List.set_append_right _ _ (by omega), e1, Nat.sub_self]
  obtain ⟨m, hm⟩ : ∃ m, xs.length - k = m + 1 := ⟨xs.length - k - 1, by omega⟩
  have hm2 : xs.length - (k + 1) = m := by omega
  rw [hm, hm2, List.replicate_succ, List.set_cons_zero, List.take_succ_eq_append_getElem h, List.append_assoc]
  simp only [List.getD_eq_getElem?_getD, List.getElem?_eq_getElem h, Option.getD_some, List.singleton_append]
theorem cpZ_end (xs : List Bool) : cpZ xs xs.length = xs := by simp [cpZ]
theorem cpZ_zero (xs : List Bool) : cpZ xs 0 = List.replicate xs.length false := by simp [cpZ]

/-- The mark of a number. -/
def mz (k : Int) : Bool := (k % 3 == 0)
/-- The marks k, k + 1, .. -/
def marksZ (k : Int) (n : Nat) : List Bool := (List.range n).map fun i : Nat => mz (k + (i : Int))
theorem marksZ_length (k : Int) (n : Nat) : (marksZ k n).length = n := by simp [marksZ]
theorem marksZ_getD (k : Int) (n i : Nat) (h : i < n) : (marksZ k n).getD i false = mz (k + i) := by simp [marksZ, h]
/-- What is marked so far. -/
def mkZ (k : Int) (xs : List Bool) (i : Nat) : List Bool := marksZ k i ++ xs.drop i
theorem mkZ_length (k : Int) (xs : List Bool) (i : Nat) (h : i ≤ xs.length) : (mkZ k xs i).length = xs.length := by simp [mkZ, marksZ]; omega
theorem mkZ_step (k : Int) (xs : List Bool) (i : Nat) (h : i < xs.length) : (mkZ k xs i).set i (mz (k + i)) = mkZ k xs (i + 1) := by
  unfold mkZ
  rw [List.set_append_right _ _ (by simp [marksZ]), marksZ_length, Nat.sub_self, List.drop_eq_getElem_cons h, List.set_cons_zero]
  simp [marksZ, List.range_succ]
theorem mkZ_end (k : Int) (xs : List Bool) : mkZ k xs xs.length = marksZ k xs.length := by simp [mkZ]

end Go.Proofs.Ytefbppoejklfgaa

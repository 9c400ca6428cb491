/-
  Slices of texts marked, and whether the marks are held, call by call. Each contract says what it asks.
-/
import Derived.Test.YtefbppoejklfgaaTxt
namespace Go.Proofs.Ytefbppoejklfgaa
open Go.RowKit
set_option linter.unusedVariables false

/-- The marks k, k + 1, .. -/
def marksT (k n : Nat) : List ByteArray := (List.range n).map fun i : Nat => mt (k + i)
theorem marksT_length (k n : Nat) : (marksT k n).length = n := by simp [marksT]
theorem marksT_getD (k n i : Nat) (h : i < n) : (marksT k n).getD i ⟨#[]⟩ = mt (k + i) := by simp [marksT, h]
/-- What is marked so far. -/
def mkT (k : Nat) (xs : List ByteArray) (i : Nat) : List ByteArray := marksT k i ++ xs.drop i
theorem mkT_length (k : Nat) (xs : List ByteArray) (i : Nat) (h : i ≤ xs.length) : (mkT k xs i).length = xs.length := by simp [mkT, marksT]; omega
theorem mkT_step (k : Nat) (xs : List ByteArray) (i : Nat) (h : i < xs.length) : (mkT k xs i).set i (mt (k + i)) = mkT k xs (i + 1) := by
  unfold mkT
  rw [List.set_append_right _ _ (by simp [marksT]), marksT_length, Nat.sub_self, List.drop_eq_getElem_cons h, List.set_cons_zero]
  simp [marksT, List.range_succ]
theorem mkT_end (k : Nat) (xs : List ByteArray) : mkT k xs xs.length = marksT k xs.length := by simp [mkT]
theorem below_grow {w w' : World} (h : Below w.heap.size w w') (g : Option Nat) : w.grownBy w' g := ⟨h.os, h.tape, h.output, h.size, fun j hj _ => h.block j hj⟩
theorem marksT_small (k n : Nat) (h : k + n ≤ 1099511627776) : ∀ s ∈ marksT k n, s.size ≤ maxLen := by
  intro s hs
  simp only [marksT, List.mem_map, List.mem_range] at hs
  obtain ⟨i, hi, rfl⟩ := hs
  have := mt_size (k + i)
  unfold maxLen
  omega

end Go.Proofs.Ytefbppoejklfgaa

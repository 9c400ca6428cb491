/-
  How many places are free, and the greatest order that is free, of both sides. Each contract says what it asks.
-/
import Derived.Test.YtjffjoednmlkiaaRmt
namespace Go.Proofs.Ytjffjoednmlkiaa
open Go.RowKit
set_option linter.unusedVariables false

theorem tot_row : ∀ (m : List (List Int)) (k : Nat), (m.getD k []).length ≤ tot m
  | [], k => by simp [tot]
  | r :: m, 0 => by simp [tot]
  | r :: m, k + 1 => by
      have := tot_row m k
      simp [tot] at *
      omega
/-- The places in the free rooms of the orders below k. -/
def frS (m : List (List Int)) : Nat → Int
  | 0 => 0
  | k + 1 => frS m k + ((m.getD k []).length : Int) * pw k
theorem frS_le (m : List (List Int)) (hz : tot m ≤ 1048576) : ∀ k, k ≤ 6 → 0 ≤ frS m k ∧ frS m k ≤ 33554432 * k
  | 0, _ => by simp [frS]
  | k + 1, h => by
      have ih := frS_le m hz k (by omega)
      have h1 := tot_row m k
      have h2 : (0 : Int) ≤ pw k ∧ pw k ≤ 32 := ⟨by have := pw_pos k; omega, pw_le k (by omega)⟩
      have h3 : 0 ≤ ((m.getD k []).length : Int) * pw k := Int.mul_nonneg (by omega) h2.1
      have h4 : ((m.getD k []).length : Int) * pw k ≤ 1048576 * 32 := Int.mul_le_mul (by omega) h2.2 h2.1 (by omega)
      simp only [frS]
      constructor
      · omega
      · push_cast; omega
/-- The greatest order below k that has a free room, or minus one. -/
def mfS (m : List (List Int)) : Nat → Int
  | 0 => -1
  | k + 1 => if (m.getD k []).length = 0 then mfS m k else (k : Int)
theorem shlR (l : Int) (k : Nat) (hk : k ≤ 5) : wrap64 (l * 2 ^ k) = wrap64 (l * pw k) := by
  have : k = 0 ∨ k = 1 ∨ k = 2 ∨ k = 3 ∨ k = 4 ∨ k = 5 := by omega
  rcases this with rfl | rfl | rfl | rfl | rfl | rfl <;> rfl

end Go.Proofs.Ytjffjoednmlkiaa

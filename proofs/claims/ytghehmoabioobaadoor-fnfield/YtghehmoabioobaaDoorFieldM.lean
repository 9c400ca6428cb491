/-
  The field's two tables, held against one another: each element but 0 is a power of 2, its place is in the other table, and places add up. Plain mathematics. No condition.
-/
import Derived.Test.YtghehmoabioobaaDoorTables
namespace Go.Proofs.YtghehmoabioobaaDoor
namespace Gf

theorem ex_add (i j : Nat) : mul (ex i) (ex j) = ex (i + j) := by
  induction j with
  | zero => exact mul_one _ (ex_lt i)
  | succ j ih => rw [ex, ← mul_assoc _ _ _ (ex_lt i) (ex_lt j) (by decide), ih]; rfl
def exIt : Nat → Nat → Nat
  | 0, x => x
  | f + 1, x => exIt f (mul x 2)
theorem exIt_ex (f n : Nat) : exIt f (ex n) = ex (n + f) := by
  induction f generalizing n with
  | zero => rfl
  | succ f ih => rw [exIt, show mul (ex n) 2 = ex (n + 1) from rfl, ih]; congr 1; omega
theorem ex_255 : ex 255 = 1 := by
  have h : exIt 255 1 = 1 := by decide +kernel
  have := exIt_ex 255 0
  rw [Nat.zero_add] at this
  rw [← this]
  exact h
theorem ex_mod (n : Nat) : ex (n % 255) = ex n := by
  have step : ∀ k, ex (n % 255 + 255 * k) = ex (n % 255) := by
    intro k
    induction k with
    | zero => rfl
    | succ k ih =>
      have e : n % 255 + 255 * (k + 1) = (n % 255 + 255 * k) + 255 := by omega
      rw [e, ← ex_add, ex_255, ih]
      exact mul_one _ (ex_lt _)
  have := step (n / 255)
  rw [← this]
  congr 1
  omega
def okEx : Nat → Nat → Bool
  | 0, _ => true
  | f + 1, x => x != 1 && okEx f (mul x 2)
theorem okEx_all : okEx 254 2 = true := by decide +kernel
theorem okEx_ne (f n : Nat) (h : okEx f (ex n) = true) : ∀ d, d < f → ex (n + d) ≠ 1 := by
  induction f generalizing n with
  | zero => intro d hd; omega
  | succ f ih =>
    simp only [okEx, Bool.and_eq_true, bne_iff_ne] at h
    intro d hd
    cases d with
    | zero => exact h.1
    | succ d =>
      have := ih (n + 1) h.2 d (by omega)
      have e : n + (d + 1) = n + 1 + d := by omega
      rw [e]
      exact this
theorem ex_ne_one (d : Nat) (h0 : 1 ≤ d) (h : d < 255) : ex d ≠ 1 := by
  have := okEx_ne 254 1 okEx_all (d - 1) (by omega)
  have e : 1 + (d - 1) = d := by omega
  rwa [e] at this
theorem ex_ne_zero (n : Nat) : ex n ≠ 0 := by
  intro h
  have h1 := ex_add n (254 * n)
  rw [h, zero_mul (ex_lt _)] at h1
  have h2 : ex (n + 254 * n) = 1 := by
    rw [← ex_mod, show (n + 254 * n) % 255 = 0 from by omega]
    rfl
  rw [h2] at h1
  cases h1
theorem ex_inj {i k : Nat} (hi : i < k) (hk : k < 255) : ex i ≠ ex k := by
  intro h
  have h1 := ex_add i (k - i)
  rw [show i + (k - i) = k from by omega, ← h] at h1
  have h2 := mul_assoc (inv (ex i)) (ex i) (ex (k - i)) (inv_lt _) (ex_lt _) (ex_lt _)
  rw [h1, mul_comm _ _ (inv_lt _) (ex_lt i), mul_inv _ (ex_lt i) (ex_ne_zero i), one_mul _ (ex_lt _)] at h2
  exact ex_ne_one (k - i) (by omega) (by omega) h2
theorem logTo_at (k : Nat) (hk : k ≤ 255) : ∀ i, i < k → (logTo k).getD (ex i) 0 = (i : Int) := by
  induction k with
  | zero => intro i hi; omega
  | succ k ih =>
    intro i hi
    rw [logTo, List.getD_eq_getElem?_getD]
    by_cases e : i = k
    · subst e
      rw [List.getElem?_set_self (by rw [logTo_length]; exact ex_lt i), Option.getD_some]
    · rw [List.getElem?_set_ne (fun h => ex_inj (by omega) (by omega) h.symm), ← List.getD_eq_getElem?_getD]
      exact ih (by omega) i (by omega)
theorem logL_at (i : Nat) (hi : i < 255) : logL.getD (ex i) 0 = (i : Int) := logTo_at 255 (Nat.le_refl _) i hi
def lgOk : Nat → Nat → Nat → Bool
  | 0, _, _ => false
  | f + 1, x, a => x == a || lgOk f (mul x 2) a
theorem lgOk_tab : allB 255 (fun a => lgOk 255 1 (a + 1)) = true := by decide +kernel
theorem lgOk_ex (f n a : Nat) (h : lgOk f (ex n) a = true) : ∃ l, l < n + f ∧ ex l = a := by
  induction f generalizing n with
  | zero => simp [lgOk] at h
  | succ f ih =>
    simp only [lgOk, Bool.or_eq_true, beq_iff_eq] at h
    rcases h with h | h
    · exact ⟨n, by omega, h⟩
    · obtain ⟨l, hl, e⟩ := ih (n + 1) h
      exact ⟨l, by omega, e⟩
theorem ex_onto (a : Nat) (h0 : a ≠ 0) (h : a < 256) : ∃ l, l < 255 ∧ ex l = a := by
  have := allB_of lgOk_tab (a - 1) (by omega)
  have e : a - 1 + 1 = a := by omega
  simp only [e] at this
  have := lgOk_ex 255 0 a this
  simpa using this
end Gf
end Go.Proofs.YtghehmoabioobaaDoor

/-
  Sums of multiples of powers: where the points are unlike, and as many such sums are nought as there are points, each multiple is nought (Vandermonde); the value of a polynomial as such a sum. Plain mathematics. No condition.
-/
import Derived.Test.YtogopakmebiomaaDoorPolyE
namespace Go.Proofs.YtogopakmebiomaaDoor
namespace Gf

theorem px_one (k : Nat) : px 1 k = 1 := by
  induction k with
  | zero => rfl
  | succ k ih => rw [px, ih]; rfl
theorem px_mul {x y : Nat} (hx : x < 256) (hy : y < 256) (k : Nat) : px (mul x y) k = mul (px x k) (px y k) := by
  induction k with
  | zero => show 1 = mul 1 1; rw [one_mul 1 (by omega)]
  | succ k ih => rw [px, px, px, ih, mul4 (px_lt x k) (px_lt y k) hx hy]
/-- The sum of z i times X i to the k, for i below n. -/
def vs (z X : Nat → Nat) (k : Nat) : Nat → Nat
  | 0 => 0
  | n + 1 => vs z X k n ^^^ mul (z n) (px (X n) k)
theorem vs_lt {z X : Nat → Nat} {k : Nat} (hz : ∀ i, z i < 256) (n : Nat) : vs z X k n < 256 := by
  induction n with
  | zero => show 0 < 256; omega
  | succ n ih => exact xor_lt ih (mul_lt (hz n))
theorem vs_congr {z z' X X' : Nat → Nat} {k : Nat} (n : Nat) (h : ∀ i, i < n → z i = z' i ∧ X i = X' i) : vs z X k n = vs z' X' k n := by
  induction n with
  | zero => rfl
  | succ n ih => rw [vs, vs, ih (fun i hi => h i (by omega)), (h n (by omega)).1, (h n (by omega)).2]
theorem vs_nil (X : Nat → Nat) (k n : Nat) : vs (fun _ => 0) X k n = 0 := by
  induction n with
  | zero => rfl
  | succ i ih => rw [vs, ih, zero_mul (px_lt _ _)]; rfl
theorem vs_step {z X : Nat → Nat} {Y k : Nat} (hz : ∀ i, z i < 256) (hX : ∀ i, X i < 256) (hY : Y < 256) (n : Nat) :
    vs z X (k + 1) n ^^^ mul Y (vs z X k n) = vs (fun i => mul (z i) (X i ^^^ Y)) X k n := by
  induction n with
  | zero => rw [vs, vs, vs, mul_zero]; rfl
  | succ n ih =>
    rw [vs, vs, vs, ← ih, mul_xor_b, xor4]
    congr 1
    show mul (z n) (mul (px (X n) k) (X n)) ^^^ mul Y (mul (z n) (px (X n) k)) = mul (mul (z n) (X n ^^^ Y)) (px (X n) k)
    have hp := px_lt (X n) k
    rw [mul_left Y _ _ hY (hz n) hp, ← mul_xor_b, mul_comm _ (X n) hp (hX n), ← mul_xor_a _ _ _ (hX n) hY, ← mul_assoc _ _ _ (hz n) (xor_lt (hX n) hY) hp]
theorem vand_zero : ∀ (n : Nat) (z X : Nat → Nat), (∀ i, z i < 256) → (∀ i, X i < 256) → (∀ i j, i < n → j < n → i ≠ j → X i ≠ X j) →
    (∀ k, k < n → vs z X k n = 0) → ∀ i, i < n → z i = 0 := by
  intro n
  induction n with
  | zero => intro z X _ _ _ _ i hi; omega
  | succ n ih =>
    intro z X hz hX hu h
    have h1 : ∀ k, k < n → vs (fun i => mul (z i) (X i ^^^ X n)) X k n = 0 := by
      intro k hk
      have e := vs_step (Y := X n) (k := k) hz hX (hX n) (n + 1)
      rw [h k (by omega), h (k + 1) (by omega), mul_zero] at e
      rw [vs, show mul (mul (z n) (X n ^^^ X n)) (px (X n) k) = 0 from by rw [Nat.xor_self, mul_zero, zero_mul (px_lt _ _)]] at e
      simpa using e.symm
    have h2 := ih (fun i => mul (z i) (X i ^^^ X n)) X (fun i => mul_lt (hz i)) hX (fun i j hi hj => hu i j (by omega) (by omega)) h1
    have low : ∀ i, i < n → z i = 0 := by
      intro i hi
      rcases mul_eq_zero _ _ (hz i) (xor_lt (hX i) (hX n)) (h2 i hi) with e | e
      · exact e
      · exact absurd (xor_zero_eq e) (hu i n (by omega) (by omega) (by omega))
    intro i hi
    by_cases hin : i < n
    · exact low i hin
    · obtain rfl : i = n := by omega
      have e := h 0 (by omega)
      rw [vs] at e
      have e0 : vs z X 0 i = 0 := by
        rw [vs_congr (z' := fun _ => 0) (X' := X) i (fun j hj => ⟨low j hj, rfl⟩)]
        exact vs_nil X 0 i
      rw [e0, Nat.zero_xor] at e
      have : mul (z i) 1 = 0 := e
      rwa [mul_one _ (hz i)] at this
/-- As many points and more sums: the first as many do. -/
theorem vs_far {z X : Nat → Nat} {n : Nat} (hz : ∀ i, z i < 256) (hX : ∀ i, X i < 256) (hu : ∀ i j, i < n → j < n → i ≠ j → X i ≠ X j) (h : ∀ k, k < n → vs z X k n = 0) (k : Nat) : vs z X k n = 0 := by
  have h0 := vand_zero n z X hz hX hu h
  rw [vs_congr (z' := fun _ => 0) (X' := X) n (fun j hj => ⟨h0 j hj, rfl⟩)]
  exact vs_nil X k n
/-- A polynomial's value as a sum of multiples of powers. -/
def sp (c : Nat → Nat) (x : Nat) : Nat → Nat
  | 0 => 0
  | n + 1 => sp c x n ^^^ mul (c n) (px x n)
theorem evn_sp {x : Nat} (hx : x < 256) {l : List Nat} (hl : AllLt l) (n : Nat) (hn : n ≤ l.length) : evn x (l.take n) = sp (fun i => l.getD i 0) x n := by
  induction n with
  | zero => rfl
  | succ n ih => rw [evn_take hx hl (by omega), ih (by omega), sp]
theorem sp_congr {c c' : Nat → Nat} {x : Nat} (n : Nat) (h : ∀ i, i < n → c i = c' i) : sp c x n = sp c' x n := by
  induction n with
  | zero => rfl
  | succ n ih => rw [sp, sp, ih (fun i hi => h i (by omega)), h n (by omega)]
theorem sp_more {c : Nat → Nat} {x : Nat} (n m : Nat) (h : ∀ i, n ≤ i → c i = 0) : sp c x (n + m) = sp c x n := by
  induction m with
  | zero => rfl
  | succ m ih => rw [← Nat.add_assoc, sp, ih, h (n + m) (by omega), zero_mul (px_lt _ _), Nat.xor_zero]
theorem evn_fun {x : Nat} (hx : x < 256) {l : List Nat} (hl : AllLt l) (n : Nat) (hn : l.length ≤ n) : evn x l = sp (fun i => l.getD i 0) x n := by
  have e := evn_sp hx hl l.length (Nat.le_refl _)
  rw [List.take_of_length_le (Nat.le_refl _)] at e
  obtain ⟨m, rfl⟩ : ∃ m, n = l.length + m := ⟨n - l.length, by omega⟩
  rw [sp_more _ m (fun i hi => by simp [List.getD_eq_getElem?_getD, hi]), e]

end Gf
end Go.Proofs.YtogopakmebiomaaDoor

/-
  Cauchy's theorem and what has no inverse: plain mathematics. A column that cannot be cleared gives a column of numbers, not all 0, that the matrix takes to noughts; Cauchy's rows take none so. No call is walked here.
-/
import Derived.Test.YtogopakmebiomaaDoorLinN
namespace Go.Proofs.YtogopakmebiomaaDoor
open Go.RowKit
namespace Gf

/-- A sum of multiples of what is told by x and each y. -/
def cs (z y : Nat → Nat) (x : Nat) : Nat → Nat
  | 0 => 0
  | m + 1 => cs z y x m ^^^ mul (z m) (inv (x ^^^ y m))
def sumZ (z : Nat → Nat) : Nat → Nat
  | 0 => 0
  | m + 1 => sumZ z m ^^^ z m
theorem cs_lt {z y : Nat → Nat} {x : Nat} (hz : ∀ j, z j < 256) : ∀ m, cs z y x m < 256 := by
  intro m
  induction m with
  | zero => simp [cs]
  | succ m ih => exact xor_lt ih (mul_lt (hz m))
theorem cs_step {z y : Nat → Nat} {x Y : Nat} (hz : ∀ j, z j < 256) (hy : ∀ j, y j < 256) (hx : x < 256) (hY : Y < 256) : ∀ m, (∀ j, j < m → x ≠ y j) →
    mul (x ^^^ Y) (cs z y x m) = sumZ z m ^^^ cs (fun j => mul (z j) (y j ^^^ Y)) y x m := by
  intro m
  induction m with
  | zero => intro _; simp [cs, sumZ, mul_zero]
  | succ m ih =>
    intro h
    have hd : x ^^^ y m ≠ 0 := fun e => h m (by omega) (xor_zero_eq e)
    have b1 := xor_lt hx (hy m)
    have b2 := xor_lt (hy m) hY
    have e : x ^^^ Y = (x ^^^ y m) ^^^ (y m ^^^ Y) := by
      rw [Nat.xor_assoc, ← Nat.xor_assoc (y m), Nat.xor_self, Nat.zero_xor]
    have t : mul (x ^^^ Y) (mul (z m) (inv (x ^^^ y m))) = z m ^^^ mul (mul (z m) (y m ^^^ Y)) (inv (x ^^^ y m)) := by
      rw [e, mul_xor_a _ _ _ b1 b2, mul_left _ _ _ b1 (hz m) (inv_lt _), mul_inv _ b1 hd, mul_one _ (hz m), mul_left _ _ _ b2 (hz m) (inv_lt _), ← mul_assoc _ _ _ (hz m) b2 (inv_lt _)]
    rw [cs, sumZ, cs, mul_xor_b, ih (fun j hj => h j (by omega)), t, xor4]
theorem inv_two {a b : Nat} (ha : a < 256) (hb : b < 256) (a0 : a ≠ 0) (b0 : b ≠ 0) : inv a ^^^ inv b = mul (a ^^^ b) (mul (inv b) (inv a)) := by
  rw [mul_xor_a _ _ _ ha hb, mul_left a _ _ ha (inv_lt _) (inv_lt _), mul_inv a ha a0, mul_one _ (inv_lt _), ← mul_assoc b _ _ hb (inv_lt _) (inv_lt _), mul_inv b hb b0, one_mul _ (inv_lt _), Nat.xor_comm]
theorem cs_two {w y : Nat → Nat} {x X : Nat} (hw : ∀ j, w j < 256) (hy : ∀ j, y j < 256) (hx : x < 256) (hX : X < 256) : ∀ m, (∀ j, j < m → x ≠ y j ∧ X ≠ y j) →
    cs w y x m ^^^ cs w y X m = mul (x ^^^ X) (cs (fun j => mul (w j) (inv (X ^^^ y j))) y x m) := by
  intro m
  induction m with
  | zero => intro _; simp [cs, mul_zero]
  | succ m ih =>
    intro h
    obtain ⟨h1, h2⟩ := h m (by omega)
    have d1 : x ^^^ y m ≠ 0 := fun e => h1 (xor_zero_eq e)
    have d2 : X ^^^ y m ≠ 0 := fun e => h2 (xor_zero_eq e)
    have b1 := xor_lt hx (hy m)
    have b2 := xor_lt hX (hy m)
    have b3 := xor_lt hx hX
    have e : (x ^^^ y m) ^^^ (X ^^^ y m) = x ^^^ X := by
      rw [Nat.xor_comm X, Nat.xor_assoc, ← Nat.xor_assoc (y m), Nat.xor_self, Nat.zero_xor]
    have t : mul (w m) (inv (x ^^^ y m)) ^^^ mul (w m) (inv (X ^^^ y m)) = mul (x ^^^ X) (mul (mul (w m) (inv (X ^^^ y m))) (inv (x ^^^ y m))) := by
      rw [← mul_xor_b, inv_two b1 b2 d1 d2, e, mul_left _ _ _ (hw m) b3 (mul_lt (inv_lt _)), mul_assoc _ _ _ (hw m) (inv_lt _) (inv_lt _)]
    rw [cs, cs, cs, xor4, ih (fun j hj => h j (by omega)), t, ← mul_xor_b]
/-- Cauchy: where unlike elements are on both sides, no multiples but noughts sum to 0 for each x. -/
theorem cauchy_zero : ∀ (n : Nat) (x y z : Nat → Nat), (∀ i, x i < 256) → (∀ j, y j < 256) → (∀ j, z j < 256) → (∀ i j, i < n → j < n → i ≠ j → x i ≠ x j) → (∀ i j, i < n → j < n → i ≠ j → y i ≠ y j) → (∀ i j, i < n → j < n → x i ≠ y j) →
    (∀ i, i < n → cs z y (x i) n = 0) → ∀ j, j < n → z j = 0 := by
  intro n
  induction n with
  | zero => intro x y z _ _ _ _ _ _ _ j hj; omega
  | succ m ih =>
    intro x y z hx hy hz ix iy xy h
    have hw : ∀ j, mul (z j) (y j ^^^ y m) < 256 := fun j => mul_lt (hz j)
    have key : ∀ i, i < m + 1 → cs (fun j => mul (z j) (y j ^^^ y m)) y (x i) m = sumZ z m ^^^ z m := by
      intro i hi
      have hd : x i ^^^ y m ≠ 0 := fun e => xy i m hi (by omega) (xor_zero_eq e)
      have b := xor_lt (hx i) (hy m)
      have e1 := h i hi
      rw [cs] at e1
      have e2 : cs z y (x i) m = mul (z m) (inv (x i ^^^ y m)) := xor_zero_eq e1
      have e3 := cs_step (x := x i) (Y := y m) hz hy (hx i) (hy m) m (fun j hj => xy i j hi (by omega))
      rw [e2, mul_left _ _ _ b (hz m) (inv_lt _), mul_inv _ b hd, mul_one _ (hz m)] at e3
      rw [e3, ← Nat.xor_assoc, Nat.xor_self, Nat.zero_xor]
    have hv : ∀ i, i < m → cs (fun j => mul (mul (z j) (y j ^^^ y m)) (inv (x m ^^^ y j))) y (x i) m = 0 := by
      intro i hi
      have e1 := cs_two (x := x i) (X := x m) hw hy (hx i) (hx m) m (fun j hj => ⟨xy i j (by omega) (by omega), xy m j (by omega) (by omega)⟩)
      rw [key i (by omega), key m (by omega), Nat.xor_self] at e1
      have hd : x i ^^^ x m ≠ 0 := fun e => ix i m (by omega) (by omega) (by omega) (xor_zero_eq e)
      rcases mul_eq_zero _ _ (xor_lt (hx i) (hx m)) (cs_lt (fun j => mul_lt (hw j)) m) e1.symm with e | e
      · exact absurd e hd
      · exact e
    have hzero := ih x y (fun j => mul (mul (z j) (y j ^^^ y m)) (inv (x m ^^^ y j))) hx hy (fun j => mul_lt (hw j)) (fun i j hi hj => ix i j (by omega) (by omega)) (fun i j hi hj => iy i j (by omega) (by omega)) (fun i j hi hj => xy i j (by omega) (by omega)) hv
    have low : ∀ j, j < m → z j = 0 := by
      intro j hj
      have e := hzero j hj
      have d1 : x m ^^^ y j ≠ 0 := fun e => xy m j (by omega) (by omega) (xor_zero_eq e)
      have d2 : y j ^^^ y m ≠ 0 := fun e => iy j m (by omega) (by omega) (by omega) (xor_zero_eq e)
      rcases mul_eq_zero _ _ (hw j) (inv_lt _) e with e | e
      · rcases mul_eq_zero _ _ (hz j) (xor_lt (hy j) (hy m)) e with e | e
        · exact e
        · exact absurd e d2
      · exact absurd e (inv_ne (xor_lt (hx m) (hy j)) d1)
    intro j hj
    by_cases hjm : j < m
    · exact low j hjm
    · have hj' : j = m := by omega
      subst hj'
      have e1 := h j (by omega)
      rw [cs] at e1
      have e0 : ∀ k, k ≤ j → cs z y (x j) k = 0 := by
        intro k
        induction k with
        | zero => intro _; rfl
        | succ k ihk => intro hk; rw [cs, ihk (by omega), low k (by omega), zero_mul (inv_lt _), Nat.xor_zero]
      rw [e0 j (Nat.le_refl _), Nat.zero_xor] at e1
      have hd : x j ^^^ y j ≠ 0 := fun e => xy j j (by omega) (by omega) (xor_zero_eq e)
      rcases mul_eq_zero _ _ (hz j) (inv_lt _) e1 with e | e
      · exact e
      · exact absurd e (inv_ne (xor_lt (hx j) (hy j)) hd)
end Gf
end Go.Proofs.YtogopakmebiomaaDoor

/-
  The plain mathematics of chapter 1: bytes as a field, by Lean functions on natural numbers; nothing of the program stands here. No condition. The field's products and powers as the program and its model make them, call by call: each returns what the plain functions of the text Math say, and leaves memory as it was. The program's table of rests must hold its seven numbers where the program's own product is called. What every law's row of this seat asks beside its walk: a law that returns true and writes nothing that was there meets its row; the program's table holds its seven numbers where the row lists it; one world that fits. No condition.
-/
import Derived.Laws.Bits64
import Derived.Test.YtdoldboefceliaaDoorChecked
import Derived.WalkKit
import Derived.WalkLawsBesides
import Derived.WalkSpells
import Derived.Test.YtdoldboefceliaaDoorCards
import Derived.Test.YtdoldboefceliaaDoorTie
import Derived.ProofKit
import Derived.OpenShut
import Derived.OpenVars
import Derived.ChangeOld
import Derived.Below
import Derived.Deep.DeepHandedRow
import Derived.Lib.LaidTab
namespace Go.Proofs.YtdoldboefceliaaDoor
namespace Gf

theorem bit_mul (p q x : Nat) (hp : p < 2) (hq : q < 2) : (p ^^^ q) * x = p * x ^^^ q * x := by
  have h1 : p = 0 ∨ p = 1 := by omega
  have h2 : q = 0 ∨ q = 1 := by omega
  rcases h1 with rfl | rfl <;> rcases h2 with rfl | rfl <;> simp
theorem bit_xor (b c k : Nat) : (b ^^^ c) / 2 ^ k % 2 = (b / 2 ^ k % 2) ^^^ (c / 2 ^ k % 2) := by
  rw [Nat.xor_div_two_pow]
  exact Nat.xor_mod_two_pow (n := 1)
theorem bit_term (b c k x : Nat) : ((b ^^^ c) / 2 ^ k % 2) * x = (b / 2 ^ k % 2) * x ^^^ (c / 2 ^ k % 2) * x := by
  rw [bit_xor]; exact bit_mul _ _ _ (Nat.mod_lt _ (by omega)) (Nat.mod_lt _ (by omega))
theorem xor4 (a b c d : Nat) : (a ^^^ b) ^^^ (c ^^^ d) = (a ^^^ c) ^^^ (b ^^^ d) := by
  rw [Nat.xor_assoc, Nat.xor_assoc, ← Nat.xor_assoc b, ← Nat.xor_assoc c, Nat.xor_comm b c]

def dbl (a : Nat) : Nat := (2 * a) ^^^ (a / 128 * 285)
def ml : Nat → Nat → Nat → Nat → Nat
  | 0, _, _, o => o
  | f + 1, a, b, o => ml f (dbl a) (b / 2) (o ^^^ b % 2 * a)
def mul (a b : Nat) : Nat := ml 8 a b 0

def allB : Nat → (Nat → Bool) → Bool
  | 0, _ => true
  | n + 1, p => p n && allB n p
theorem allB_of {n : Nat} {p : Nat → Bool} (h : allB n p = true) : ∀ k, k < n → p k = true := by
  induction n with
  | zero => intro k hk; omega
  | succ n ih =>
    simp only [allB, Bool.and_eq_true] at h
    intro k hk
    by_cases e : k = n
    · subst e; exact h.1
    · exact ih h.2 k (by omega)

theorem dbl_tab : allB 256 (fun a => Nat.blt (dbl a) 256) = true := by decide +kernel
theorem dbl_lt {a : Nat} (h : a < 256) : dbl a < 256 := by
  have := allB_of dbl_tab a h
  simpa using this
theorem dbl_xor (a c : Nat) (ha : a < 256) (hc : c < 256) : dbl (a ^^^ c) = dbl a ^^^ dbl c := by
  unfold dbl
  have e1 : 2 * (a ^^^ c) = (2 * a) ^^^ (2 * c) := by
    have := @Nat.shiftLeft_xor_distrib 1 a c
    simpa [Nat.shiftLeft_eq, Nat.mul_comm] using this
  have e2 : (a ^^^ c) / 128 = (a / 128) ^^^ (c / 128) := Nat.xor_div_two_pow (n := 7)
  rw [e1, e2, bit_mul _ _ _ (by omega) (by omega), xor4]
theorem ml_zero (f a o : Nat) : ml f a 0 o = o := by
  induction f generalizing a o with
  | zero => rfl
  | succ f ih => simp [ml, ih]
theorem ml_lt (f a b o : Nat) (ha : a < 256) (ho : o < 256) : ml f a b o < 256 := by
  induction f generalizing a b o with
  | zero => exact ho
  | succ f ih =>
    refine ih _ _ _ (dbl_lt ha) ?_
    have h2 : b % 2 * a < 2 ^ 8 := by
      have : b % 2 = 0 ∨ b % 2 = 1 := by omega
      rcases this with h | h <;> rw [h] <;> omega
    exact Nat.xor_lt_two_pow (n := 8) ho h2
theorem mul_lt {a b : Nat} (ha : a < 256) : mul a b < 256 := ml_lt 8 a b 0 ha (by omega)
theorem half_xor (b c : Nat) : (b ^^^ c) / 2 = b / 2 ^^^ c / 2 := Nat.xor_div_two_pow (n := 1)
theorem ml_xor_b (f a b c o p : Nat) : ml f a (b ^^^ c) (o ^^^ p) = ml f a b o ^^^ ml f a c p := by
  induction f generalizing a b c o p with
  | zero => rfl
  | succ f ih =>
    simp only [ml]
    have e := bit_term b c 0 a
    simp only [Nat.pow_zero, Nat.div_one] at e
    rw [half_xor, e, xor4, ih]
theorem ml_xor_a (f a c b o p : Nat) (ha : a < 256) (hc : c < 256) : ml f (a ^^^ c) b (o ^^^ p) = ml f a b o ^^^ ml f c b p := by
  induction f generalizing a b c o p with
  | zero => rfl
  | succ f ih =>
    simp only [ml]
    have e : b % 2 * (a ^^^ c) = (b % 2 * a) ^^^ (b % 2 * c) := by
      have : b % 2 = 0 ∨ b % 2 = 1 := by omega
      rcases this with h | h <;> simp [h]
    rw [e, xor4, dbl_xor a c ha hc, ih _ _ _ _ _ (dbl_lt ha) (dbl_lt hc)]
theorem mul_xor_b (a b c : Nat) : mul a (b ^^^ c) = mul a b ^^^ mul a c := by
  have := ml_xor_b 8 a b c 0 0
  simpa [mul] using this
theorem mul_xor_a (a c b : Nat) (ha : a < 256) (hc : c < 256) : mul (a ^^^ c) b = mul a b ^^^ mul c b := by
  have := ml_xor_a 8 a c b 0 0 ha hc
  simpa [mul] using this
theorem mul_zero (a : Nat) : mul a 0 = 0 := ml_zero 8 a 0
theorem zero_mul_tab : allB 256 (fun b => mul 0 b == 0) = true := by decide +kernel
theorem zero_mul {b : Nat} (hb : b < 256) : mul 0 b = 0 := by simpa using allB_of zero_mul_tab b hb

/-- What holds of 0, of the eight powers of 2, and of sums, holds of every element. -/
theorem span (P : Nat → Prop) (h0 : P 0) (hx : ∀ a b, a < 256 → b < 256 → P a → P b → P (a ^^^ b)) (hb : ∀ k, k < 8 → P (2 ^ k)) : ∀ a, a < 256 → P a := by
  have go : ∀ n, n ≤ 8 → ∀ a, a < 2 ^ n → P a := by
    intro n
    induction n with
    | zero => intro _ a ha; have : a = 0 := by omega
              subst this; exact h0
    | succ n ih =>
      intro hn a ha
      by_cases hlt : a < 2 ^ n
      · exact ih (by omega) a hlt
      · have e : a = 2 ^ n ^^^ (a % 2 ^ n) := by
          have h1 : a / 2 ^ n = 1 := by
            apply Nat.div_eq_of_lt_le <;> (simp [Nat.pow_succ] at *; omega)
          have h2 := Nat.two_pow_add_eq_or_of_lt (i := n) (b := a % 2 ^ n) (Nat.mod_lt _ (Nat.two_pow_pos n)) 1
          have h3 : a = 2 ^ n * 1 + a % 2 ^ n := by
            have := Nat.div_add_mod a (2 ^ n)
            rw [h1] at this; omega
          apply Nat.eq_of_testBit_eq
          intro i
          have hlow := Nat.testBit_lt_two_pow (x := a % 2 ^ n) (i := i)
          rw [Nat.testBit_xor, Nat.testBit_two_pow]
          by_cases hi : n = i
          · subst hi
            have h4 : (a % 2 ^ n).testBit n = false := Nat.testBit_lt_two_pow (Nat.mod_lt _ (Nat.two_pow_pos n))
            rw [h4, h3, Nat.mul_one, Nat.testBit_two_pow_add_eq]
            simp
          · conv => lhs; rw [h3, h2]
            rw [Nat.mul_one, Nat.testBit_or, Nat.testBit_two_pow]
            simp [hi]
        have hp : 2 ^ n < 256 := Nat.lt_of_le_of_lt (Nat.pow_le_pow_right (by omega) (show n ≤ 7 by omega)) (by decide)
        have hm : a % 2 ^ n < 2 ^ n := Nat.mod_lt _ (Nat.two_pow_pos n)
        rw [e]
        exact hx _ _ hp (by omega) (hb n (by omega)) (ih (by omega) _ hm)
  exact fun a ha => go 8 (Nat.le_refl _) a ha

theorem comm_tab : allB 8 (fun i => allB 8 (fun j => mul (2 ^ i) (2 ^ j) == mul (2 ^ j) (2 ^ i))) = true := by decide +kernel
theorem pow2_lt {k : Nat} (h : k < 8) : 2 ^ k < 256 := Nat.lt_of_le_of_lt (Nat.pow_le_pow_right (by omega) (show k ≤ 7 by omega)) (by decide)
theorem mul_comm (a b : Nat) (ha : a < 256) (hb : b < 256) : mul a b = mul b a := by
  refine span (fun a => mul a b = mul b a) ?_ ?_ ?_ a ha
  · rw [zero_mul hb, mul_zero]
  · intro x y hx hy ex ey
    show mul (x ^^^ y) b = mul b (x ^^^ y)
    rw [mul_xor_a _ _ _ hx hy, mul_xor_b, ex, ey]
  · intro i hi
    refine span (fun b => mul (2 ^ i) b = mul b (2 ^ i)) ?_ ?_ ?_ b hb
    · show mul _ 0 = mul 0 _
      rw [zero_mul (pow2_lt hi), mul_zero]
    · intro x y hx hy ex ey
      show mul (2 ^ i) (x ^^^ y) = mul (x ^^^ y) (2 ^ i)
      rw [mul_xor_a _ _ _ hx hy, mul_xor_b, ex, ey]
    · intro j hj
      have := allB_of (allB_of comm_tab i hi) j hj
      simpa using this
theorem assoc_tab : allB 8 (fun i => allB 8 (fun j => allB 8 (fun k => mul (mul (2 ^ i) (2 ^ j)) (2 ^ k) == mul (2 ^ i) (mul (2 ^ j) (2 ^ k))))) = true := by decide +kernel
theorem mul_assoc (a b c : Nat) (ha : a < 256) (hb : b < 256) (hc : c < 256) : mul (mul a b) c = mul a (mul b c) := by
  refine span (fun a => mul (mul a b) c = mul a (mul b c)) ?_ ?_ ?_ a ha
  · show mul (mul 0 b) c = mul 0 (mul b c)
    rw [zero_mul hb, zero_mul hc, zero_mul (mul_lt hb)]
  · intro x y hx hy ex ey
    show mul (mul (x ^^^ y) b) c = mul (x ^^^ y) (mul b c)
    rw [mul_xor_a _ _ _ hx hy, mul_xor_a _ _ _ (mul_lt hx) (mul_lt hy), mul_xor_a _ _ _ hx hy, ex, ey]
  · intro i hi
    refine span (fun b => mul (mul (2 ^ i) b) c = mul (2 ^ i) (mul b c)) ?_ ?_ ?_ b hb
    · show mul (mul _ 0) c = mul _ (mul 0 c)
      rw [mul_zero, zero_mul hc, mul_zero]
    · intro x y hx hy ex ey
      show mul (mul (2 ^ i) (x ^^^ y)) c = mul (2 ^ i) (mul (x ^^^ y) c)
      rw [mul_xor_b, mul_xor_a _ _ _ (mul_lt (pow2_lt hi)) (mul_lt (pow2_lt hi)), mul_xor_a _ _ _ hx hy, mul_xor_b, ex, ey]
    · intro j hj
      refine span (fun c => mul (mul (2 ^ i) (2 ^ j)) c = mul (2 ^ i) (mul (2 ^ j) c)) ?_ ?_ ?_ c hc
      · show mul _ 0 = mul _ (mul _ 0)
        rw [mul_zero, mul_zero, mul_zero]
      · intro x y hx hy ex ey
        show mul (mul (2 ^ i) (2 ^ j)) (x ^^^ y) = mul (2 ^ i) (mul (2 ^ j) (x ^^^ y))
        rw [mul_xor_b, mul_xor_b, mul_xor_b, ex, ey]
      · intro k hk
        have := allB_of (allB_of (allB_of assoc_tab i hi) j hj) k hk
        simpa using this

/-! The program's own product: all of it wide, then the high bits taken down by the table. -/
def rest (k : Nat) : Nat := [29, 58, 116, 232, 205, 135, 19].getD k 0
def wideTo (a b : Nat) : Nat → Nat
  | 0 => 0
  | k + 1 => wideTo a b k ^^^ (b / 2 ^ k % 2) * (a * 2 ^ k)
def redTo (x : Nat) : Nat → Nat
  | 0 => x % 256
  | k + 1 => redTo x k ^^^ (x / 2 ^ (8 + k) % 2) * rest k
theorem wide_xor (a b c k : Nat) : wideTo a (b ^^^ c) k = wideTo a b k ^^^ wideTo a c k := by
  induction k with
  | zero => simp [wideTo]
  | succ k ih => simp only [wideTo]; rw [bit_term, ih, xor4]
theorem red_xor (x y k : Nat) : redTo (x ^^^ y) k = redTo x k ^^^ redTo y k := by
  induction k with
  | zero => exact Nat.xor_mod_two_pow (n := 8)
  | succ k ih => simp only [redTo]; rw [bit_term, ih, xor4]
theorem red_tab : allB 256 (fun a => allB 8 (fun j => redTo (wideTo a (2 ^ j) 8) 7 == mul a (2 ^ j))) = true := by decide +kernel
theorem wide_zero (a k : Nat) : wideTo a 0 k = 0 := by
  induction k with
  | zero => rfl
  | succ k ih => simp [wideTo, ih]
theorem red_zero (k : Nat) : redTo 0 k = 0 := by
  induction k with
  | zero => rfl
  | succ k ih => simp [redTo, ih]
theorem red_wide (a b : Nat) (ha : a < 256) (hb : b < 256) : redTo (wideTo a b 8) 7 = mul a b := by
  refine span (fun b => redTo (wideTo a b 8) 7 = mul a b) ?_ ?_ ?_ b hb
  · show redTo (wideTo a 0 8) 7 = mul a 0
    rw [wide_zero, red_zero, mul_zero]
  · intro x y _ _ ex ey
    show redTo (wideTo a (x ^^^ y) 8) 7 = mul a (x ^^^ y)
    rw [wide_xor, red_xor, mul_xor_b, ex, ey]
  · intro j hj
    have := allB_of (allB_of red_tab a ha) j hj
    simpa using this
theorem wide_lt (a b k : Nat) (ha : a < 256) (hk : k ≤ 8) : wideTo a b k < 65536 := by
  induction k with
  | zero => simp [wideTo]
  | succ k ih =>
    have h1 := ih (by omega)
    have h2 : (b / 2 ^ k % 2) * (a * 2 ^ k) < 2 ^ 16 := by
      have hp := pow2_lt (show k < 8 by omega)
      have h3 : a * 2 ^ k ≤ 255 * 255 := Nat.mul_le_mul (by omega) (by omega)
      have : b / 2 ^ k % 2 = 0 ∨ b / 2 ^ k % 2 = 1 := by omega
      rcases this with h | h <;> rw [h] <;> omega
    exact Nat.xor_lt_two_pow (n := 16) h1 h2
theorem rest_lt (k : Nat) : rest k < 256 := by
  have h : ∀ l : List Nat, (∀ x ∈ l, x < 256) → ∀ k, l.getD k 0 < 256 := by
    intro l hl k
    rw [List.getD_eq_getElem?_getD]
    cases hk : l[k]? with
    | none => simp
    | some x => exact hl x (List.mem_of_getElem? hk)
  exact h _ (by decide) k
theorem red_lt (x k : Nat) : redTo x k < 256 := by
  induction k with
  | zero => exact Nat.mod_lt _ (by omega)
  | succ k ih =>
    have h2 : (x / 2 ^ (8 + k) % 2) * rest k < 2 ^ 8 := by
      have hr := rest_lt k
      have : x / 2 ^ (8 + k) % 2 = 0 ∨ x / 2 ^ (8 + k) % 2 = 1 := by omega
      rcases this with h | h <;> rw [h] <;> omega
    exact Nat.xor_lt_two_pow (n := 8) ih h2

/-! Powers, by squaring; the order of an element. -/
def pw : Nat → Nat → Nat → Nat → Nat
  | 0, _, _, o => o
  | f + 1, a, n, o => pw f (mul a a) (n / 2) (if n % 2 = 1 then mul o a else o)
def pow (a n : Nat) : Nat := pw 17 a n 1
def inv (a : Nat) : Nat := pow a 254
theorem pw_zero (f a o : Nat) : pw f a 0 o = o := by
  induction f generalizing a o with
  | zero => rfl
  | succ f ih => simp [pw, ih]
theorem pw_lt (f a n o : Nat) (ho : o < 256) : pw f a n o < 256 := by
  induction f generalizing a n o with
  | zero => exact ho
  | succ f ih =>
    refine ih _ _ _ ?_
    split
    · exact mul_lt ho
    · exact ho
theorem pow_lt (a n : Nat) : pow a n < 256 := pw_lt 17 a n 1 (by omega)
theorem inv_lt (a : Nat) : inv a < 256 := pow_lt a 254
theorem inv_tab : allB 256 (fun a => a == 0 || mul a (inv a) == 1) = true := by decide +kernel
theorem mul_inv (a : Nat) (ha : a < 256) (h0 : a ≠ 0) : mul a (inv a) = 1 := by
  have := allB_of inv_tab a ha
  simp at this
  exact this.resolve_left h0
theorem one_tab : allB 256 (fun a => mul a 1 == a && mul 1 a == a) = true := by decide +kernel
theorem mul_one (a : Nat) (ha : a < 256) : mul a 1 = a := by
  have := allB_of one_tab a ha
  simp at this
  exact this.1
theorem one_mul (a : Nat) (ha : a < 256) : mul 1 a = a := by
  have := allB_of one_tab a ha
  simp at this
  exact this.2
theorem mul_eq_zero (a b : Nat) (ha : a < 256) (hb : b < 256) (h : mul a b = 0) : a = 0 ∨ b = 0 := by
  by_cases h0 : a = 0
  · exact .inl h0
  · right
    have e := mul_assoc (inv a) a b (inv_lt a) ha hb
    rw [h, mul_zero, mul_comm (inv a) a (inv_lt a) ha, mul_inv a ha h0, one_mul b hb] at e
    exact e

def og : Nat → Nat → Nat → Nat → Nat
  | 0, _, _, n => n
  | f + 1, x, a, n => if x = 1 then n else og f (mul x a) a (n + 1)
def okOrd : Nat → Nat → Nat → Bool
  | 0, _, _ => false
  | f + 1, x, a => x == 1 || okOrd f (mul x a) a
def ord (a : Nat) : Nat := og 255 a a 1
end Gf
end Go.Proofs.YtdoldboefceliaaDoor

namespace Go.Proofs.YtdoldboefceliaaDoor
open Go.RowKit
namespace Gf

theorem ofInt_i64 (a : Nat) : (BitVec.ofInt 64 (a : Int)).toNat = a % 18446744073709551616 := by
  rw [BitVec.ofInt_natCast, BitVec.toNat_ofNat]
theorem i64_xor (a b : Nat) (ha : a < 4294967296) (hb : b < 4294967296) : bits .xor .i64 (a : Int) (b : Int) = ((a ^^^ b : Nat) : Int) := by
  have hx : a ^^^ b < 2 ^ 32 := Nat.xor_lt_two_pow (by omega) (by omega)
  show IntKind.i64.wrap ((BitVec.ofInt 64 (a : Int) ^^^ BitVec.ofInt 64 (b : Int)).toNat : Int) = _
  rw [BitVec.toNat_xor, ofInt_i64, ofInt_i64, Nat.mod_eq_of_lt (by omega), Nat.mod_eq_of_lt (by omega)]
  simp [IntKind.wrap, IntKind.bits, IntKind.signed]
  omega
theorem i64_and1 (a : Nat) (ha : a < 4294967296) : bits .and .i64 (a : Int) 1 = ((a % 2 : Nat) : Int) := by
  show IntKind.i64.wrap ((BitVec.ofInt 64 (a : Int) &&& BitVec.ofInt 64 ((1 : Nat) : Int)).toNat : Int) = _
  rw [BitVec.toNat_and, ofInt_i64, ofInt_i64, Nat.mod_eq_of_lt (by omega), Nat.mod_eq_of_lt (by omega), Nat.and_one_is_mod]
  simp [IntKind.wrap, IntKind.bits, IntKind.signed]
  omega

theorem and_odd {y : Nat} (hy : y < 4294967296) (h : (bits .and .i64 (y : Int) 1 == 1) = true) : y % 2 = 1 := by
  rw [i64_and1 y hy] at h
  simp at h
  omega
theorem and_even {y : Nat} (hy : y < 4294967296) (h : (bits .and .i64 (y : Int) 1 == 1) = false) : y % 2 = 0 := by
  rw [i64_and1 y hy] at h
  simp at h
  omega
theorem dbl_hi {x : Nat} (hx : x < 256) (h : 255 < (x : Int) * 2) : bits .xor .i64 ((x : Int) * 2) 285 = (dbl x : Nat) := by
  have e : ((x : Int) * 2) = ((2 * x : Nat) : Int) := by omega
  rw [e, show (285 : Int) = ((285 : Nat) : Int) from rfl, i64_xor _ _ (by omega) (by omega)]
  have h1 : x / 128 = 1 := by omega
  simp [dbl, h1]
theorem dbl_lo {x : Nat} (h : (x : Int) * 2 ≤ 255) : (x : Int) * 2 = (dbl x : Nat) := by
  have h1 : x / 128 = 0 := by omega
  simp [dbl, h1]
  omega
theorem ml_step {f x y o T : Nat} (hx : x < 256) (hy : y < 2 ^ f) (hf : f ≤ 8) (ho : o < 256) (hp : 0 < y) (he : ml f x y o = T) :
    ∃ f', ml f' (dbl x) (y / 2) (o ^^^ y % 2 * x) = T ∧ y / 2 < 2 ^ f' ∧ f' ≤ 8 ∧ dbl x < 256 ∧ (o ^^^ y % 2 * x) < 256 := by
  cases f with
  | zero => simp at hy; omega
  | succ f =>
    refine ⟨f, he, by rw [Nat.pow_succ] at hy; omega, by omega, dbl_lt hx, ?_⟩
    have h2 : y % 2 * x < 2 ^ 8 := by
      have : y % 2 = 0 ∨ y % 2 = 1 := by omega
      rcases this with h | h <;> rw [h] <;> omega
    exact Nat.xor_lt_two_pow (n := 8) ho h2
theorem two_pow_8 {f y : Nat} (hf : f ≤ 8) (hy : y < 2 ^ f) : y < 4294967296 := by
  have : 2 ^ f ≤ 2 ^ 8 := Nat.pow_le_pow_right (by omega) hf
  omega
theorem int_eq {a b : Int} (h : a = b) : Value.int .i64 a = .int .i64 b := by rw [h]
theorem ret_int {a b : Int} (h : a = b) : Ending.returned (.int .i64 a) = .returned (.int .i64 b) := by rw [h]
theorem xor_o {o x : Nat} (ho : o < 256) (hx : x < 256) : bits .xor .i64 (o : Int) (x : Int) = ((o ^^^ x : Nat) : Int) := i64_xor _ _ (by omega) (by omega)

set_option maxRecDepth 100000 in
set_option maxHeartbeats 400000 in
theorem l1Mul_calls (a b : Int) (w : World) (ha0 : 0 ≤ a) (ha : a < 256) (hb0 : 0 ≤ b) (hb : b < 256) :
    Calls Tryd.prog 69 #[.int .i64 a, .int .i64 b] w fun e w' => e = .returned (.int .i64 (mul a.toNat b.toNat : Nat)) ∧ w = w' := by
  obtain ⟨A, rfl⟩ := Int.eq_ofNat_of_zero_le ha0
  obtain ⟨B, rfl⟩ := Int.eq_ofNat_of_zero_le hb0
  simp only [Int.toNat_natCast]
  go_enter Tryd.func69, Tryd.ntmps69
  go_wp2
  go_loop [0, 1, 5] (fun va vb vo => ∃ f x y o : Nat, x < 256 ∧ y < 2 ^ f ∧ f ≤ 8 ∧ o < 256 ∧ va = .int .i64 x ∧ vb = .int .i64 y ∧ vo = .int .i64 o ∧ ml f x y o = mul A B) (fun _ vb _ => (intOf vb).toNat)
  case atStart => exact ⟨8, A, B, 0, by omega, by omega, by omega, by omega, rfl, rfl, rfl, rfl⟩
  case round =>
    obtain ⟨f, x, y, o, hx, hy, hf, ho, rfl, rfl, rfl, he⟩ := hrel
    have He : Hid (ml f x y o = mul A B) := he
    clear he
    have hy32 := two_pow_8 hf hy
    by_cases hlt : 0 < y
    · have hlt' : (0 : Int) < (y : Int) := by omega
      obtain ⟨f', k1, k2, k3, k4, k5⟩ := ml_step hx hy hf ho hlt He.out
      have K : Hid (ml f' (dbl x) (y / 2) (o ^^^ y % 2 * x) = mul A B ∧ y / 2 < 2 ^ f' ∧ f' ≤ 8 ∧ dbl x < 256 ∧ (o ^^^ y % 2 * x) < 256) := ⟨k1, k2, k3, k4, k5⟩
      clear k1 k2 k3 k4 k5
      go_wp2
      · have h2 := and_odd hy32 ‹_›
        obtain ⟨k1, k2, k3, k4, k5⟩ := K.out
        rw [h2, Nat.one_mul] at k1 k5
        exact ⟨⟨f', dbl x, y / 2, o ^^^ x, k4, k2, k3, k5, int_eq (dbl_hi hx ‹_›), rfl, int_eq (xor_o ho hx), k1⟩, by simp [intOf]; omega⟩
      · have h2 := and_odd hy32 ‹_›
        obtain ⟨k1, k2, k3, k4, k5⟩ := K.out
        rw [h2, Nat.one_mul] at k1 k5
        exact ⟨⟨f', dbl x, y / 2, o ^^^ x, k4, k2, k3, k5, int_eq (dbl_lo ‹_›), rfl, int_eq (xor_o ho hx), k1⟩, by simp [intOf]; omega⟩
      · have h2 := and_even hy32 ‹_›
        obtain ⟨k1, k2, k3, k4, k5⟩ := K.out
        rw [h2, Nat.zero_mul, Nat.xor_zero] at k1 k5
        exact ⟨⟨f', dbl x, y / 2, o, k4, k2, k3, k5, int_eq (dbl_hi hx ‹_›), rfl, rfl, k1⟩, by simp [intOf]; omega⟩
      · have h2 := and_even hy32 ‹_›
        obtain ⟨k1, k2, k3, k4, k5⟩ := K.out
        rw [h2, Nat.zero_mul, Nat.xor_zero] at k1 k5
        exact ⟨⟨f', dbl x, y / 2, o, k4, k2, k3, k5, int_eq (dbl_lo ‹_›), rfl, rfl, k1⟩, by simp [intOf]; omega⟩
    · obtain rfl : y = 0 := by omega
      go_wp2
      go_ret
      exact ⟨ret_int (by have := He.out; rw [ml_zero] at this; rw [this]), rfl⟩

theorem cast_div (B k : Nat) : (B : Int) / 2 ^ k = ((B / 2 ^ k : Nat) : Int) := by
  rw [Int.natCast_ediv, Int.natCast_pow]; rfl
theorem bit_odd {B k : Nat} (hB : B < 4294967296) (h : (bits .and .i64 ((B : Int) / 2 ^ k) 1 == 1) = true) : B / 2 ^ k % 2 = 1 := by
  rw [cast_div] at h
  exact and_odd (Nat.lt_of_le_of_lt (Nat.div_le_self _ _) hB) h
theorem bit_even {B k : Nat} (hB : B < 4294967296) (h : (bits .and .i64 ((B : Int) / 2 ^ k) 1 == 1) = false) : B / 2 ^ k % 2 = 0 := by
  rw [cast_div] at h
  exact and_even (Nat.lt_of_le_of_lt (Nat.div_le_self _ _) hB) h
theorem shl_eq {A k : Nat} (hA : A < 256) (hk : k < 8) : wrap64 ((A : Int) * 2 ^ k) = ((A * 2 ^ k : Nat) : Int) ∧ A * 2 ^ k < 65536 := by
  have hp := pow2_lt hk
  have h3 : A * 2 ^ k ≤ 255 * 255 := Nat.mul_le_mul (by omega) (by omega)
  have e : (A : Int) * 2 ^ k = ((A * 2 ^ k : Nat) : Int) := by
    rw [Int.natCast_mul, Int.natCast_pow]; rfl
  refine ⟨?_, by omega⟩
  rw [e]
  unfold wrap64
  omega

/-- The program's table of rests holds its seven numbers. -/
def Tab (w : World) : Prop := ∀ k : Nat, k < 7 → w.cell? ⟨0, k, none⟩ = some (.int .i64 (rest k : Nat))

set_option maxRecDepth 100000 in
set_option maxHeartbeats 400000 in
theorem mulE_calls (a b : Int) (w : World) (hT : Tab w) (ha0 : 0 ≤ a) (ha : a < 256) (hb0 : 0 ≤ b) (hb : b < 256) :
    Calls Tryd.prog 72 #[.int .i64 a, .int .i64 b] w fun e w' => e = .returned (.int .i64 (mul a.toNat b.toNat : Nat)) ∧ w = w' := by
  obtain ⟨A, rfl⟩ := Int.eq_ofNat_of_zero_le ha0
  obtain ⟨B, rfl⟩ := Int.eq_ofNat_of_zero_le hb0
  simp only [Int.toNat_natCast]
  go_enter Tryd.func72, Tryd.ntmps72
  go_wp2
  go_loop [5, 9] (fun vx vk => ∃ k : Nat, k ≤ 8 ∧ vk = .int .i64 k ∧ vx = .int .i64 (wideTo A B k : Nat)) (fun _ vk => 8 - (intOf vk).toNat)
  case atStart => exact ⟨0, by omega, rfl, rfl⟩
  case round =>
    obtain ⟨k, hk, rfl, rfl⟩ := hrel
    have hw := wide_lt A B k (by omega) hk
    by_cases hlt : k < 8
    · have hlt' : (k : Int) < 8 := by omega
      go_wp2
      · have h2 := bit_odd (B := B) (k := k) (by omega) ‹_›
        obtain ⟨e1, e2⟩ := shl_eq (A := A) (by omega) hlt
        exact ⟨⟨k + 1, by omega, by go_num, int_eq (by rw [e1, i64_xor _ _ (by omega) (by omega)]; simp [wideTo, h2])⟩, by simp [intOf]; omega⟩
      · have h2 := bit_even (B := B) (k := k) (by omega) ‹_›
        exact ⟨⟨k + 1, by omega, by go_num, int_eq (by simp [wideTo, h2])⟩, by simp [intOf]; omega⟩
    · obtain rfl : k = 8 := by omega
      go_wp2
      go_loop [7, 25] (fun vx vk => ∃ k : Nat, k ≤ 7 ∧ vk = .int .i64 k ∧ vx = .int .i64 (redTo (wideTo A B 8) k : Nat)) (fun _ vk => 7 - (intOf vk).toNat)
      case atStart => exact ⟨0, by omega, rfl, rfl⟩
      case round =>
        obtain ⟨k, hk, rfl, rfl⟩ := hrel
        have hr := red_lt (wideTo A B 8) k
        by_cases hlt : k < 7
        · have hlt' : (k : Int) < 7 := by omega
          have hc := hT k hlt
          have hr2 := rest_lt k
          go_wp2
          · have h2 := bit_odd (B := wideTo A B 8) (k := 8 + k) (by omega) ‹_›
            exact ⟨⟨k + 1, by omega, by go_num, int_eq (by rw [i64_xor _ _ (by omega) (by omega)]; simp [redTo, h2])⟩, by simp [intOf]; omega⟩
          · have h2 := bit_even (B := wideTo A B 8) (k := 8 + k) (by omega) ‹_›
            exact ⟨⟨k + 1, by omega, by go_num, int_eq (by simp [redTo, h2])⟩, by simp [intOf]; omega⟩
        · obtain rfl : k = 7 := by omega
          go_wp2
          go_ret
          exact ⟨ret_int (by rw [red_wide A B (by omega) (by omega)]), rfl⟩
end Gf
end Go.Proofs.YtdoldboefceliaaDoor

namespace Go.Proofs.YtdoldboefceliaaDoor.Frame
open Go.ChangeShapes Go.WideShapes Go.ChangeAt Go.RowKit

theorem own : ownKnob Tryd.prog.godebug = none := by kernel_rfl
theorem laidOut : laidOutB Tryd.prog = true := by kernel_rfl
theorem gTab : Tryd.prog.globalNamed "loop.example/g00405/impl.highRests" = some 0 := by kernel_rfl
theorem gTabType : (Tryd.prog.globals[0]?).map (·.type) = some 94 := by kernel_rfl
theorem cellsTab : Tryd.prog.cellsOf 94 = 7 := by kernel_rfl
theorem cellsInt : Tryd.prog.cellsOf 3 = 1 := by kernel_rfl
/-- A word ends at the first blank. -/
theorem ws_word : ∀ (w r : List Char), (w.all fun c => c != Char.ofNat 32) = true → wordsSigns (w ++ Char.ofNat 32 :: r) = w :: wordsSigns r := by
  intro w r
  induction w with
  | nil => intro _; rfl
  | cons c w ih =>
    intro h
    simp only [List.all_cons, Bool.and_eq_true, bne_iff_ne] at h
    rw [List.cons_append, wordsSigns.eq_3 _ _ (fun e => h.1 e), ih h.2]
/-- The head line: its first three words, letter by letter, and the rest (so that what asks for its first words need not run over the whole of it). -/
theorem order0 : Tryd.prog.initOrder = String.ofList (([104, 97, 114, 110, 101, 115, 115] : List Nat).map Char.ofNat ++ Char.ofNat 32 :: (([57, 48, 56, 51, 100, 57, 99, 99, 51, 55, 54, 99, 55, 57, 55, 50, 48, 48, 98, 102, 50, 53, 98, 55, 54, 99, 56, 54, 51, 52, 53, 51, 51, 100, 101, 97, 48, 100, 101, 57, 56, 50, 56, 99, 53, 49, 54, 48, 48, 56, 102, 55, 101, 50, 97, 53, 101, 57, 51, 102, 51, 57, 101, 48] : List Nat).map Char.ofNat ++ Char.ofNat 32 :: (([99, 117, 116] : List Nat).map Char.ofNat ++ Char.ofNat 32 :: ([97, 116, 32, 108, 111, 111, 112, 46, 101, 120, 97, 109, 112, 108, 101, 47, 103, 48, 48, 52, 48, 53, 47, 108, 97, 119, 115, 46, 70, 110, 69, 120, 97, 99, 116, 84, 101, 120, 116, 70, 114, 111, 109] : List Nat).map Char.ofNat))) := by kernel_rfl
set_option maxRecDepth 100000 in
theorem order : Tryd.prog.initOrder.toList = (([104, 97, 114, 110, 101, 115, 115] : List Nat).map Char.ofNat ++ Char.ofNat 32 :: (([57, 48, 56, 51, 100, 57, 99, 99, 51, 55, 54, 99, 55, 57, 55, 50, 48, 48, 98, 102, 50, 53, 98, 55, 54, 99, 56, 54, 51, 52, 53, 51, 51, 100, 101, 97, 48, 100, 101, 57, 56, 50, 56, 99, 53, 49, 54, 48, 48, 56, 102, 55, 101, 50, 97, 53, 101, 57, 51, 102, 51, 57, 101, 48] : List Nat).map Char.ofNat ++ Char.ofNat 32 :: (([99, 117, 116] : List Nat).map Char.ofNat ++ Char.ofNat 32 :: ([97, 116, 32, 108, 111, 111, 112, 46, 101, 120, 97, 109, 112, 108, 101, 47, 103, 48, 48, 52, 48, 53, 47, 108, 97, 119, 115, 46, 70, 110, 69, 120, 97, 99, 116, 84, 101, 120, 116, 70, 114, 111, 109] : List Nat).map Char.ofNat))) := (congrArg String.toList order0).trans String.toList_ofList
theorem words : ∃ X, wordsSigns Tryd.prog.initOrder.toList = ([104, 97, 114, 110, 101, 115, 115] : List Nat).map Char.ofNat :: ([57, 48, 56, 51, 100, 57, 99, 99, 51, 55, 54, 99, 55, 57, 55, 50, 48, 48, 98, 102, 50, 53, 98, 55, 54, 99, 56, 54, 51, 52, 53, 51, 51, 100, 101, 97, 48, 100, 101, 57, 56, 50, 56, 99, 53, 49, 54, 48, 48, 56, 102, 55, 101, 50, 97, 53, 101, 57, 51, 102, 51, 57, 101, 48] : List Nat).map Char.ofNat :: ([99, 117, 116] : List Nat).map Char.ofNat :: X := by
  rw [order, ws_word _ _ (by kernel_rfl), ws_word _ _ (by kernel_rfl), ws_word _ _ (by kernel_rfl)]
  exact ⟨_, rfl⟩
theorem mayEnter_of (P : Program) (c : List Char) (rest : List (List Char)) (h : behindMainWord (wordsSigns P.initOrder.toList) = c :: rest) (h1 : stripLifts liftWords (c :: rest) = ([], c :: rest)) (h2 : c = "cut".toList)
    (h3 : P.laysLater = false) (h4 : P.bearsReflect = false) (h5 : P.doorFits [] = true) : P.mayEnter = true := by
  unfold Program.mayEnter
  rw [h]
  simp only []
  rw [h1, h3, h4, h5, h2]
  simp
theorem make_of (P : Program) (c : List Char) (rest : List (List Char)) (h : behindMainWord (wordsSigns P.initOrder.toList) = c :: rest) (h2 : (c == "gc".toList || c == "spec".toList) = false) (h3 : (c == "cut".toList) = true) : P.make = some .cut := by
  unfold Program.make
  rw [h]
  simp only []
  rw [h2, h3]
  simp
theorem lifts_of (P : Program) (c : List Char) (rest : List (List Char)) (h : behindMainWord (wordsSigns P.initOrder.toList) = c :: rest) (h1 : stripLifts liftWords (c :: rest) = ([], c :: rest)) (h2 : (some c == some "carried".toList) = false) : P.liftsFinal = false := by
  unfold Program.liftsFinal Program.headLifts
  rw [h, h1]
  simp only [List.head?_cons]
  rw [h2]
  simp
theorem mainIs_of (P : Program) (h s : List Char) (rest : List (List Char)) (e : wordsSigns P.initOrder.toList = h :: s :: rest) (h1 : isSumSigns s = true) (h2 : (h == "harness".toList) = true) : P.mainIs = some (true, s) := by
  unfold Program.mainIs
  rw [e]
  simp only []
  rw [h1, h2]
  simp
theorem behind : ∃ X, behindMainWord (wordsSigns Tryd.prog.initOrder.toList) = ([99, 117, 116] : List Nat).map Char.ofNat :: X := by
  obtain ⟨X, h⟩ := words
  exact ⟨X, (congrArg behindMainWord h).trans (by kernel_rfl)⟩
theorem mayEnter : Tryd.prog.mayEnter = true := by
  obtain ⟨X, h⟩ := behind
  exact mayEnter_of _ _ X h (by kernel_rfl) (by kernel_rfl) (by kernel_rfl) (by kernel_rfl) (by kernel_rfl)
theorem make : Tryd.prog.make = some .cut := by
  obtain ⟨X, h⟩ := behind
  exact make_of _ _ X h (by kernel_rfl) (by kernel_rfl)
theorem lifts : Tryd.prog.liftsFinal = false := by
  obtain ⟨X, h⟩ := behind
  exact lifts_of _ _ X h (by kernel_rfl) (by kernel_rfl)
theorem mainIs : Tryd.prog.mainIs = some (true, "9083d9cc376c797200bf25b76c8634533dea0de9828c516008f7e2a5e93f39e0".toList) := by
  obtain ⟨X, h⟩ := words
  rw [mainIs_of _ _ _ _ h (by kernel_rfl) (by kernel_rfl)]
  exact congrArg (fun l => some (true, l)) (by kernel_rfl)
theorem varsOk : varsRowed Tryd.prog ["loop.example/g00405/impl.highRests"] = true := by kernel_rfl

/-- What a row's list gives: the table's cells hold its seven numbers. -/
theorem table {W : World} (h : laidMetH Tryd.prog [("loop.example/g00405/impl.highRests", Rows.laid_loop_example_g00405_impl_highRests)] W) : Gf.Tab W := by
  have h1 : Lib.TabIs Tryd.prog W "loop.example/g00405/impl.highRests" .i64 [29, 58, 116, 232, 205, 135, 19] :=
    Lib.tabIs_of_head (rest := []) gTab gTabType Tryd.underlying94 Tryd.underlying3 cellsInt cellsTab h
  intro k hk
  rw [h1.cell gTab k (by simpa using hk)]
  match k, hk with
  | 0, _ => rfl
  | 1, _ => rfl
  | 2, _ => rfl
  | 3, _ => rfl
  | 4, _ => rfl
  | 5, _ => rfl
  | 6, _ => rfl

theorem trodAll_below {H : Type} {enc : TypeId × Value → H} {W W' : World} (hb : Below W.heap.size W W') :
    ∀ {ts : List TypeId} {vs : List Value} {ds : List (DataW H)} {ps : List MemPlace}, (ts.all fun t => Tryd.prog.readableRec t && decide (t < Tryd.prog.types.size)) = true →
      DataW.TrodAll enc Tryd.prog W 0 (fun _ => true) true ts vs ds ps → (∀ x ∈ ps, x.block < W.heap.size) → DataW.TrodAll enc Tryd.prog W' 0 (fun b => decide (b < W.heap.size)) true ts vs ds ps := by
  intro ts
  induction ts with
  | nil =>
    intro vs ds ps _ h _
    obtain ⟨rfl, rfl, rfl⟩ := trodAll_nil h
    exact trodAll_mk0
  | cons t ts ih =>
    intro vs ds ps hr h hlt
    obtain ⟨v, vs', d, ds', p, q, rfl, rfl, rfl, h1, h2⟩ := trodAll_cons h
    simp only [List.all_cons, Bool.and_eq_true, decide_eq_true_eq] at hr
    exact trodAll_cons_mk (Below.trod laidOut hr.1.1 hr.1.2 h1 hb (fun x hx => hlt x (by simp [hx]))) (ih hr.2 h2 (fun x hx => hlt x (by simp [hx])))

/-- A law that returns true and writes nothing that was there meets its row's end. -/
theorem law_post {H : Type} {enc : TypeId × Value → H} {f : Func} {s : ChangeSpec} {W W' : World} {args : Array Value} {ds gs : List (DataW H)} {before : List MemPlace}
    (hp : (f.params.toList.all fun t => Tryd.prog.readableRec t && decide (t < Tryd.prog.types.size)) = true) (hv : varsRowed Tryd.prog s.vars = true) (hr : f.resultTypes = #[4])
    (hs : s.fn H (ds ++ gs) = { results := [.lit (.bool true)], args := ds, vars := gs })
    (hW : DataW.Whole enc Tryd.prog f.params.toList s.vars false W args.toList ds gs before) (hb : Below W.heap.size W W') :
    s.post enc Tryd.prog f false true false false W args (.bool true) W' := by
  have hlt := hW.lt
  have hW' := hW
  obtain ⟨p, q, hA, hV, rfl, _, _⟩ := hW
  refine ⟨ds, gs, p ++ q, [], p, q, hW', ?_, ?_, ?_, hb.frame _, fun h => by cases h⟩
  · rw [hs, hr]
    exact trodAll_mk1 (shut_bool Tryd.underlying4 _)
  · rw [hs]
    exact trodAll_below hb hp hA (fun x hx => hlt x (by simp [hx]))
  · rw [hs]
    exact Below.trodVars laidOut hb hv hV

/-- A world for the witness: the table holding what the text lays. -/
def laidW (W : World) : World :=
  { W with heap := W.heap.modify 0 fun
      | .cells _ t frozen => .cells #[.int .i64 29, .int .i64 58, .int .i64 116, .int .i64 232, .int .i64 205, .int .i64 135, .int .i64 19] t frozen
      | o => o }

/-- What a walk is told of a slice of integers that came in: it is nil; or it leads to a row of so many cells. -/
def IsRow (k : IntKind) (w : World) (a : Option Addr) (len cap : Nat) (zs : List Int) : Prop :=
  (a = none ∧ len = 0 ∧ cap = 0 ∧ zs = []) ∨
  ∃ x, a = some x ∧ len ≤ cap ∧ cap ≤ maxLen ∧ zs.length = cap ∧ (∀ i, i < zs.length → w.cell? (x.add i) = some (.int k (zs.getD i 0))) ∧ ∀ n ∈ zs, (Lit.int k n).wf = true
end Go.Proofs.YtdoldboefceliaaDoor.Frame

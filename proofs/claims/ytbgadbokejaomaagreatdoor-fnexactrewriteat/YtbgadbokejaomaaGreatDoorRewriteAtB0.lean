/-
  The plain mathematics of chapter 1: bytes as a field, by Lean functions on natural numbers; nothing of the program stands here. No condition. The field's products and powers as the program and its model make them, call by call: each returns what the plain functions of the text Math say, and leaves memory as it was. The program's table of rests must hold its seven numbers where the program's own product is called.
-/
import Derived.Laws.Bits64
import Derived.Test.YtbgadbokejaomaaGreatDoorChecked
import Derived.WalkKit
import Derived.WalkLawsBesides
import Derived.WalkSpells
namespace Go.Proofs.YtbgadbokejaomaaGreatDoor
namespace Gf

theorem bit_mul (p q x : Nat) (hp : p < 2) (hq : q < 2) : (p ^^^ q) * x = p * x ^^^ q * x := by
  have h1 : p = 0 ∨ p = 1 := by omega
  have h2 : q = 0 ∨ q = 1 := by omega
  rcases h1 with rfl | rfl <;> rcases h2 with rfl | rfl <;> simp
theorem bit_xor (b c k : Nat) : (b ^^^ c) / 2 ^ k % 2 = (b / 2 ^ k % 2) ^^^ (c / 2 ^ k % 2) := by
  rw [Nat.xor_div_two_pow]
  exact Nat.xor_mod_two_pow (n := 1)
theorem bit_term (b c k x : Nat) : ((b ^^^ c) / 2 ^ k % 2) * x = (b / 2 ^ k % 2) * x ^^^ (c / 2 ^ k % 2) * x := by
  rw [bit_xor]; exact bit_mul _ _ _ (Nat.mod_lt _ (by omega)) (Nat.mod_lt _ (by omega))
theorem xor4 (a b c d : Nat) : (a ^^^ b) ^^^ (c ^^^ d) = (a ^^^ c) ^^^ (b ^^^ d) := by
  rw [Nat.xor_assoc, Nat.xor_assoc, ← Nat.xor_assoc b, ← Nat.xor_assoc c, Nat.xor_comm b c]

def dbl (a : Nat) : Nat := (2 * a) ^^^ (a / 128 * 285)
def ml : Nat → Nat → Nat → Nat → Nat
  | 0, _, _, o => o
  | f + 1, a, b, o => ml f (dbl a) (b / 2) (o ^^^ b % 2 * a)
def mul (a b : Nat) : Nat := ml 8 a b 0

def allB : Nat → (Nat → Bool) → Bool
  | 0, _ => true
  | n + 1, p => p n && allB n p
theorem allB_of {n : Nat} {p : Nat → Bool} (h : allB n p = true) : ∀ k, k < n → p k = true := by
  induction n with
  | zero => intro k hk; omega
  | succ n ih =>
    simp only [allB, Bool.and_eq_true] at h
    intro k hk
    by_cases e : k = n
    · subst e; exact h.1
    · exact ih h.2 k (by omega)

theorem dbl_tab : allB 256 (fun a => Nat.blt (dbl a) 256) = true := by decide +kernel
theorem dbl_lt {a : Nat} (h : a < 256) : dbl a < 256 := by
  have := allB_of dbl_tab a h
  simpa using this
theorem dbl_xor (a c : Nat) (ha : a < 256) (hc : c < 256) : dbl (a ^^^ c) = dbl a ^^^ dbl c := by
  unfold dbl
  have e1 : 2 * (a ^^^ c) = (2 * a) ^^^ (2 * c) := by
    have := @Nat.shiftLeft_xor_distrib 1 a c
    simpa [Nat.shiftLeft_eq, Nat.mul_comm] using this
  have e2 : (a ^^^ c) / 128 = (a / 128) ^^^ (c / 128) := Nat.xor_div_two_pow (n := 7)
  rw [e1, e2, bit_mul _ _ _ (by omega) (by omega), xor4]
theorem ml_zero (f a o : Nat) : ml f a 0 o = o := by
  induction f generalizing a o with
  | zero => rfl
  | succ f ih => simp [ml, ih]
theorem ml_lt (f a b o : Nat) (ha : a < 256) (ho : o < 256) : ml f a b o < 256 := by
  induction f generalizing a b o with
  | zero => exact ho
  | succ f ih =>
    refine ih _ _ _ (dbl_lt ha) ?_
    have h2 : b % 2 * a < 2 ^ 8 := by
      have : b % 2 = 0 ∨ b % 2 = 1 := by omega
      rcases this with h | h <;> rw [h] <;> omega
    exact Nat.xor_lt_two_pow (n := 8) ho h2
theorem mul_lt {a b : Nat} (ha : a < 256) : mul a b < 256 := ml_lt 8 a b 0 ha (by omega)
theorem half_xor (b c : Nat) : (b ^^^ c) / 2 = b / 2 ^^^ c / 2 := Nat.xor_div_two_pow (n := 1)
theorem ml_xor_b (f a b c o p : Nat) : ml f a (b ^^^ c) (o ^^^ p) = ml f a b o ^^^ ml f a c p := by
  induction f generalizing a b c o p with
  | zero => rfl
  | succ f ih =>
    simp only [ml]
    have e := bit_term b c 0 a
    simp only [Nat.pow_zero, Nat.div_one] at e
    rw [half_xor, e, xor4, ih]
theorem ml_xor_a (f a c b o p : Nat) (ha : a < 256) (hc : c < 256) : ml f (a ^^^ c) b (o ^^^ p) = ml f a b o ^^^ ml f c b p := by
  induction f generalizing a b c o p with
  | zero => rfl
  | succ f ih =>
    simp only [ml]
    have e : b % 2 * (a ^^^ c) = (b % 2 * a) ^^^ (b % 2 * c) := by
      have : b % 2 = 0 ∨ b % 2 = 1 := by omega
      rcases this with h | h <;> simp [h]
    rw [e, xor4, dbl_xor a c ha hc, ih _ _ _ _ _ (dbl_lt ha) (dbl_lt hc)]
theorem mul_xor_b (a b c : Nat) : mul a (b ^^^ c) = mul a b ^^^ mul a c := by
  have := ml_xor_b 8 a b c 0 0
  simpa [mul] using this
theorem mul_xor_a (a c b : Nat) (ha : a < 256) (hc : c < 256) : mul (a ^^^ c) b = mul a b ^^^ mul c b := by
  have := ml_xor_a 8 a c b 0 0 ha hc
  simpa [mul] using this
theorem mul_zero (a : Nat) : mul a 0 = 0 := ml_zero 8 a 0
theorem zero_mul_tab : allB 256 (fun b => mul 0 b == 0) = true := by decide +kernel
theorem zero_mul {b : Nat} (hb : b < 256) : mul 0 b = 0 := by simpa using allB_of zero_mul_tab b hb

/-- What holds of 0, of the eight powers of 2, and of sums, holds of every element. -/
theorem span (P : Nat → Prop) (h0 : P 0) (hx : ∀ a b, a < 256 → b < 256 → P a → P b → P (a ^^^ b)) (hb : ∀ k, k < 8 → P (2 ^ k)) : ∀ a, a < 256 → P a := by
  have go : ∀ n, n ≤ 8 → ∀ a, a < 2 ^ n → P a := by
    intro n
    induction n with
    | zero => intro _ a ha; have : a = 0 := by omega
              subst this; exact h0
    | succ n ih =>
      intro hn a ha
      by_cases hlt : a < 2 ^ n
      · exact ih (by omega) a hlt
      · have e : a = 2 ^ n ^^^ (a % 2 ^ n) := by
          have h1 : a / 2 ^ n = 1 := by
            apply Nat.div_eq_of_lt_le <;> (simp [Nat.pow_succ] at *; omega)
          have h2 := Nat.two_pow_add_eq_or_of_lt (i := n) (b := a % 2 ^ n) (Nat.mod_lt _ (Nat.two_pow_pos n)) 1
          have h3 : a = 2 ^ n * 1 + a % 2 ^ n := by
            have := Nat.div_add_mod a (2 ^ n)
            rw [h1] at this; omega
          apply Nat.eq_of_testBit_eq
          intro i
          have hlow := Nat.testBit_lt_two_pow (x := a % 2 ^ n) (i := i)
          rw [Nat.testBit_xor, Nat.testBit_two_pow]
          by_cases hi : n = i
          · subst hi
            have h4 : (a % 2 ^ n).testBit n = false := Nat.testBit_lt_two_pow (Nat.mod_lt _ (Nat.two_pow_pos n))
            rw [h4, h3, Nat.mul_one, Nat.testBit_two_pow_add_eq]
            simp
          · conv => lhs; rw [h3, h2]
            rw [Nat.mul_one, Nat.testBit_or, Nat.testBit_two_pow]
            simp [hi]
        have hp : 2 ^ n < 256 := Nat.lt_of_le_of_lt (Nat.pow_le_pow_right (by omega) (show n ≤ 7 by omega)) (by decide)
        have hm : a % 2 ^ n < 2 ^ n := Nat.mod_lt _ (Nat.two_pow_pos n)
        rw [e]
        exact hx _ _ hp (by omega) (hb n (by omega)) (ih (by omega) _ hm)
  exact fun a ha => go 8 (Nat.le_refl _) a ha

theorem comm_tab : allB 8 (fun i => allB 8 (fun j => mul (2 ^ i) (2 ^ j) == mul (2 ^ j) (2 ^ i))) = true := by decide +kernel
theorem pow2_lt {k : Nat} (h : k < 8) : 2 ^ k < 256 := Nat.lt_of_le_of_lt (Nat.pow_le_pow_right (by omega) (show k ≤ 7 by omega)) (by decide)
theorem mul_comm (a b : Nat) (ha : a < 256) (hb : b < 256) : mul a b = mul b a := by
  refine span (fun a => mul a b = mul b a) ?_ ?_ ?_ a ha
  · rw [zero_mul hb, mul_zero]
  · intro x y hx hy ex ey
    show mul (x ^^^ y) b = mul b (x ^^^ y)
    rw [mul_xor_a _ _ _ hx hy, mul_xor_b, ex, ey]
  · intro i hi
    refine span (fun b => mul (2 ^ i) b = mul b (2 ^ i)) ?_ ?_ ?_ b hb
    · show mul _ 0 = mul 0 _
      rw [zero_mul (pow2_lt hi), mul_zero]
    · intro x y hx hy ex ey
      show mul (2 ^ i) (x ^^^ y) = mul (x ^^^ y) (2 ^ i)
      rw [mul_xor_a _ _ _ hx hy, mul_xor_b, ex, ey]
    · intro j hj
      have := allB_of (allB_of comm_tab i hi) j hj
      simpa using this
theorem assoc_tab : allB 8 (fun i => allB 8 (fun j => allB 8 (fun k => mul (mul (2 ^ i) (2 ^ j)) (2 ^ k) == mul (2 ^ i) (mul (2 ^ j) (2 ^ k))))) = true := by decide +kernel
theorem mul_assoc (a b c : Nat) (ha : a < 256) (hb : b < 256) (hc : c < 256) : mul (mul a b) c = mul a (mul b c) := by
  refine span (fun a => mul (mul a b) c = mul a (mul b c)) ?_ ?_ ?_ a ha
  · show mul (mul 0 b) c = mul 0 (mul b c)
    rw [zero_mul hb, zero_mul hc, zero_mul (mul_lt hb)]
  · intro x y hx hy ex ey
    show mul (mul (x ^^^ y) b) c = mul (x ^^^ y) (mul b c)
    rw [mul_xor_a _ _ _ hx hy, mul_xor_a _ _ _ (mul_lt hx) (mul_lt hy), mul_xor_a _ _ _ hx hy, ex, ey]
  · intro i hi
    refine span (fun b => mul (mul (2 ^ i) b) c = mul (2 ^ i) (mul b c)) ?_ ?_ ?_ b hb
    · show mul (mul _ 0) c = mul _ (mul 0 c)
      rw [mul_zero, zero_mul hc, mul_zero]
    · intro x y hx hy ex ey
      show mul (mul (2 ^ i) (x ^^^ y)) c = mul (2 ^ i) (mul (x ^^^ y) c)
      rw [mul_xor_b, mul_xor_a _ _ _ (mul_lt (pow2_lt hi)) (mul_lt (pow2_lt hi)), mul_xor_a _ _ _ hx hy, mul_xor_b, ex, ey]
    · intro j hj
      refine span (fun c => mul (mul (2 ^ i) (2 ^ j)) c = mul (2 ^ i) (mul (2 ^ j) c)) ?_ ?_ ?_ c hc
      · show mul _ 0 = mul _ (mul _ 0)
        rw [mul_zero, mul_zero, mul_zero]
      · intro x y hx hy ex ey
        show mul (mul (2 ^ i) (2 ^ j)) (x ^^^ y) = mul (2 ^ i) (mul (2 ^ j) (x ^^^ y))
        rw [mul_xor_b, mul_xor_b, mul_xor_b, ex, ey]
      · intro k hk
        have := allB_of (allB_of (allB_of assoc_tab i hi) j hj) k hk
        simpa using this

/-! The program's own product: all of it wide, then the high bits taken down by the table. -/
def rest (k : Nat) : Nat := [29, 58, 116, 232, 205, 135, 19].getD k 0
def wideTo (a b : Nat) : Nat → Nat
  | 0 => 0
  | k + 1 => wideTo a b k ^^^ (b / 2 ^ k % 2) * (a * 2 ^ k)
def redTo (x : Nat) : Nat → Nat
  | 0 => x % 256
  | k + 1 => redTo x k ^^^ (x / 2 ^ (8 + k) % 2) * rest k
theorem wide_xor (a b c k : Nat) : wideTo a (b ^^^ c) k = wideTo a b k ^^^ wideTo a c k := by
  induction k with
  | zero => simp [wideTo]
  | succ k ih => simp only [wideTo]; rw [bit_term, ih, xor4]
theorem red_xor (x y k : Nat) : redTo (x ^^^ y) k = redTo x k ^^^ redTo y k := by
  induction k with
  | zero => exact Nat.xor_mod_two_pow (n := 8)
  | succ k ih => simp only [redTo]; rw [bit_term, ih, xor4]
theorem red_tab : allB 256 (fun a => allB 8 (fun j => redTo (wideTo a (2 ^ j) 8) 7 == mul a (2 ^ j))) = true := by decide +kernel
theorem wide_zero (a k : Nat) : wideTo a 0 k = 0 := by
  induction k with
  | zero => rfl
  | succ k ih => simp [wideTo, ih]
theorem red_zero (k : Nat) : redTo 0 k = 0 := by
  induction k with
  | zero => rfl
  | succ k ih => simp [redTo, ih]
theorem red_wide (a b : Nat) (ha : a < 256) (hb : b < 256) : redTo (wideTo a b 8) 7 = mul a b := by
  refine span (fun b => redTo (wideTo a b 8) 7 = mul a b) ?_ ?_ ?_ b hb
  · show redTo (wideTo a 0 8) 7 = mul a 0
    rw [wide_zero, red_zero, mul_zero]
  · intro x y _ _ ex ey
    show redTo (wideTo a (x ^^^ y) 8) 7 = mul a (x ^^^ y)
    rw [wide_xor, red_xor, mul_xor_b, ex, ey]
  · intro j hj
    have := allB_of (allB_of red_tab a ha) j hj
    simpa using this
theorem wide_lt (a b k : Nat) (ha : a < 256) (hk : k ≤ 8) : wideTo a b k < 65536 := by
  induction k with
  | zero => simp [wideTo]
  | succ k ih =>
    have h1 := ih (by omega)
    have h2 : (b / 2 ^ k % 2) * (a * 2 ^ k) < 2 ^ 16 := by
      have hp := pow2_lt (show k < 8 by omega)
      have h3 : a * 2 ^ k ≤ 255 * 255 := Nat.mul_le_mul (by omega) (by omega)
      have : b / 2 ^ k % 2 = 0 ∨ b / 2 ^ k % 2 = 1 := by omega
      rcases this with h | h <;> rw [h] <;> omega
    exact Nat.xor_lt_two_pow (n := 16) h1 h2
theorem rest_lt (k : Nat) : rest k < 256 := by
  have h : ∀ l : List Nat, (∀ x ∈ l, x < 256) → ∀ k, l.getD k 0 < 256 := by
    intro l hl k
    rw [List.getD_eq_getElem?_getD]
    cases hk : l[k]? with
    | none => simp
    | some x => exact hl x (List.mem_of_getElem? hk)
  exact h _ (by decide) k
theorem red_lt (x k : Nat) : redTo x k < 256 := by
  induction k with
  | zero => exact Nat.mod_lt _ (by omega)
  | succ k ih =>
    have h2 : (x / 2 ^ (8 + k) % 2) * rest k < 2 ^ 8 := by
      have hr := rest_lt k
      have : x / 2 ^ (8 + k) % 2 = 0 ∨ x / 2 ^ (8 + k) % 2 = 1 := by omega
      rcases this with h | h <;> rw [h] <;> omega
    exact Nat.xor_lt_two_pow (n := 8) ih h2

/-! Powers, by squaring; the order of an element. -/
def pw : Nat → Nat → Nat → Nat → Nat
  | 0, _, _, o => o
  | f + 1, a, n, o => pw f (mul a a) (n / 2) (if n % 2 = 1 then mul o a else o)
def pow (a n : Nat) : Nat := pw 17 a n 1
def inv (a : Nat) : Nat := pow a 254
theorem pw_zero (f a o : Nat) : pw f a 0 o = o := by
  induction f generalizing a o with
  | zero => rfl
  | succ f ih => simp [pw, ih]
theorem pw_lt (f a n o : Nat) (ho : o < 256) : pw f a n o < 256 := by
  induction f generalizing a n o with
  | zero => exact ho
  | succ f ih =>
    refine ih _ _ _ ?_
    split
    · exact mul_lt ho
    · exact ho
theorem pow_lt (a n : Nat) : pow a n < 256 := pw_lt 17 a n 1 (by omega)
theorem inv_lt (a : Nat) : inv a < 256 := pow_lt a 254
theorem inv_tab : allB 256 (fun a => a == 0 || mul a (inv a) == 1) = true := by decide +kernel
theorem mul_inv (a : Nat) (ha : a < 256) (h0 : a ≠ 0) : mul a (inv a) = 1 := by
  have := allB_of inv_tab a ha
  simp at this
  exact this.resolve_left h0
theorem one_tab : allB 256 (fun a => mul a 1 == a && mul 1 a == a) = true := by decide +kernel
theorem mul_one (a : Nat) (ha : a < 256) : mul a 1 = a := by
  have := allB_of one_tab a ha
  simp at this
  exact this.1
theorem one_mul (a : Nat) (ha : a < 256) : mul 1 a = a := by
  have := allB_of one_tab a ha
  simp at this
  exact this.2
theorem mul_eq_zero (a b : Nat) (ha : a < 256) (hb : b < 256) (h : mul a b = 0) : a = 0 ∨ b = 0 := by
  by_cases h0 : a = 0
  · exact .inl h0
  · right
    have e := mul_assoc (inv a) a b (inv_lt a) ha hb
    rw [h, mul_zero, mul_comm (inv a) a (inv_lt a) ha, mul_inv a ha h0, one_mul b hb] at e
    exact e

end Gf
end Go.Proofs.YtbgadbokejaomaaGreatDoor

namespace Go.Proofs.YtbgadbokejaomaaGreatDoor
open Go.RowKit
namespace Gf

theorem ofInt_i64 (a : Nat) : (BitVec.ofInt 64 (a : Int)).toNat = a % 18446744073709551616 := by
  rw [BitVec.ofInt_natCast, BitVec.toNat_ofNat]
theorem i64_xor (a b : Nat) (ha : a < 4294967296) (hb : b < 4294967296) : bits .xor .i64 (a : Int) (b : Int) = ((a ^^^ b : Nat) : Int) := by
  have hx : a ^^^ b < 2 ^ 32 := Nat.xor_lt_two_pow (by omega) (by omega)
  show IntKind.i64.wrap ((BitVec.ofInt 64 (a : Int) ^^^ BitVec.ofInt 64 (b : Int)).toNat : Int) = _
  rw [BitVec.toNat_xor, ofInt_i64, ofInt_i64, Nat.mod_eq_of_lt (by omega), Nat.mod_eq_of_lt (by omega)]
  simp [IntKind.wrap, IntKind.bits, IntKind.signed]
  omega
theorem i64_and1 (a : Nat) (ha : a < 4294967296) : bits .and .i64 (a : Int) 1 = ((a % 2 : Nat) : Int) := by
  show IntKind.i64.wrap ((BitVec.ofInt 64 (a : Int) &&& BitVec.ofInt 64 ((1 : Nat) : Int)).toNat : Int) = _
  rw [BitVec.toNat_and, ofInt_i64, ofInt_i64, Nat.mod_eq_of_lt (by omega), Nat.mod_eq_of_lt (by omega), Nat.and_one_is_mod]
  simp [IntKind.wrap, IntKind.bits, IntKind.signed]
  omega

theorem and_odd {y : Nat} (hy : y < 4294967296) (h : (bits .and .i64 (y : Int) 1 == 1) = true) : y % 2 = 1 := by
  rw [i64_and1 y hy] at h
  simp at h
  omega
theorem and_even {y : Nat} (hy : y < 4294967296) (h : (bits .and .i64 (y : Int) 1 == 1) = false) : y % 2 = 0 := by
  rw [i64_and1 y hy] at h
  simp at h
  omega
theorem dbl_hi {x : Nat} (hx : x < 256) (h : 255 < (x : Int) * 2) : bits .xor .i64 ((x : Int) * 2) 285 = (dbl x : Nat) := by
  have e : ((x : Int) * 2) = ((2 * x : Nat) : Int) := by omega
  rw [e, show (285 : Int) = ((285 : Nat) : Int) from rfl, i64_xor _ _ (by omega) (by omega)]
  have h1 : x / 128 = 1 := by omega
  simp [dbl, h1]
theorem dbl_lo {x : Nat} (h : (x : Int) * 2 ≤ 255) : (x : Int) * 2 = (dbl x : Nat) := by
  have h1 : x / 128 = 0 := by omega
  simp [dbl, h1]
  omega
theorem ml_step {f x y o T : Nat} (hx : x < 256) (hy : y < 2 ^ f) (hf : f ≤ 8) (ho : o < 256) (hp : 0 < y) (he : ml f x y o = T) :
    ∃ f', ml f' (dbl x) (y / 2) (o ^^^ y % 2 * x) = T ∧ y / 2 < 2 ^ f' ∧ f' ≤ 8 ∧ dbl x < 256 ∧ (o ^^^ y % 2 * x) < 256 := by
  cases f with
  | zero => simp at hy; omega
  | succ f =>
    refine ⟨f, he, by rw [Nat.pow_succ] at hy; omega, by omega, dbl_lt hx, ?_⟩
    have h2 : y % 2 * x < 2 ^ 8 := by
      have : y % 2 = 0 ∨ y % 2 = 1 := by omega
      rcases this with h | h <;> rw [h] <;> omega
    exact Nat.xor_lt_two_pow (n := 8) ho h2
theorem two_pow_8 {f y : Nat} (hf : f ≤ 8) (hy : y < 2 ^ f) : y < 4294967296 := by
  have : 2 ^ f ≤ 2 ^ 8 := Nat.pow_le_pow_right (by omega) hf
  omega
theorem int_eq {a b : Int} (h : a = b) : Value.int .i64 a = .int .i64 b := by rw [h]
theorem ret_int {a b : Int} (h : a = b) : Ending.returned (.int .i64 a) = .returned (.int .i64 b) := by rw [h]
theorem xor_o {o x : Nat} (ho : o < 256) (hx : x < 256) : bits .xor .i64 (o : Int) (x : Int) = ((o ^^^ x : Nat) : Int) := i64_xor _ _ (by omega) (by omega)

set_option maxRecDepth 100000 in
set_option maxHeartbeats 400000 in
theorem l1Mul_calls (a b : Int) (w : World) (ha0 : 0 ≤ a) (ha : a < 256) (hb0 : 0 ≤ b) (hb : b < 256) :
    Calls Tryz.prog 233 #[.int .i64 a, .int .i64 b] w fun e w' => e = .returned (.int .i64 (mul a.toNat b.toNat : Nat)) ∧ w = w' := by
  obtain ⟨A, rfl⟩ := Int.eq_ofNat_of_zero_le ha0
  obtain ⟨B, rfl⟩ := Int.eq_ofNat_of_zero_le hb0
  simp only [Int.toNat_natCast]
  go_enter Tryz.func233, Tryz.ntmps233
  go_wp2
  go_loop [0, 1, 5] (fun va vb vo => ∃ f x y o : Nat, x < 256 ∧ y < 2 ^ f ∧ f ≤ 8 ∧ o < 256 ∧ va = .int .i64 x ∧ vb = .int .i64 y ∧ vo = .int .i64 o ∧ ml f x y o = mul A B) (fun _ vb _ => (intOf vb).toNat)
  case atStart => exact ⟨8, A, B, 0, by omega, by omega, by omega, by omega, rfl, rfl, rfl, rfl⟩
  case round =>
    obtain ⟨f, x, y, o, hx, hy, hf, ho, rfl, rfl, rfl, he⟩ := hrel
    have He : Hid (ml f x y o = mul A B) := he
    clear he
    have hy32 := two_pow_8 hf hy
    by_cases hlt : 0 < y
    · have hlt' : (0 : Int) < (y : Int) := by omega
      obtain ⟨f', k1, k2, k3, k4, k5⟩ := ml_step hx hy hf ho hlt He.out
      have K : Hid (ml f' (dbl x) (y / 2) (o ^^^ y % 2 * x) = mul A B ∧ y / 2 < 2 ^ f' ∧ f' ≤ 8 ∧ dbl x < 256 ∧ (o ^^^ y % 2 * x) < 256) := ⟨k1, k2, k3, k4, k5⟩
      clear k1 k2 k3 k4 k5
      go_wp2
      · have h2 := and_odd hy32 ‹_›
        obtain ⟨k1, k2, k3, k4, k5⟩ := K.out
        rw [h2, Nat.one_mul] at k1 k5
        exact ⟨⟨f', dbl x, y / 2, o ^^^ x, k4, k2, k3, k5, int_eq (dbl_hi hx ‹_›), rfl, int_eq (xor_o ho hx), k1⟩, by simp [intOf]; omega⟩
      · have h2 := and_odd hy32 ‹_›
        obtain ⟨k1, k2, k3, k4, k5⟩ := K.out
        rw [h2, Nat.one_mul] at k1 k5
        exact ⟨⟨f', dbl x, y / 2, o ^^^ x, k4, k2, k3, k5, int_eq (dbl_lo ‹_›), rfl, int_eq (xor_o ho hx), k1⟩, by simp [intOf]; omega⟩
      · have h2 := and_even hy32 ‹_›
        obtain ⟨k1, k2, k3, k4, k5⟩ := K.out
        rw [h2, Nat.zero_mul, Nat.xor_zero] at k1 k5
        exact ⟨⟨f', dbl x, y / 2, o, k4, k2, k3, k5, int_eq (dbl_hi hx ‹_›), rfl, rfl, k1⟩, by simp [intOf]; omega⟩
      · have h2 := and_even hy32 ‹_›
        obtain ⟨k1, k2, k3, k4, k5⟩ := K.out
        rw [h2, Nat.zero_mul, Nat.xor_zero] at k1 k5
        exact ⟨⟨f', dbl x, y / 2, o, k4, k2, k3, k5, int_eq (dbl_lo ‹_›), rfl, rfl, k1⟩, by simp [intOf]; omega⟩
    · obtain rfl : y = 0 := by omega
      go_wp2
      go_ret
      exact ⟨ret_int (by have := He.out; rw [ml_zero] at this; rw [this]), rfl⟩

theorem cast_div (B k : Nat) : (B : Int) / 2 ^ k = ((B / 2 ^ k : Nat) : Int) := by
  rw [Int.natCast_ediv, Int.natCast_pow]; rfl
theorem bit_odd {B k : Nat} (hB : B < 4294967296) (h : (bits .and .i64 ((B : Int) / 2 ^ k) 1 == 1) = true) : B / 2 ^ k % 2 = 1 := by
  rw [cast_div] at h
  exact and_odd (Nat.lt_of_le_of_lt (Nat.div_le_self _ _) hB) h
theorem bit_even {B k : Nat} (hB : B < 4294967296) (h : (bits .and .i64 ((B : Int) / 2 ^ k) 1 == 1) = false) : B / 2 ^ k % 2 = 0 := by
  rw [cast_div] at h
  exact and_even (Nat.lt_of_le_of_lt (Nat.div_le_self _ _) hB) h
theorem shl_eq {A k : Nat} (hA : A < 256) (hk : k < 8) : wrap64 ((A : Int) * 2 ^ k) = ((A * 2 ^ k : Nat) : Int) ∧ A * 2 ^ k < 65536 := by
  have hp := pow2_lt hk
  have h3 : A * 2 ^ k ≤ 255 * 255 := Nat.mul_le_mul (by omega) (by omega)
  have e : (A : Int) * 2 ^ k = ((A * 2 ^ k : Nat) : Int) := by
    rw [Int.natCast_mul, Int.natCast_pow]; rfl
  refine ⟨?_, by omega⟩
  rw [e]
  unfold wrap64
  omega

/-- The program's table of rests holds its seven numbers. -/
def Tab (w : World) : Prop := ∀ k : Nat, k < 7 → w.cell? ⟨1, k, none⟩ = some (.int .i64 (rest k : Nat))

set_option maxRecDepth 100000 in
set_option maxHeartbeats 400000 in
theorem mulE_calls (a b : Int) (w : World) (hT : Tab w) (ha0 : 0 ≤ a) (ha : a < 256) (hb0 : 0 ≤ b) (hb : b < 256) :
    Calls Tryz.prog 261 #[.int .i64 a, .int .i64 b] w fun e w' => e = .returned (.int .i64 (mul a.toNat b.toNat : Nat)) ∧ w = w' := by
  obtain ⟨A, rfl⟩ := Int.eq_ofNat_of_zero_le ha0
  obtain ⟨B, rfl⟩ := Int.eq_ofNat_of_zero_le hb0
  simp only [Int.toNat_natCast]
  go_enter Tryz.func261, Tryz.ntmps261
  go_wp2
  go_loop [5, 9] (fun vx vk => ∃ k : Nat, k ≤ 8 ∧ vk = .int .i64 k ∧ vx = .int .i64 (wideTo A B k : Nat)) (fun _ vk => 8 - (intOf vk).toNat)
  case atStart => exact ⟨0, by omega, rfl, rfl⟩
  case round =>
    obtain ⟨k, hk, rfl, rfl⟩ := hrel
    have hw := wide_lt A B k (by omega) hk
    by_cases hlt : k < 8
    · have hlt' : (k : Int) < 8 := by omega
      go_wp2
      · have h2 := bit_odd (B := B) (k := k) (by omega) ‹_›
        obtain ⟨e1, e2⟩ := shl_eq (A := A) (by omega) hlt
        exact ⟨⟨k + 1, by omega, by go_num, int_eq (by rw [e1, i64_xor _ _ (by omega) (by omega)]; simp [wideTo, h2])⟩, by simp [intOf]; omega⟩
      · have h2 := bit_even (B := B) (k := k) (by omega) ‹_›
        exact ⟨⟨k + 1, by omega, by go_num, int_eq (by simp [wideTo, h2])⟩, by simp [intOf]; omega⟩
    · obtain rfl : k = 8 := by omega
      go_wp2
      go_loop [7, 25] (fun vx vk => ∃ k : Nat, k ≤ 7 ∧ vk = .int .i64 k ∧ vx = .int .i64 (redTo (wideTo A B 8) k : Nat)) (fun _ vk => 7 - (intOf vk).toNat)
      case atStart => exact ⟨0, by omega, rfl, rfl⟩
      case round =>
        obtain ⟨k, hk, rfl, rfl⟩ := hrel
        have hr := red_lt (wideTo A B 8) k
        by_cases hlt : k < 7
        · have hlt' : (k : Int) < 7 := by omega
          have hc := hT k hlt
          have hr2 := rest_lt k
          go_wp2
          · have h2 := bit_odd (B := wideTo A B 8) (k := 8 + k) (by omega) ‹_›
            exact ⟨⟨k + 1, by omega, by go_num, int_eq (by rw [i64_xor _ _ (by omega) (by omega)]; simp [redTo, h2])⟩, by simp [intOf]; omega⟩
          · have h2 := bit_even (B := wideTo A B 8) (k := 8 + k) (by omega) ‹_›
            exact ⟨⟨k + 1, by omega, by go_num, int_eq (by simp [redTo, h2])⟩, by simp [intOf]; omega⟩
        · obtain rfl : k = 7 := by omega
          go_wp2
          go_ret
          exact ⟨ret_int (by rw [red_wide A B (by omega) (by omega)]), rfl⟩
end Gf
end Go.Proofs.YtbgadbokejaomaaGreatDoor

/-
  The field's products and powers as the program and its model make them, call by call: each returns what the plain functions of the text Math say, and leaves memory as it was. The program's table of rests must hold its seven numbers where the program's own product is called.
-/
import Derived.Test.YtiojipicincgfaaDoorChecked
import Derived.Test.YtiojipicincgfaaDoorMath
import Derived.WalkKit
import Derived.WalkLawsBesides
import Derived.WalkSpells
namespace Go.Proofs.YtiojipicincgfaaDoor
open Go.RowKit
namespace Gf

theorem ofInt_i64 (a : Nat) : (BitVec.ofInt 64 (a : Int)).toNat = a % 18446744073709551616 := by
  rw [BitVec.ofInt_natCast, BitVec.toNat_ofNat]
theorem i64_xor (a b : Nat) (ha : a < 4294967296) (hb : b < 4294967296) : bits .xor .i64 (a : Int) (b : Int) = ((a ^^^ b : Nat) : Int) := by
  have hx : a ^^^ b < 2 ^ 32 := Nat.xor_lt_two_pow (by omega) (by omega)
  show IntKind.i64.wrap ((BitVec.ofInt 64 (a : Int) ^^^ BitVec.ofInt 64 (b : Int)).toNat : Int) = _
  rw [BitVec.toNat_xor, ofInt_i64, ofInt_i64, Nat.mod_eq_of_lt (by omega), Nat.mod_eq_of_lt (by omega)]
  simp [IntKind.wrap, IntKind.bits, IntKind.signed]
  omega
theorem i64_and1 (a : Nat) (ha : a < 4294967296) : bits .and .i64 (a : Int) 1 = ((a % 2 : Nat) : Int) := by
  show IntKind.i64.wrap ((BitVec.ofInt 64 (a : Int) &&& BitVec.ofInt 64 ((1 : Nat) : Int)).toNat : Int) = _
  rw [BitVec.toNat_and, ofInt_i64, ofInt_i64, Nat.mod_eq_of_lt (by omega), Nat.mod_eq_of_lt (by omega), Nat.and_one_is_mod]
  simp [IntKind.wrap, IntKind.bits, IntKind.signed]
  omega

theorem and_odd {y : Nat} (hy : y < 4294967296) (h : (bits .and .i64 (y : Int) 1 == 1) = true) : y % 2 = 1 := by
  rw [i64_and1 y hy] at h
  simp at h
  omega
theorem and_even {y : Nat} (hy : y < 4294967296) (h : (bits .and .i64 (y : Int) 1 == 1) = false) : y % 2 = 0 := by
  rw [i64_and1 y hy] at h
  simp at h
  omega
theorem dbl_hi {x : Nat} (hx : x < 256) (h : 255 < (x : Int) * 2) : bits .xor .i64 ((x : Int) * 2) 285 = (dbl x : Nat) := by
  have e : ((x : Int) * 2) = ((2 * x : Nat) : Int) := by omega
  rw [e, show (285 : Int) = ((285 : Nat) : Int) from rfl, i64_xor _ _ (by omega) (by omega)]
  have h1 : x / 128 = 1 := by omega
  simp [dbl, h1]
theorem dbl_lo {x : Nat} (h : (x : Int) * 2 ≤ 255) : (x : Int) * 2 = (dbl x : Nat) := by
  have h1 : x / 128 = 0 := by omega
  simp [dbl, h1]
  omega
theorem ml_step {f x y o T : Nat} (hx : x < 256) (hy : y < 2 ^ f) (hf : f ≤ 8) (ho : o < 256) (hp : 0 < y) (he : ml f x y o = T) :
    ∃ f', ml f' (dbl x) (y / 2) (o ^^^ y % 2 * x) = T ∧ y / 2 < 2 ^ f' ∧ f' ≤ 8 ∧ dbl x < 256 ∧ (o ^^^ y % 2 * x) < 256 := by
  cases f with
  | zero => simp at hy; omega
  | succ f =>
    refine ⟨f, he, by rw [Nat.pow_succ] at hy; omega, by omega, dbl_lt hx, ?_⟩
    have h2 : y % 2 * x < 2 ^ 8 := by
      have : y % 2 = 0 ∨ y % 2 = 1 := by omega
      rcases this with h | h <;> rw [h] <;> omega
    exact Nat.xor_lt_two_pow (n := 8) ho h2
theorem two_pow_8 {f y : Nat} (hf : f ≤ 8) (hy : y < 2 ^ f) : y < 4294967296 := by
  have : 2 ^ f ≤ 2 ^ 8 := Nat.pow_le_pow_right (by omega) hf
  omega
theorem int_eq {a b : Int} (h : a = b) : Value.int .i64 a = .int .i64 b := by rw [h]
theorem ret_int {a b : Int} (h : a = b) : Ending.returned (.int .i64 a) = .returned (.int .i64 b) := by rw [h]
theorem xor_o {o x : Nat} (ho : o < 256) (hx : x < 256) : bits .xor .i64 (o : Int) (x : Int) = ((o ^^^ x : Nat) : Int) := i64_xor _ _ (by omega) (by omega)

set_option maxRecDepth 100000 in
set_option maxHeartbeats 400000 in
theorem l1Mul_calls (a b : Int) (w : World) (ha0 : 0 ≤ a) (ha : a < 256) (hb0 : 0 ≤ b) (hb : b < 256) :
    Calls Tryd.prog 83 #[.int .i64 a, .int .i64 b] w fun e w' => e = .returned (.int .i64 (mul a.toNat b.toNat : Nat)) ∧ w = w' := by
  obtain ⟨A, rfl⟩ := Int.eq_ofNat_of_zero_le ha0
  obtain ⟨B, rfl⟩ := Int.eq_ofNat_of_zero_le hb0
  simp only [Int.toNat_natCast]
  go_enter Tryd.func83, Tryd.ntmps83
  go_wp2
  go_loop [0, 1, 5] (fun va vb vo => ∃ f x y o : Nat, x < 256 ∧ y < 2 ^ f ∧ f ≤ 8 ∧ o < 256 ∧ va = .int .i64 x ∧ vb = .int .i64 y ∧ vo = .int .i64 o ∧ ml f x y o = mul A B) (fun _ vb _ => (intOf vb).toNat)
  case atStart => exact ⟨8, A, B, 0, by omega, by omega, by omega, by omega, rfl, rfl, rfl, rfl⟩
  case round =>
    obtain ⟨f, x, y, o, hx, hy, hf, ho, rfl, rfl, rfl, he⟩ := hrel
    have He : Hid (ml f x y o = mul A B) := he
    clear he
    have hy32 := two_pow_8 hf hy
    by_cases hlt : 0 < y
    · have hlt' : (0 : Int) < (y : Int) := by omega
      obtain ⟨f', k1, k2, k3, k4, k5⟩ := ml_step hx hy hf ho hlt He.out
      have K : Hid (ml f' (dbl x) (y / 2) (o ^^^ y % 2 * x) = mul A B ∧ y / 2 < 2 ^ f' ∧ f' ≤ 8 ∧ dbl x < 256 ∧ (o ^^^ y % 2 * x) < 256) := ⟨k1, k2, k3, k4, k5⟩
      clear k1 k2 k3 k4 k5
      go_wp2
      · have h2 := and_odd hy32 ‹_›
        obtain ⟨k1, k2, k3, k4, k5⟩ := K.out
        rw [h2, Nat.one_mul] at k1 k5
        exact ⟨⟨f', dbl x, y / 2, o ^^^ x, k4, k2, k3, k5, int_eq (dbl_hi hx ‹_›), rfl, int_eq (xor_o ho hx), k1⟩, by simp [intOf]; omega⟩
      · have h2 := and_odd hy32 ‹_›
        obtain ⟨k1, k2, k3, k4, k5⟩ := K.out
        rw [h2, Nat.one_mul] at k1 k5
        exact ⟨⟨f', dbl x, y / 2, o ^^^ x, k4, k2, k3, k5, int_eq (dbl_lo ‹_›), rfl, int_eq (xor_o ho hx), k1⟩, by simp [intOf]; omega⟩
      · have h2 := and_even hy32 ‹_›
        obtain ⟨k1, k2, k3, k4, k5⟩ := K.out
        rw [h2, Nat.zero_mul, Nat.xor_zero] at k1 k5
        exact ⟨⟨f', dbl x, y / 2, o, k4, k2, k3, k5, int_eq (dbl_hi hx ‹_›), rfl, rfl, k1⟩, by simp [intOf]; omega⟩
      · have h2 := and_even hy32 ‹_›
        obtain ⟨k1, k2, k3, k4, k5⟩ := K.out
        rw [h2, Nat.zero_mul, Nat.xor_zero] at k1 k5
        exact ⟨⟨f', dbl x, y / 2, o, k4, k2, k3, k5, int_eq (dbl_lo ‹_›), rfl, rfl, k1⟩, by simp [intOf]; omega⟩
    · obtain rfl : y = 0 := by omega
      go_wp2
      go_ret
      exact ⟨ret_int (by have := He.out; rw [ml_zero] at this; rw [this]), rfl⟩

theorem cast_div (B k : Nat) : (B : Int) / 2 ^ k = ((B / 2 ^ k : Nat) : Int) := by
  rw [Int.natCast_ediv, Int.natCast_pow]; rfl
theorem bit_odd {B k : Nat} (hB : B < 4294967296) (h : (bits .and .i64 ((B : Int) / 2 ^ k) 1 == 1) = true) : B / 2 ^ k % 2 = 1 := by
  rw [cast_div] at h
  exact and_odd (Nat.lt_of_le_of_lt (Nat.div_le_self _ _) hB) h
theorem bit_even {B k : Nat} (hB : B < 4294967296) (h : (bits .and .i64 ((B : Int) / 2 ^ k) 1 == 1) = false) : B / 2 ^ k % 2 = 0 := by
  rw [cast_div] at h
  exact and_even (Nat.lt_of_le_of_lt (Nat.div_le_self _ _) hB) h
theorem shl_eq {A k : Nat} (hA : A < 256) (hk : k < 8) : wrap64 ((A : Int) * 2 ^ k) = ((A * 2 ^ k : Nat) : Int) ∧ A * 2 ^ k < 65536 := by
  have hp := pow2_lt hk
  have h3 : A * 2 ^ k ≤ 255 * 255 := Nat.mul_le_mul (by omega) (by omega)
  have e : (A : Int) * 2 ^ k = ((A * 2 ^ k : Nat) : Int) := by
    rw [Int.natCast_mul, Int.natCast_pow]; rfl
  refine ⟨?_, by omega⟩
  rw [e]
  unfold wrap64
  omega

/-- The program's table of rests holds its seven numbers. -/
def Tab (w : World) : Prop := ∀ k : Nat, k < 7 → w.cell? ⟨1, k, none⟩ = some (.int .i64 (rest k : Nat))

set_option maxRecDepth 100000 in
set_option maxHeartbeats 400000 in
theorem mulE_calls (a b : Int) (w : World) (hT : Tab w) (ha0 : 0 ≤ a) (ha : a < 256) (hb0 : 0 ≤ b) (hb : b < 256) :
    Calls Tryd.prog 87 #[.int .i64 a, .int .i64 b] w fun e w' => e = .returned (.int .i64 (mul a.toNat b.toNat : Nat)) ∧ w = w' := by
  obtain ⟨A, rfl⟩ := Int.eq_ofNat_of_zero_le ha0
  obtain ⟨B, rfl⟩ := Int.eq_ofNat_of_zero_le hb0
  simp only [Int.toNat_natCast]
  go_enter Tryd.func87, Tryd.ntmps87
  go_wp2
  go_loop [5, 9] (fun vx vk => ∃ k : Nat, k ≤ 8 ∧ vk = .int .i64 k ∧ vx = .int .i64 (wideTo A B k : Nat)) (fun _ vk => 8 - (intOf vk).toNat)
  case atStart => exact ⟨0, by omega, rfl, rfl⟩
  case round =>
    obtain ⟨k, hk, rfl, rfl⟩ := hrel
    have hw := wide_lt A B k (by omega) hk
    by_cases hlt : k < 8
    · have hlt' : (k : Int) < 8 := by omega
      go_wp2
      · have h2 := bit_odd (B := B) (k := k) (by omega) ‹_›
        obtain ⟨e1, e2⟩ := shl_eq (A := A) (by omega) hlt
        exact ⟨⟨k + 1, by omega, by go_num, int_eq (by rw [e1, i64_xor _ _ (by omega) (by omega)]; simp [wideTo, h2])⟩, by simp [intOf]; omega⟩
      · have h2 := bit_even (B := B) (k := k) (by omega) ‹_›
        exact ⟨⟨k + 1, by omega, by go_num, int_eq (by simp [wideTo, h2])⟩, by simp [intOf]; omega⟩
    · obtain rfl : k = 8 := by omega
      go_wp2
      go_loop [7, 25] (fun vx vk => ∃ k : Nat, k ≤ 7 ∧ vk = .int .i64 k ∧ vx = .int .i64 (redTo (wideTo A B 8) k : Nat)) (fun _ vk => 7 - (intOf vk).toNat)
      case atStart => exact ⟨0, by omega, rfl, rfl⟩
      case round =>
        obtain ⟨k, hk, rfl, rfl⟩ := hrel
        have hr := red_lt (wideTo A B 8) k
        by_cases hlt : k < 7
        · have hlt' : (k : Int) < 7 := by omega
          have hc := hT k hlt
          have hr2 := rest_lt k
          go_wp2
          · have h2 := bit_odd (B := wideTo A B 8) (k := 8 + k) (by omega) ‹_›
            exact ⟨⟨k + 1, by omega, by go_num, int_eq (by rw [i64_xor _ _ (by omega) (by omega)]; simp [redTo, h2])⟩, by simp [intOf]; omega⟩
          · have h2 := bit_even (B := wideTo A B 8) (k := 8 + k) (by omega) ‹_›
            exact ⟨⟨k + 1, by omega, by go_num, int_eq (by simp [redTo, h2])⟩, by simp [intOf]; omega⟩
        · obtain rfl : k = 7 := by omega
          go_wp2
          go_ret
          exact ⟨ret_int (by rw [red_wide A B (by omega) (by omega)]), rfl⟩
end Gf
end Go.Proofs.YtiojipicincgfaaDoor

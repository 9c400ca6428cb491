/-
  Powers, inverses, quotients and orders as the program and its model make them, and the public functions of the field: each returns what the plain functions say, and leaves memory as it was. The program's table of rests must hold its seven numbers where the program's own functions are called.
-/
import Derived.Test.YtiojipicincgfaaDoorField
namespace Go.Proofs.YtiojipicincgfaaDoor
open Go.RowKit
namespace Gf

theorem pw_step {f x y o T : Nat} (hy : y < 2 ^ f) (hf : f ≤ 17) (ho : o < 256) (hx : x < 256) (hp : 0 < y) (he : pw f x y o = T) :
    ∃ f', pw f' (mul x x) (y / 2) (if y % 2 = 1 then mul o x else o) = T ∧ y / 2 < 2 ^ f' ∧ f' ≤ 17 ∧ mul x x < 256 ∧ (if y % 2 = 1 then mul o x else o) < 256 := by
  cases f with
  | zero => simp at hy; omega
  | succ f =>
    refine ⟨f, he, by rw [Nat.pow_succ] at hy; omega, by omega, mul_lt hx, ?_⟩
    split
    · exact mul_lt ho
    · exact ho
theorem two_pow_17 {f y : Nat} (hf : f ≤ 17) (hy : y < 2 ^ f) : y < 131072 := by
  have : 2 ^ f ≤ 2 ^ 17 := Nat.pow_le_pow_right (by omega) hf
  omega

set_option maxRecDepth 100000 in
set_option maxHeartbeats 400000 in
theorem powE_calls (a n : Int) (w : World) (hT : Tab w) (ha0 : 0 ≤ a) (ha : a < 256) (hn0 : 0 ≤ n) (hn : n ≤ 100000) :
    Calls Tryd.prog 92 #[.int .i64 a, .int .i64 n] w fun e w' => e = .returned (.int .i64 (pow a.toNat n.toNat : Nat)) ∧ w = w' := by
  obtain ⟨A, rfl⟩ := Int.eq_ofNat_of_zero_le ha0
  obtain ⟨B, rfl⟩ := Int.eq_ofNat_of_zero_le hn0
  simp only [Int.toNat_natCast]
  have HT : Hid (Tab w) := hT
  clear hT
  go_enter Tryd.func92, Tryd.ntmps92
  go_wp2
  go_loop [1, 5, 6] (fun vn vo vx => ∃ f x y o : Nat, x < 256 ∧ y < 2 ^ f ∧ f ≤ 17 ∧ o < 256 ∧ vx = .int .i64 x ∧ vn = .int .i64 y ∧ vo = .int .i64 o ∧ pw f x y o = pow A B) (fun vn _ _ => (intOf vn).toNat)
  case atStart => exact ⟨17, A, B, 1, by omega, by omega, by omega, by omega, rfl, rfl, rfl, rfl⟩
  case round =>
    obtain ⟨f, x, y, o, hx, hy, hf, ho, rfl, rfl, rfl, he⟩ := hrel
    have He : Hid (pw f x y o = pow A B) := he
    clear he
    have hy32 := two_pow_17 hf hy
    by_cases hlt : 0 < y
    · have hlt' : (0 : Int) < (y : Int) := by omega
      obtain ⟨f', k1, k2, k3, k4, k5⟩ := pw_step hy hf ho hx hlt He.out
      by_cases hodd : y % 2 = 1
      · rw [if_pos hodd] at k1 k5
        have K : Hid (pw f' (mul x x) (y / 2) (mul o x) = pow A B ∧ y / 2 < 2 ^ f' ∧ f' ≤ 17 ∧ mul x x < 256 ∧ mul o x < 256) := ⟨k1, k2, k3, k4, k5⟩
        clear k1 k2 k3 k4 k5
        have hb : ((y : Int) % 2 == 1) = true := by simp; omega
        go_wp2_with (go_at_call 87; refine (mulE_calls _ _ _ HT.out (by omega) (by omega) (by omega) (by omega)).mono ?_; rintro e w' ⟨rfl, rfl⟩)
        obtain ⟨k1, k2, k3, k4, k5⟩ := K.out
        exact ⟨⟨f', mul x x, y / 2, mul o x, k4, k2, k3, k5, rfl, rfl, rfl, k1⟩, by simp [intOf]; omega⟩
      · rw [if_neg hodd] at k1 k5
        have K : Hid (pw f' (mul x x) (y / 2) o = pow A B ∧ y / 2 < 2 ^ f' ∧ f' ≤ 17 ∧ mul x x < 256 ∧ o < 256) := ⟨k1, k2, k3, k4, k5⟩
        clear k1 k2 k3 k4 k5
        have hb : ((y : Int) % 2 == 1) = false := by simp; omega
        go_wp2_with (go_at_call 87; refine (mulE_calls _ _ _ HT.out (by omega) (by omega) (by omega) (by omega)).mono ?_; rintro e w' ⟨rfl, rfl⟩)
        obtain ⟨k1, k2, k3, k4, k5⟩ := K.out
        exact ⟨⟨f', mul x x, y / 2, o, k4, k2, k3, k5, rfl, rfl, rfl, k1⟩, by simp [intOf]; omega⟩
    · obtain rfl : y = 0 := by omega
      go_wp2
      go_ret
      exact ⟨ret_int (by have := He.out; rw [pw_zero] at this; rw [this]), rfl⟩

set_option maxRecDepth 100000 in
set_option maxHeartbeats 400000 in
theorem l1Pow_calls (a n : Int) (w : World) (ha0 : 0 ≤ a) (ha : a < 256) (hn0 : 0 ≤ n) (hn : n ≤ 100000) :
    Calls Tryd.prog 91 #[.int .i64 a, .int .i64 n] w fun e w' => e = .returned (.int .i64 (pow a.toNat n.toNat : Nat)) ∧ w = w' := by
  obtain ⟨A, rfl⟩ := Int.eq_ofNat_of_zero_le ha0
  obtain ⟨B, rfl⟩ := Int.eq_ofNat_of_zero_le hn0
  simp only [Int.toNat_natCast]
  go_enter Tryd.func91, Tryd.ntmps91
  go_wp2
  go_loop [0, 1, 5] (fun vx vn vo => ∃ f x y o : Nat, x < 256 ∧ y < 2 ^ f ∧ f ≤ 17 ∧ o < 256 ∧ vx = .int .i64 x ∧ vn = .int .i64 y ∧ vo = .int .i64 o ∧ pw f x y o = pow A B) (fun _ vn _ => (intOf vn).toNat)
  case atStart => exact ⟨17, A, B, 1, by omega, by omega, by omega, by omega, rfl, rfl, rfl, rfl⟩
  case round =>
    obtain ⟨f, x, y, o, hx, hy, hf, ho, rfl, rfl, rfl, he⟩ := hrel
    have He : Hid (pw f x y o = pow A B) := he
    clear he
    have hy32 := two_pow_17 hf hy
    by_cases hlt : 0 < y
    · have hlt' : (0 : Int) < (y : Int) := by omega
      obtain ⟨f', k1, k2, k3, k4, k5⟩ := pw_step hy hf ho hx hlt He.out
      have ha1 := i64_and1 y (by omega)
      by_cases hodd : y % 2 = 1
      · rw [if_pos hodd] at k1 k5
        have K : Hid (pw f' (mul x x) (y / 2) (mul o x) = pow A B ∧ y / 2 < 2 ^ f' ∧ f' ≤ 17 ∧ mul x x < 256 ∧ mul o x < 256) := ⟨k1, k2, k3, k4, k5⟩
        clear k1 k2 k3 k4 k5
        have hb : (bits .and .i64 (y : Int) 1 == 1) = true := by rw [ha1]; simp; omega
        clear ha1
        go_wp2_with (go_at_call 83; refine (l1Mul_calls _ _ _ (by omega) (by omega) (by omega) (by omega)).mono ?_; rintro e w' ⟨rfl, rfl⟩)
        obtain ⟨k1, k2, k3, k4, k5⟩ := K.out
        exact ⟨⟨f', mul x x, y / 2, mul o x, k4, k2, k3, k5, rfl, rfl, rfl, k1⟩, by simp [intOf]; omega⟩
      · rw [if_neg hodd] at k1 k5
        have K : Hid (pw f' (mul x x) (y / 2) o = pow A B ∧ y / 2 < 2 ^ f' ∧ f' ≤ 17 ∧ mul x x < 256 ∧ o < 256) := ⟨k1, k2, k3, k4, k5⟩
        clear k1 k2 k3 k4 k5
        have hb : (bits .and .i64 (y : Int) 1 == 1) = false := by rw [ha1]; simp; omega
        clear ha1
        go_wp2_with (go_at_call 83; refine (l1Mul_calls _ _ _ (by omega) (by omega) (by omega) (by omega)).mono ?_; rintro e w' ⟨rfl, rfl⟩)
        obtain ⟨k1, k2, k3, k4, k5⟩ := K.out
        exact ⟨⟨f', mul x x, y / 2, o, k4, k2, k3, k5, rfl, rfl, rfl, k1⟩, by simp [intOf]; omega⟩
    · obtain rfl : y = 0 := by omega
      go_wp2
      go_ret
      exact ⟨ret_int (by have := He.out; rw [pw_zero] at this; rw [this]), rfl⟩
end Gf
end Go.Proofs.YtiojipicincgfaaDoor

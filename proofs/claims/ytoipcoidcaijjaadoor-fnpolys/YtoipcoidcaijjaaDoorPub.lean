/-
  The public functions of the field (products, quotients, powers, orders), the program's and its model's, call by call: what each answers at good arguments and at all others; memory stays as it was. The program's table of rests must hold its seven numbers where the program's own functions are called.
-/
import Derived.Test.YtoipcoidcaijjaaDoorPow
namespace Go.Proofs.YtoipcoidcaijjaaDoor
open Go.RowKit
namespace Gf

theorem isE_yes (a : Int) (w : World) (ha0 : 0 ≤ a) (ha : a < 256) :
    Calls Tryd.prog 86 #[.int .i64 a] w fun e w' => e = .returned (.bool true) ∧ w = w' := by
  go_enter Tryd.func86, Tryd.ntmps86
  go_wp2
  go_ret
  exact ⟨rfl, rfl⟩
theorem l1In_yes (a lo hi : Int) (w : World) (ha0 : lo ≤ a) (ha : a ≤ hi) :
    Calls Tryd.prog 99 #[.int .i64 a, .int .i64 lo, .int .i64 hi] w fun e w' => e = .returned (.bool true) ∧ w = w' := by
  go_enter Tryd.func99, Tryd.ntmps99
  go_wp2
  go_ret
  exact ⟨rfl, rfl⟩
theorem l1Gf_yes (a : Int) (w : World) (ha0 : 0 ≤ a) (ha : a ≤ 255) :
    Calls Tryd.prog 90 #[.int .i64 a] w fun e w' => e = .returned (.bool true) ∧ w = w' := by
  go_enter Tryd.func90, Tryd.ntmps90
  go_wp2
  go_ret
  exact ⟨rfl, rfl⟩
set_option maxRecDepth 100000 in
set_option maxHeartbeats 400000 in
theorem inv_calls (a : Int) (w : World) (hT : Tab w) (ha0 : 0 ≤ a) (ha : a < 256) :
    Calls Tryd.prog 79 #[.int .i64 a] w fun e w' => e = .returned (.int .i64 (inv a.toNat : Nat)) ∧ w = w' := by
  have HT : Hid (Tab w) := hT
  clear hT
  go_enter Tryd.func79, Tryd.ntmps79
  go_wp2_with (go_at_call 146; refine (powE_calls _ _ _ HT.out (by omega) (by omega) (by omega) (by omega)).mono ?_; rintro e w' ⟨rfl, rfl⟩)
  go_ret
  exact ⟨rfl, rfl⟩
set_option maxRecDepth 100000 in
set_option maxHeartbeats 400000 in
theorem l1Div_calls (a b : Int) (w : World) (ha0 : 0 ≤ a) (ha : a < 256) (hb0 : 0 ≤ b) (hb : b < 256) :
    Calls Tryd.prog 83 #[.int .i64 a, .int .i64 b] w fun e w' => e = .returned (.int .i64 (mul a.toNat (inv b.toNat) : Nat)) ∧ w = w' := by
  have hi := inv_lt b.toNat
  have hi2 : ((inv b.toNat : Nat) : Int) < 256 := by omega
  go_enter Tryd.func83, Tryd.ntmps83
  go_wp2_with (first | (go_at_call 147; refine (l1Pow_calls _ _ _ (by omega) (by omega) (by omega) (by omega)).mono ?_; rintro e w' ⟨rfl, rfl⟩) | (go_at_call 84; refine (l1Mul_calls _ _ _ (by omega) (by omega) (Int.natCast_nonneg _) (by exact hi2)).mono ?_; rintro e w' ⟨rfl, rfl⟩))
  go_ret
  exact ⟨rfl, rfl⟩

set_option maxRecDepth 100000 in
set_option maxHeartbeats 400000 in
theorem mulGf_good (a b : Int) (w : World) (hT : Tab w) (ha0 : 0 ≤ a) (ha : a ≤ 255) (hb0 : 0 ≤ b) (hb : b ≤ 255) :
    Calls Tryd.prog 25 #[.int .i64 a, .int .i64 b] w fun e w' => e = .returned (.tuple #[.int .i64 (mul a.toNat b.toNat : Nat), .bool true]) ∧ w = w' := by
  have HT : Hid (Tab w) := hT
  clear hT
  have ha2 : a < 256 := by omega
  have hb2 : b < 256 := by omega
  go_enter Tryd.func25, Tryd.ntmps25
  go_wp2_with (first | (go_at_call 86; refine (isE_yes _ _ (by omega) (by omega)).mono ?_; rintro e w' ⟨rfl, rfl⟩) | (go_at_call 80; refine (mulE_calls _ _ _ HT.out (by omega) (by omega) (by omega) (by omega)).mono ?_; rintro e w' ⟨rfl, rfl⟩))
  go_ret2
  exact ⟨rfl, rfl⟩
set_option maxRecDepth 100000 in
set_option maxHeartbeats 400000 in
theorem mulGf_bad (a b : Int) (w : World) (h : a < 0 ∨ 255 < a ∨ b < 0 ∨ 255 < b) :
    Calls Tryd.prog 25 #[.int .i64 a, .int .i64 b] w fun e w' => e = .returned (.tuple #[.int .i64 0, .bool false]) ∧ w = w' := by
  by_cases h1 : 0 ≤ a
  · by_cases h2 : a ≤ 255
    · have h2' : a < 256 := by omega
      by_cases h3 : 0 ≤ b
      · by_cases h4 : b ≤ 255
        · exfalso; omega
        · have h4' : ¬ b < 256 := by omega
          go_enter Tryd.func25, Tryd.ntmps25
          go_wp2
          go_ret2
          exact ⟨rfl, rfl⟩
      · go_enter Tryd.func25, Tryd.ntmps25
        go_wp2
        go_ret2
        exact ⟨rfl, rfl⟩
    · have h2' : ¬ a < 256 := by omega
      go_enter Tryd.func25, Tryd.ntmps25
      go_wp2
      go_ret2
      exact ⟨rfl, rfl⟩
  · go_enter Tryd.func25, Tryd.ntmps25
    go_wp2
    go_ret2
    exact ⟨rfl, rfl⟩
end Gf
end Go.Proofs.YtoipcoidcaijjaaDoor

/-
  The finger of a window, by the program and by its model, call by call. No condition but that it is a text.
-/
import Derived.Test.YthmijjcddjlebaaBti
namespace Go.Proofs.Ythmijjcddjlebaa
open Go.RowKit Go.Shelf
set_option linter.unusedVariables false
attribute [local go_sem] Oper.semAt_some

def fingR (s : ByteArray) : Int × Bool := if s.size = 4 then (((fg (bs s) : Nat) : Int), true) else (0, false)
theorem fg_step (s : ByteArray) (k : Nat) (h : k < s.size) : fg ((bs s).take (k + 1)) = rf (fg ((bs s).take k)) 0 ((bs s).getD k 0) := by
  rw [take_snoc9 _ k (by rw [bs_length]; exact h), fg_snoc, rf_zero]
theorem bs_take_all (s : ByteArray) : (bs s).take s.size = bs s := List.take_of_length_le (by rw [bs_length]; exact Nat.le_refl _)
theorem bs_small (s : ByteArray) (k : Nat) : (bs s).getD k 0 < 256 := getD_lt (bs_lt s) k

set_option maxRecDepth 100000 in
set_option maxHeartbeats 400000 in
theorem l9Finger_calls (s : ByteArray) (w : World) (hn : s.size ≤ 1048576) :
    Calls Try.prog 145 #[.string s] w fun e w' => e = .returned (.int .i64 (fg (bs s) : Nat)) ∧ w = w' := by
  go_enter Try.func145, Try.ntmps145
  go_wp2
  go_loop [3, 4] (fun vs vi => ∃ k : Nat, k ≤ s.size ∧ vi = .int .i64 k ∧ vs = .int .i64 (fg ((bs s).take k) : Nat)) (fun _ vi => s.size - (intOf vi).toNat)
  case atStart => exact ⟨0, by omega, rfl, rfl⟩
  case round =>
    obtain ⟨k, hk, rfl, rfl⟩ := hrel
    have hy := fg_lt ((bs s).take k)
    by_cases hlt : k < s.size
    · have hst := hide (fg_step s k hlt)
      have hzz := bs_at9 s k hlt
      have hz2 := bs_small s k
      generalize fg ((bs s).take k) = y at hy hst ⊢
      generalize (bs s).getD k 0 = z at hst hzz hz2
      have hzz' := hzz.symm
      have E : Hid (((y : Int) * 257 + z) % 8191 = ((rf y 0 z : Nat) : Int)) := by show _ = _; rw [rf_zero]; omega
      clear hzz
      go_wp2
      go_round
      case rel => exact ⟨k + 1, by omega, by go_num, int_eq (by rw [hst.out, ← E.out])⟩
      case measure => simp [intOf]; omega
    · obtain rfl : k = s.size := by omega
      rw [bs_take_all]
      go_wp2
      go_ret
      exact ⟨rfl, rfl⟩

end Go.Proofs.Ythmijjcddjlebaa

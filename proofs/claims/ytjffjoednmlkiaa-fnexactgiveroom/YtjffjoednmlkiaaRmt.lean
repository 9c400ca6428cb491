/-
  The order for a size and the buddy of a room, of the model. No condition.
-/
import Derived.Test.YtjffjoednmlkiaaRms
namespace Go.Proofs.Ytjffjoednmlkiaa
open Go.RowKit
set_option linter.unusedVariables false

set_option maxRecDepth 100000 in
set_option maxHeartbeats 800000 in
theorem l14Order_calls (s : Int) (h1 : 1 ≤ s) (h2 : s ≤ 32) (w : World) : Calls Try.prog 121 #[.int .i64 s] w fun e w' => e = .returned (.int .i64 (ordN s : Int)) ∧ w = w' := by
  have LE := ordN_le s
  have LT := hide (ordN_lt s h1 h2)
  obtain ⟨N, hN⟩ : ∃ N, N = ordN s := ⟨_, rfl⟩
  rw [← hN] at LE LT ⊢
  clear hN
  go_enter Try.func121, Try.ntmps121
  go_wp2
  go_loop [3] (fun vk => ∃ k : Nat, k ≤ N ∧ vk = .int .i64 k) (fun vk => N - (intOf vk).toNat)
  case atStart => exact ⟨0, Nat.zero_le _, rfl⟩
  case round =>
    obtain ⟨k, hk, rfl⟩ := hrel
    have T := LT.out k hk
    have P := wrap_pw k (by omega)
    obtain ⟨p, hp⟩ : ∃ p, p = pw k := ⟨_, rfl⟩
    rw [← hp] at P T
    clear hp
    by_cases hlt : k < N
    · have hps := T.2 hlt
      clear T
      go_wp2
      go_round
      case rel => exact ⟨k + 1, by omega, by go_num⟩
      case measure => simp [intOf]; omega
    · have hps : s ≤ p := by
        have : ¬ p < s := fun h => hlt (T.1 h)
        omega
      obtain rfl : k = N := by omega
      clear T
      go_wp2
      go_ret
      exact ⟨rfl, rfl⟩

end Go.Proofs.Ytjffjoednmlkiaa

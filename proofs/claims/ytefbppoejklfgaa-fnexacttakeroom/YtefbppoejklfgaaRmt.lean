/-
  The order for a size and the buddy of a room, of the model. No condition.
-/
import Derived.Test.YtefbppoejklfgaaRms
namespace Go.Proofs.Ytefbppoejklfgaa
open Go.RowKit
set_option linter.unusedVariables false

set_option maxRecDepth 100000 in
set_option maxHeartbeats 800000 in
theorem l14Order_calls (s : Int) (h1 : 1 ≤ s) (h2 : s ≤ 32) (w : World) : Calls Try.prog 64 #[.int .i64 s] w fun e w' => e = .returned (.int .i64 (ordN s : Int)) ∧ w = w' := by
  have LE := ordN_le s
  have LT := hide (ordN_lt s h1 h2)
  obtain ⟨N, hN⟩ : ∃ N, N = ordN s := ⟨_, rfl⟩
  rw [← hN] at LE LT ⊢
  clear hN
  go_enter Try.func64, Try.ntmps64
  go_wp2
  go_loop [3] (fun vk => ∃ k : Nat, k ≤ N ∧ vk = .int .i64 k) (fun vk => N - (intOf vk).toNat)
  case atStart => exact ⟨0, Nat.zero_le _, rfl⟩
  case round =>
    obtain ⟨k, hk, rfl⟩ := hrel
    have T := LT.out k hk
    have P := wrap_pw k (by omega)
    obtain ⟨p, hp⟩ : ∃ p, p = pw k := ⟨_, rfl⟩
    rw [← hp] at P T
    clear hp
    by_cases hlt : k < N
    · have hps := T.2 hlt
      clear T
      go_wp2
      go_round
      case rel => exact ⟨k + 1, by omega, by go_num⟩
      case measure => simp [intOf]; omega
    · have hps : s ≤ p := by
        have : ¬ p < s := fun h => hlt (T.1 h)
        omega
      obtain rfl : k = N := by omega
      clear T
      go_wp2
      go_ret
      exact ⟨rfl, rfl⟩

set_option maxRecDepth 100000 in
theorem sOrderFor_calls (s : Int) (w : World) : Calls Try.prog 25 #[.int .i64 s] w fun e w' => e = .returned (.tuple #[.int .i64 (orV s), .bool (orB s)]) ∧ w = w' := by
  by_cases h : orP s
  case neg =>
    have C : Hid (inB s 1 32 = false) := decide_eq_false h
    rw [(orB_no h).1, (orB_no h).2]
    clear h
    go_enter Try.func25, Try.ntmps25
    go_wp2_with fail
    refine (l1InR_calls _ _ _ _).mono ?_
    rw [C.out]
    rintro e w' ⟨rfl, rfl⟩
    go_wp2
    go_ret2
    exact ⟨rfl, rfl⟩
  have C : Hid (inB s 1 32 = true) := decide_eq_true h
  rw [(orB_yes h).1, (orB_yes h).2]
  have L := hide (l14Order_calls s h.1 h.2)
  clear h
  go_enter Try.func25, Try.ntmps25
  go_wp2_with fail
  refine (l1InR_calls _ _ _ _).mono ?_
  rw [C.out]
  rintro e w' ⟨rfl, rfl⟩
  go_wp2_with fail
  refine (L.out _).mono ?_
  rintro e w' ⟨rfl, rfl⟩
  go_wp2
  go_ret2
  exact ⟨rfl, rfl⟩

set_option maxRecDepth 100000 in
set_option maxHeartbeats 800000 in
theorem sBuddyOf_calls (a o : Int) (w : World) : Calls Try.prog 27 #[.int .i64 a, .int .i64 o] w fun e w' => e = .returned (.tuple #[.int .i64 (bdV a o), .bool (bdB a o)]) ∧ w = w' := by
  have C := hide (l14Room_calls a o w)
  cases hb : rmB a o with
  | false =>
    have E : Hid (bdB a o = false ∧ bdV a o = 0) := by
      have e : bdB a o = false := by unfold bdB; rw [hb]; rfl
      exact ⟨e, by unfold bdV; rw [e]; rfl⟩
    rw [hb] at C
    clear hb
    rw [E.out.1, E.out.2]
    go_enter Try.func27, Try.ntmps27
    go_wp2_with (go_at_call 48; refine C.out.mono ?_; rintro e w' ⟨rfl, rfl⟩)
    go_ret2
    exact ⟨rfl, rfl⟩
  | true =>
    obtain ⟨r1, r2, r3, r4, r5⟩ := (rmB_iff a o).1 hb
    rw [hb] at C
    by_cases h5 : o = 5
    · have E : Hid (bdB a o = false ∧ bdV a o = 0) := by
        have e : bdB a o = false := by unfold bdB; rw [hb, h5]; rfl
        exact ⟨e, by unfold bdV; rw [e]; rfl⟩
      rw [E.out.1, E.out.2]
      subst h5
      clear hb r5
      go_enter Try.func27, Try.ntmps27
      go_wp2_with (go_at_call 48; refine C.out.mono ?_; rintro e w' ⟨rfl, rfl⟩)
      go_ret2
      exact ⟨rfl, rfl⟩
    · have e5 : (o == 5) = false := by simpa using h5
      have E : Hid (bdB a o = true ∧ bdV a o = bud a o.toNat) := by
        have e : bdB a o = true := by unfold bdB; rw [hb, decide_eq_true h5]; rfl
        exact ⟨e, by unfold bdV; rw [e]; rfl⟩
      rw [E.out.1, E.out.2]
      obtain ⟨n, rfl⟩ : ∃ n : Nat, o = (n : Int) := ⟨o.toNat, by omega⟩
      rw [Int.toNat_natCast] at E ⊢
      have X := xor_pw a n r3 r4 (by omega)
      obtain ⟨y, hy⟩ : ∃ y, y = bud a n := ⟨_, rfl⟩
      rw [← hy] at X ⊢
      have n5 : n < 5 := by omega
      clear hb r5 h5 hy E
      go_enter Try.func27, Try.ntmps27
      go_wp2_with (go_at_call 48; refine C.out.mono ?_; rintro e w' ⟨rfl, rfl⟩)
      go_ret2
      exact ⟨rfl, rfl⟩
end Go.Proofs.Ytefbppoejklfgaa

/-
  Fields that a step has no use for: the program's test, call by call. The contract says what it asks.
-/
import Derived.Test.YtnjpkfgljabdaaaDds
namespace Go.Proofs.Ytnjpkfgljabdaaa
open Go.RowKit
set_option linter.unusedVariables false

/-- A step has a kind, and nothing in the fields that this kind has no use for. -/
def lzOk (K A : Int) (T : ByteArray) (ks : List Int) : Prop :=
  ((K = 1 ∨ K = 4) ∧ ks = []) ∨ (K = 2 ∧ A = 0 ∧ T = ⟨#[]⟩ ∧ ks = []) ∨ (K = 3 ∧ A = 0 ∧ T = ⟨#[]⟩) ∨ ((K = 5 ∨ K = 6) ∧ T = ⟨#[]⟩ ∧ ks = [])
theorem lz_bool (K A : Int) (T : ByteArray) (ks : List Int) : ∃ g : Bool, g = true ↔ lzOk K A T ks := by
  by_cases hh : lzOk K A T ks
  · exact ⟨true, fun _ => hh, fun _ => rfl⟩
  · exact ⟨false, fun h => by simp at h, fun h => absurd h hh⟩
theorem bool_eq {x y : Bool} (h : x = true ↔ y = true) : x = y := by
  cases x <;> cases y <;> simp_all

set_option maxRecDepth 100000 in
set_option maxHeartbeats 1600000 in
theorem leaves_calls (K A : Int) (T : ByteArray) (vk : Value) (ks : List Int) (g : Bool) (w : World) (hv : Rd w vk ks) (hg : g = true ↔ lzOk K A T ks) :
    Calls Try.prog 62 #[.agg #[.int .i64 K, .int .i64 A, .string T, vk]] w fun e w' => e = .returned (.bool g) ∧ Below w.heap.size w w' := by
  obtain ⟨av, cv, rfl, mv, _⟩ := hv.sl
  have B0 := hide (below_box w (.cells #[.int .i64 K, .int .i64 A, .string T, .slice av ks.length cv] 44))
  have HG := hide hg
  clear hv hg
  obtain ⟨a, ha⟩ : ∃ a : Bool, a = (A == 0) := ⟨_, rfl⟩
  obtain ⟨t, ht⟩ : ∃ t : Bool, t = T.toList.isEmpty := ⟨_, rfl⟩
  obtain ⟨k, hk⟩ : ∃ k : Bool, k = ((ks.length : Int) == 0) := ⟨_, rfl⟩
  have QA : Hid (a = true ↔ A = 0) := by show _ ↔ _; rw [ha]; simp
  have QT : Hid (t = true ↔ T = ⟨#[]⟩) := by
    show _ ↔ _
    rw [ht]
    constructor
    · intro h
      by_cases e : T = ⟨#[]⟩
      · exact e
      · exact absurd (List.isEmpty_iff.1 h) (toList_ne e).1
    · rintro rfl
      rw [ByteArray.toList_eq]
      rfl
  have QK : Hid (k = true ↔ ks = []) := by
    show _ ↔ _
    rw [hk]
    constructor
    · intro h
      have : (ks.length : Int) = 0 := by simpa using h
      exact List.eq_nil_of_length_eq_zero (by omega)
    · rintro rfl
      rfl
  have HG2 : Hid (g = true ↔ (((K = 1 ∨ K = 4) ∧ k = true) ∨ (K = 2 ∧ a = true ∧ t = true ∧ k = true) ∨ (K = 3 ∧ a = true ∧ t = true) ∨ ((K = 5 ∨ K = 6) ∧ t = true ∧ k = true))) := by
    show _ ↔ _
    rw [HG.out, QA.out, QT.out, QK.out]
    rfl
  have HA := hide ha
  have HT := hide ht
  have HKK := hide hk
  clear ha ht hk HG QA QT QK
  go_enter Try.func62, Try.ntmps62
  go_wp2
  go_quiet (fail)
  rw [← HA.out, ← HT.out, ← HKK.out]
  clear HA HT HKK
  have X0 := hide (BoxAt.new w #[.int .i64 K, .int .i64 A, .string T, .slice av ks.length cv] 44)
  by_cases k1 : K = 1
  · subst k1
    go_wp2
    go_ret
    exact ⟨ret_bool (bool_eq (by rw [HG2.out]; simp)), below_drewN B0.out _⟩
  by_cases k4 : K = 4
  · subst k4
    clear k1
    go_wp2
    go_ret
    exact ⟨ret_bool (bool_eq (by rw [HG2.out]; simp)), below_drewN B0.out _⟩
  by_cases k2 : K = 2
  · subst k2
    clear k1 k4
    cases a <;> cases t <;> cases k
    all_goals
      go_wp2
      go_ret
      exact ⟨ret_bool (bool_eq (by rw [HG2.out]; simp)), below_drewN B0.out _⟩
  by_cases k3 : K = 3
  · subst k3
    clear k1 k4 k2
    cases a <;> cases t
    all_goals
      go_wp2
      go_ret
      exact ⟨ret_bool (bool_eq (by rw [HG2.out]; simp)), below_drewN B0.out _⟩
  by_cases k5 : K = 5
  · subst k5
    clear k1 k4 k2 k3
    cases t <;> cases k
    all_goals
      go_wp2
      go_ret
      exact ⟨ret_bool (bool_eq (by rw [HG2.out]; simp)), below_drewN B0.out _⟩
  by_cases k6 : K = 6
  · subst k6
    clear k1 k4 k2 k3 k5
    cases t <;> cases k
    all_goals
      go_wp2
      go_ret
      exact ⟨ret_bool (bool_eq (by rw [HG2.out]; simp)), below_drewN B0.out _⟩
  have e1 : (K == 1) = false := by simpa using k1
  have e2 : (K == 2) = false := by simpa using k2
  have e3 : (K == 3) = false := by simpa using k3
  have e4 : (K == 4) = false := by simpa using k4
  have e5 : (K == 5) = false := by simpa using k5
  have e6 : (K == 6) = false := by simpa using k6
  have G0 : Hid (g = false) := by
    show g = false
    cases g with
    | false => rfl
    | true =>
      have := HG2.out.1 rfl
      omega
  go_wp2
  go_ret
  exact ⟨ret_bool G0.out.symm, below_drewN B0.out _⟩
end Go.Proofs.Ytnjpkfgljabdaaa

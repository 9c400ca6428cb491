/-
  The identity as the two public functions answer it, the program's and its model's. No condition.
-/
import Derived.Test.YtfhaffegogdmeaaMake
namespace Go.Proofs.Ytfhaffegogdmeaa
open Go.RowKit

def identR (a : Int) : List (List Int) × Bool := if 1 ≤ a ∧ a ≤ 8 then (identM a.toNat, true) else ([], false)
set_option maxRecDepth 100000 in
set_option maxHeartbeats 800000 in
theorem identityOf_calls (a : Int) (w : World) :
    Calls Try.prog 12 #[.int .i64 a] w fun e w' => ∃ v', e = .returned (.tuple #[v', .bool (identR a).2]) ∧ Mat w' w.heap.size w'.heap.size v' (identR a).1 ∧ Below w.heap.size w w' := by
  by_cases h : 1 ≤ a ∧ a ≤ 8
  · have e : identR a = (identM a.toNat, true) := by simp [identR, h]
    rw [e]
    obtain ⟨n, rfl⟩ := Int.eq_ofNat_of_zero_le (show 0 ≤ a by omega)
    simp only [Int.toNat_natCast]
    have D : Hid (decide (1 ≤ (n : Int) ∧ (n : Int) ≤ 8) = true) := decide_eq_true h
    go_enter Try.func12, Try.ntmps12
    go_wp2_with fail
    refine (isSide_calls _ _).mono ?_
    rw [D.out]
    rintro e w' ⟨rfl, rfl⟩
    go_wp2_with fail
    refine (identity_calls n _ (by omega) (by omega)).mono ?_
    rintro e w1 ⟨v1, rfl, hm, hb⟩
    have M := hide hm
    have B := hide hb
    clear hm hb
    go_wp2
    go_ret2
    exact ⟨_, rfl, M.out, B.out⟩
  · have e : identR a = ([], false) := by simp only [identR, if_neg h]
    rw [e]
    have D : Hid (decide (1 ≤ a ∧ a ≤ 8) = false) := decide_eq_false h
    go_enter Try.func12, Try.ntmps12
    go_wp2_with fail
    refine (isSide_calls _ _).mono ?_
    rw [D.out]
    rintro e w' ⟨rfl, rfl⟩
    go_wp2
    go_ret2
    exact ⟨_, rfl, Mat.nil _ _ _, Below.refl _ _⟩
set_option maxRecDepth 100000 in
set_option maxHeartbeats 800000 in
theorem sIdentityOf_calls (a : Int) (w : World) :
    Calls Try.prog 11 #[.int .i64 a] w fun e w' => ∃ v', e = .returned (.tuple #[v', .bool (identR a).2]) ∧ Mat w' w.heap.size w'.heap.size v' (identR a).1 ∧ Below w.heap.size w w' := by
  by_cases h : 1 ≤ a ∧ a ≤ 8
  · have e : identR a = (identM a.toNat, true) := by simp [identR, h]
    rw [e]
    obtain ⟨n, rfl⟩ := Int.eq_ofNat_of_zero_le (show 0 ≤ a by omega)
    simp only [Int.toNat_natCast]
    have D : Hid (decide (1 ≤ (n : Int) ∧ (n : Int) ≤ 8) = true) := decide_eq_true h
    go_enter Try.func11, Try.ntmps11
    go_wp2_with fail
    refine (Gf.l1In_calls _ _ _ _).mono ?_
    rw [D.out]
    rintro e w' ⟨rfl, rfl⟩
    go_wp2_with fail
    refine (l2Identity_calls n _ (by omega) (by omega)).mono ?_
    rintro e w1 ⟨v1, rfl, hm, hb⟩
    have M := hide hm
    have B := hide hb
    clear hm hb
    go_wp2
    go_ret2
    exact ⟨_, rfl, M.out, B.out⟩
  · have e : identR a = ([], false) := by simp only [identR, if_neg h]
    rw [e]
    have D : Hid (decide (1 ≤ a ∧ a ≤ 8) = false) := decide_eq_false h
    go_enter Try.func11, Try.ntmps11
    go_wp2_with fail
    refine (Gf.l1In_calls _ _ _ _).mono ?_
    rw [D.out]
    rintro e w' ⟨rfl, rfl⟩
    go_wp2
    go_ret2
    exact ⟨_, rfl, Mat.nil _ _ _, Below.refl _ _⟩
theorem identR_tot (a : Int) : (identR a).1.length + tot (identR a).1 ≤ 1048576 := by
  unfold identR
  split
  · rename_i h
    simp only []
    have : ∀ k, k ≤ a.toNat → tot ((identM a.toNat).take k) ≤ 8 * k := by
      intro k
      induction k with
      | zero => intro _; simp [tot]
      | succ k ih =>
        intro hk
        rw [tot_take_succ _ k (by rw [identM_length]; omega), identM_get _ k (by omega), unitRow_length]
        have := ih (by omega)
        omega
    have := this a.toNat (Nat.le_refl _)
    rw [List.take_of_length_le (by rw [identM_length]; exact Nat.le_refl _)] at this
    rw [identM_length]
    omega
  · simp [tot]
end Go.Proofs.Ytfhaffegogdmeaa

/-
  Good disks: the program's function and its model's, call by call. Each contract says what it asks.
-/
import Derived.Test.YtpgmocogffolaaaDst0
namespace Go.Proofs.Ytpgmocogffolaaa
open Go.RowKit
set_option linter.unusedVariables false

/-- A disk is good. -/
def gkP (P H : List ByteArray) (B : List Bool) : Prop :=
  (1 ≤ P.length ∧ P.length ≤ 24) ∧ H.length = P.length ∧ B.length = P.length ∧ (∀ i, i < P.length → (P.getD i ⟨#[]⟩).size ≤ 28) ∧ (∀ i, i < P.length → (H.getD i ⟨#[]⟩).size ≤ 28) ∧ (∀ i, i < P.length → B.getD i false = true → H.getD i ⟨#[]⟩ = ⟨#[]⟩)
theorem toList_ne {z : ByteArray} (h : ¬ z = ⟨#[]⟩) : ¬ z.toList = [] ∧ (z.toList == []) = false := by
  have hz1 : ¬ z.toList = [] := by
    intro e
    apply h
    rw [ByteArray.toList_eq] at e
    apply ByteArray.ext
    simpa using e
  exact ⟨hz1, by simpa using hz1⟩

set_option maxRecDepth 100000 in
theorem isSectorCount_yes (n : Int) (w : World) (h : 1 ≤ n ∧ n ≤ 24) : Calls Try.prog 124 #[.int .i64 n] w fun e w' => e = .returned (.bool true) ∧ w = w' := by
  obtain ⟨h1, h2⟩ := h
  go_enter Try.func124, Try.ntmps124
  go_wp2
  go_ret
  exact ⟨by simp, rfl⟩
set_option maxRecDepth 100000 in
theorem isSectorCount_no (n : Int) (w : World) (h : ¬ (1 ≤ n ∧ n ≤ 24)) : Calls Try.prog 124 #[.int .i64 n] w fun e w' => e = .returned (.bool false) ∧ w = w' := by
  by_cases h1 : 1 ≤ n
  · have h2 : ¬ n ≤ 24 := fun e => h ⟨h1, e⟩
    clear h
    go_enter Try.func124, Try.ntmps124
    go_wp2
    go_ret
    exact ⟨by simp, rfl⟩
  · clear h
    go_enter Try.func124, Try.ntmps124
    go_wp2
    go_ret
    exact ⟨rfl, rfl⟩
set_option maxRecDepth 100000 in
theorem fitsSector_calls (z : ByteArray) (g : Bool) (w : World) (hg : g = true ↔ z.size ≤ 28) (hz : z.size ≤ maxLen) : Calls Try.prog 129 #[.string z] w fun e w' => e = .returned (.bool g) ∧ w = w' := by
  unfold maxLen at hz
  have HG := hide hg
  clear hg
  go_enter Try.func129, Try.ntmps129
  go_wp2
  go_ret
  refine ⟨ret_bool ?_, rfl⟩
  have := HG.out
  cases g
  · simp at this
    simp; omega
  · simp at this
    simp; omega

set_option maxRecDepth 100000 in
set_option maxHeartbeats 400000 in
theorem allFit_calls (v : Value) (xs : List ByteArray) (g : Bool) (w : World) (h : RdT w v xs) (hg : g = true ↔ ∀ i, i < xs.length → (xs.getD i ⟨#[]⟩).size ≤ 28) :
    Calls Try.prog 128 #[v, .func (.func 129) #[] #[]] w fun e w' => e = .returned (.bool g) ∧ w = w' := by
  obtain ⟨a, cap, rfl, h1, h2, h4, h3⟩ := h
  have hm : xs.length ≤ maxLen := by omega
  unfold maxLen at hm
  have H3 := hide h3
  have H4 := hide h4
  have HG := hide hg
  clear h3 h4 h2 h1 hg
  go_enter Try.func128, Try.ntmps128
  go_wp2
  go_loop [9] (fun vi => ∃ k : Nat, k ≤ xs.length ∧ vi = .int .i64 k ∧ ∀ i, i < k → (xs.getD i ⟨#[]⟩).size ≤ 28) (fun vi => xs.length - (intOf vi).toNat)
  case atStart => exact ⟨0, Nat.zero_le _, rfl, fun i hi => by omega⟩
  case round =>
    obtain ⟨k, hk, rfl, hall⟩ := hrel
    have HA := hide hall
    clear hall
    by_cases hlt : k < xs.length
    · rcases H3.out with h3 | ⟨b, off, rfl, hbs, hc⟩
      · subst h3; simp at hlt
      have hc1 := hc k hlt
      have hz : (xs.getD k ⟨#[]⟩).size ≤ maxLen := by
        apply H4.out
        rw [List.getD_eq_getElem?_getD, List.getElem?_eq_getElem hlt]
        exact List.getElem_mem hlt
      clear hc
      obtain ⟨z, hzz⟩ : ∃ z, z = xs.getD k ⟨#[]⟩ := ⟨_, rfl⟩
      rw [← hzz] at hc1 hz
      have HZ := hide hzz
      have hlt' : (k : Int) < (xs.length : Int) := by omega
      clear hzz
      by_cases h28 : z.size ≤ 28
      · have C : Hid (∀ W, Calls Try.prog 129 #[.string z] W fun e w' => e = .returned (.bool true) ∧ W = w') := fun W => fitsSector_calls z true W ⟨fun _ => h28, fun _ => rfl⟩ hz
        have H28 := hide h28
        clear h28 hz
        go_wp2_with fail
        refine (C.out _).mono ?_
        rintro e w1 ⟨rfl, rfl⟩
        go_wp2
        go_round
        case rel =>
          refine ⟨k + 1, by omega, by go_num, fun i hi => ?_⟩
          by_cases e : i = k
          · subst e; rw [← HZ.out]; exact H28.out
          · exact HA.out i (by omega)
        case measure => simp [intOf]; omega
      · have C : Hid (∀ W, Calls Try.prog 129 #[.string z] W fun e w' => e = .returned (.bool false) ∧ W = w') := fun W => fitsSector_calls z false W ⟨fun h => by simp at h, fun h => absurd h h28⟩ hz
        have H28 := hide h28
        clear h28 hz
        go_wp2_with fail
        refine (C.out _).mono ?_
        rintro e w1 ⟨rfl, rfl⟩
        go_wp2
        go_ret
        refine ⟨ret_bool ?_, rfl⟩
        cases g with
        | false => rfl
        | true => exact absurd (HG.out.1 rfl k hlt) (by rw [← HZ.out]; exact H28.out)
    · obtain rfl : k = xs.length := by omega
      go_wp2
      go_ret
      exact ⟨ret_bool (HG.out.2 HA.out).symm, rfl⟩

theorem RdT.cell {w : World} {a : Option Addr} {n cap : Nat} {xs : List ByteArray} (h : RdT w (.slice a n cap) xs) (i : Nat) (hi : i < xs.length) : ∃ b off, a = some ⟨b, off, none⟩ ∧ w.cell? ⟨b, off + i, none⟩ = some (.string (xs.getD i ⟨#[]⟩)) ∧ b < w.heap.size := by
  obtain ⟨a', cap', hv, _, _, _, h3⟩ := h
  simp only [Value.slice.injEq] at hv
  obtain ⟨rfl, rfl, rfl⟩ := hv
  rcases h3 with h3 | ⟨b, off, rfl, hlt, hc⟩
  · subst h3; simp at hi
  · exact ⟨b, off, rfl, hc i hi, hlt⟩
theorem RdZ.cell {w : World} {a : Option Addr} {n cap : Nat} {xs : List Bool} (h : RdZ w (.slice a n cap) xs) (i : Nat) (hi : i < xs.length) : ∃ b off, a = some ⟨b, off, none⟩ ∧ w.cell? ⟨b, off + i, none⟩ = some (.bool (xs.getD i false)) ∧ b < w.heap.size := by
  obtain ⟨a', cap', hv, _, _, h3⟩ := h
  simp only [Value.slice.injEq] at hv
  obtain ⟨rfl, rfl, rfl⟩ := hv
  rcases h3 with h3 | ⟨b, off, rfl, hlt, hc⟩
  · subst h3; simp at hi
  · exact ⟨b, off, rfl, hc i hi, hlt⟩
theorem RdT.sl {w : World} {v : Value} {xs : List ByteArray} (h : RdT w v xs) : ∃ a cap, v = .slice a xs.length cap ∧ xs.length ≤ 9223372036854775807 ∧ xs.length ≤ cap := by
  obtain ⟨a, cap, rfl, h1, h2, _⟩ := h
  have h3 := h2.1
  exact ⟨a, cap, rfl, by unfold maxLen at h3; omega, h1⟩
theorem RdZ.sl {w : World} {v : Value} {xs : List Bool} (h : RdZ w v xs) : ∃ a cap, v = .slice a xs.length cap ∧ xs.length ≤ 9223372036854775807 ∧ xs.length ≤ cap := by
  obtain ⟨a, cap, rfl, h1, h2, _⟩ := h
  have h3 := h2.1
  exact ⟨a, cap, rfl, by unfold maxLen at h3; omega, h1⟩
theorem RdT.szAt {w : World} {v : Value} {xs : List ByteArray} (h : RdT w v xs) (i : Nat) : (xs.getD i ⟨#[]⟩).size ≤ 9223372036854775807 := by
  have := h.small
  rw [List.getD_eq_getElem?_getD]
  cases hx : xs[i]? with
  | none => exact Nat.zero_le _
  | some s =>
    have h1 := this s (List.mem_of_getElem? hx)
    unfold maxLen at h1
    simp; omega

end Go.Proofs.Ytpgmocogffolaaa

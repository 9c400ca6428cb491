/-
  A step done on a disk of the call's own: what it leaves, and the program's doStep as a whole. Each contract says what it asks.
-/
import Derived.Test.YtnjpkfgljabdaaaDlz
namespace Go.Proofs.Ytnjpkfgljabdaaa
open Go.RowKit
set_option linter.unusedVariables false

/-- A step can be done on a disk of n sectors. -/
def stOk (P H : List ByteArray) (B : List Bool) (n : Nat) (K A : Int) (T : ByteArray) (ks : List Int) : Prop :=
  (K = 1 ∧ ks = [] ∧ (0 ≤ A ∧ A < (n : Int)) ∧ hoOk B A.toNat T) ∨ (K = 2 ∧ A = 0 ∧ T = ⟨#[]⟩ ∧ ks = []) ∨ (K = 3 ∧ A = 0 ∧ T = ⟨#[]⟩ ∧ kpOk H ks) ∨
  (K = 4 ∧ ks = [] ∧ (0 ≤ A ∧ A < (n : Int)) ∧ roOk P H A.toNat T) ∨ (K = 5 ∧ T = ⟨#[]⟩ ∧ ks = [] ∧ (0 ≤ A ∧ A < (n : Int))) ∨ (K = 6 ∧ T = ⟨#[]⟩ ∧ ks = [] ∧ (0 ≤ A ∧ A < (n : Int)) ∧ B.getD A.toNat false = true)
theorem st_bool (P H : List ByteArray) (B : List Bool) (n : Nat) (K A : Int) (T : ByteArray) (ks : List Int) : ∃ g : Bool, g = true ↔ stOk P H B n K A T ks := by
  by_cases hh : stOk P H B n K A T ks
  · exact ⟨true, fun _ => hh, fun _ => rfl⟩
  · exact ⟨false, fun h => by simp at h, fun h => absurd h hh⟩
theorem stOk_lz {P H : List ByteArray} {B : List Bool} {n : Nat} {K A : Int} {T : ByteArray} {ks : List Int} (h : stOk P H B n K A T ks) : lzOk K A T ks := by
  rcases h with ⟨h1, h2, _⟩ | ⟨h1, h2, h3, h4⟩ | ⟨h1, h2, h3, _⟩ | ⟨h1, h2, _⟩ | ⟨h1, h2, h3, _⟩ | ⟨h1, h2, h3, _⟩
  · exact .inl ⟨.inl h1, h2⟩
  · exact .inr (.inl ⟨h1, h2, h3, h4⟩)
  · exact .inr (.inr (.inl ⟨h1, h2, h3⟩))
  · exact .inl ⟨.inr h1, h2⟩
  · exact .inr (.inr (.inr ⟨.inl h1, h2, h3⟩))
  · exact .inr (.inr (.inr ⟨.inr h1, h2, h3⟩))
/-- What a step leaves. -/
def stP (P H : List ByteArray) (n : Nat) (K A : Int) (T : ByteArray) (ks : List Int) : List ByteArray :=
  if K = 2 then crP P H (hpl H n) else if K = 3 then crP P H ks else if K = 4 then P.set A.toNat (rotT (P.getD A.toNat ⟨#[]⟩) T) else if K = 6 then P.set A.toNat ⟨#[]⟩ else P
def stH (H : List ByteArray) (K A : Int) (T : ByteArray) : List ByteArray := if K = 1 then H.set A.toNat T else if K = 2 then crH H else if K = 3 then crH H else if K = 5 then H.set A.toNat ⟨#[]⟩ else H
def stB (B : List Bool) (K A : Int) : List Bool := if K = 5 then B.set A.toNat true else if K = 6 then B.set A.toNat false else B

/-- What both do with a step on a disk of the call's own. -/
def StepPost (lo hi : Nat) (p h b : Value) (P H : List ByteArray) (B : List Bool) (n : Nat) (K A : Int) (T : ByteArray) (ks : List Int) (ok : Bool) (w w' : World) : Prop :=
  (ok = true → DskV w' lo hi p h b (stP P H n K A T ks) (stH H K A T) (stB B K A)) ∧ Chg lo hi w w'

theorem doStep_calls (p h b vk : Value) (P H : List ByteArray) (B : List Bool) (K A : Int) (T : ByteArray) (ks : List Int) (lo hi n : Nat) (ok : Bool) (w : World) (d : DskV w lo hi p h b P H B) (hhi : hi ≤ w.heap.size) (hP : P.length = n) (hH : H.length = n) (hB : B.length = n) (hn : 0 < n ∧ n ≤ 24) (kv : ∀ w', Chg lo hi w w' → Rd w' vk ks)
    (lz : lzOk K A T ks) (hok : ok = true ↔ stOk P H B n K A T ks) (hT : T.size ≤ 1048576) (hkl : ks.length ≤ 1048576) (h28 : ∀ i, i < P.length → (P.getD i ⟨#[]⟩).size ≤ 28) :
    Calls Try.prog 64 #[.agg #[p, h, b], .agg #[.int .i64 K, .int .i64 A, .string T, vk]] w fun e w' => e = .returned (.bool ok) ∧ StepPost lo hi p h b P H B n K A T ks ok w w' := by
  have inn : (0 ≤ A ∧ A < (n : Int)) → ∃ k : Nat, A = (k : Int) ∧ k < n := fun h => ⟨A.toNat, by omega, by omega⟩
  rcases lz with ⟨hK, rfl⟩ | ⟨rfl, rfl, rfl, rfl⟩ | ⟨rfl, rfl, rfl⟩ | ⟨hK, rfl, rfl⟩
  · rcases hK with rfl | rfl
    · by_cases hA : 0 ≤ A ∧ A < (n : Int)
      · obtain ⟨k, rfl, hk⟩ := inn hA
        refine doStep_1 p h b vk P H B [] lo hi n k T ok w d hhi hP hH hB hn kv hk hT ?_
        rw [hok]
        unfold stOk
        simp [hk]
      · have e0 : ok = false := by
          cases ok with
          | false => rfl
          | true =>
            have := hok.1 rfl
            unfold stOk at this
            simp at this
            exact absurd this.1 hA
        subst e0
        exact (doStep_out1 p h b vk P H B [] lo hi n A T w d hhi hP hH hB hn kv hA).mono fun e w' ⟨h1, h2, h3⟩ => ⟨h1, fun h => by simp at h, h3⟩
    · by_cases hA : 0 ≤ A ∧ A < (n : Int)
      · obtain ⟨k, rfl, hk⟩ := inn hA
        refine doStep_4 p h b vk P H B [] lo hi n k T ok w d hhi hP hH hB hn kv hk hT (h28 k (by omega)) ?_
        rw [hok]
        unfold stOk
        simp [hk]
      · have e0 : ok = false := by
          cases ok with
          | false => rfl
          | true =>
            have := hok.1 rfl
            unfold stOk at this
            simp at this
            exact absurd this.1 hA
        subst e0
        exact (doStep_out4 p h b vk P H B [] lo hi n A T w d hhi hP hH hB hn kv hA).mono fun e w' ⟨h1, h2, h3⟩ => ⟨h1, fun h => by simp at h, h3⟩
  · have e0 : ok = true := hok.2 (.inr (.inl ⟨rfl, rfl, rfl, rfl⟩))
    subst e0
    exact doStep_sync p h b vk P H B [] lo hi n w d hhi hP hH hB hn kv
  · refine doStep_crash p h b vk P H B ks lo hi n ok w d hhi hP hH hB hn kv ?_ hkl
    rw [hok]
    unfold stOk
    simp
  · rcases hK with rfl | rfl
    · by_cases hA : 0 ≤ A ∧ A < (n : Int)
      · obtain ⟨k, rfl, hk⟩ := inn hA
        have e0 : ok = true := hok.2 (.inr (.inr (.inr (.inr (.inl ⟨rfl, rfl, rfl, hA⟩)))))
        subst e0
        exact doStep_5 p h b vk P H B [] lo hi n k w d hhi hP hH hB hn kv hk
      · have e0 : ok = false := by
          cases ok with
          | false => rfl
          | true =>
            have := hok.1 rfl
            unfold stOk at this
            simp at this
            exact absurd this hA
        subst e0
        exact (doStep_out5 p h b vk P H B [] lo hi n A ⟨#[]⟩ w d hhi hP hH hB hn kv hA).mono fun e w' ⟨h1, h2, h3⟩ => ⟨h1, fun h => by simp at h, h3⟩
    · by_cases hA : 0 ≤ A ∧ A < (n : Int)
      · obtain ⟨k, rfl, hk⟩ := inn hA
        refine doStep_6 p h b vk P H B [] lo hi n k ok w d hhi hP hH hB hn kv hk ?_
        refine bool_eq ?_
        rw [hok]
        unfold stOk
        simp [hk]
      · have e0 : ok = false := by
          cases ok with
          | false => rfl
          | true =>
            have := hok.1 rfl
            unfold stOk at this
            simp at this
            exact absurd this.1 hA
        subst e0
        exact (doStep_out6 p h b vk P H B [] lo hi n A ⟨#[]⟩ w d hhi hP hH hB hn kv hA).mono fun e w' ⟨h1, h2, h3⟩ => ⟨h1, fun h => by simp at h, h3⟩
end Go.Proofs.Ytnjpkfgljabdaaa

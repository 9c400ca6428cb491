/-
  A step done on a disk of the call's own: the model's l7Step as a whole. The contract says what it asks.
-/
import Derived.Test.YtpgmocogffolaaaGoodJournalB22
namespace Go.Proofs.Ytpgmocogffolaaa
open Go.RowKit
set_option linter.unusedVariables false

set_option linter.unusedSimpArgs false in
set_option maxRecDepth 100000 in
set_option maxHeartbeats 1600000 in
theorem l7Step_calls (p h b vk : Value) (P H : List ByteArray) (B : List Bool) (K A : Int) (T : ByteArray) (ks : List Int) (lo hi n : Nat) (ok : Bool) (w : World) (d : DskV w lo hi p h b P H B) (hhi : hi ≤ w.heap.size) (hP : P.length = n) (hH : H.length = n) (hB : B.length = n) (hn : 0 < n ∧ n ≤ 24) (kv : ∀ w', Chg lo hi w w' → Rd w' vk ks)
    (hok : ok = true ↔ stOk P H B n K A T ks) (hT : T.size ≤ 1048576) (h28 : ∀ i, i < P.length → (P.getD i ⟨#[]⟩).size ≤ 28) :
    Calls Try.prog 98 #[.agg #[p, h, b], .agg #[.int .i64 K, .int .i64 A, .string T, vk]] w fun e w' => e = .returned (.tuple #[.agg #[p, h, b], .bool ok]) ∧ StepPost lo hi p h b P H B n K A T ks ok w w' := by
  have inn : (0 ≤ A ∧ A < (n : Int)) → ∃ k : Nat, A = (k : Int) ∧ k < n := fun h => ⟨A.toNat, by omega, by omega⟩
  have no : ¬ stOk P H B n K A T ks → ok = false := fun h => by
    cases ok with
    | false => rfl
    | true => exact absurd (hok.1 rfl) h
  by_cases hK2 : K = 2
  · subst hK2
    by_cases hA : A = 0
    case neg =>
      obtain rfl := no (by
        rintro (⟨a,b,c,e⟩|⟨a,b,c,e⟩|⟨a,b,c,e⟩|⟨a,b,c,e⟩|⟨a,b,c,e⟩|⟨a,b,c,e⟩) <;> first | omega | contradiction | exact absurd e.2 h1 | (exfalso; simp_all [hoOk, roOk]; done) | (exfalso; simp_all [roOk]; omega))
      exact (s_at2 p h b vk P H B lo hi n A T ks w d hhi hP hH hB hn kv hA).mono fun e w' ⟨h1, h2, h3⟩ => ⟨h1, fun h => by simp at h, h3⟩
    subst hA
    by_cases hTe : T = ⟨#[]⟩
    case neg =>
      obtain rfl := no (by
        rintro (⟨a,b,c,e⟩|⟨a,b,c,e⟩|⟨a,b,c,e⟩|⟨a,b,c,e⟩|⟨a,b,c,e⟩|⟨a,b,c,e⟩) <;> first | omega | contradiction | exact absurd e.2 h1 | (exfalso; simp_all [hoOk, roOk]; done) | (exfalso; simp_all [roOk]; omega))
      exact (s_text2 p h b vk P H B lo hi n T ks w d hhi hP hH hB hn kv hTe).mono fun e w' ⟨h1, h2, h3⟩ => ⟨h1, fun h => by simp at h, h3⟩
    subst hTe
    by_cases hks : ks = []
    case neg =>
      obtain rfl := no (by
        rintro (⟨a,b,c,e⟩|⟨a,b,c,e⟩|⟨a,b,c,e⟩|⟨a,b,c,e⟩|⟨a,b,c,e⟩|⟨a,b,c,e⟩) <;> first | omega | contradiction | exact absurd e.2 h1 | (exfalso; simp_all [hoOk, roOk]; done) | (exfalso; simp_all [roOk]; omega))
      exact (s_kept2 p h b vk P H B lo hi n ks w d hhi hP hH hB hn kv hks).mono fun e w' ⟨h1, h2, h3⟩ => ⟨h1, fun h => by simp at h, h3⟩
    subst hks
    obtain rfl : ok = true := hok.2 (.inr (.inl ⟨rfl, rfl, rfl, rfl⟩))
    exact s_sync p h b vk P H B lo hi n  w d hhi hP hH hB hn kv 
  by_cases hK3 : K = 3
  · subst hK3
    by_cases hA : A = 0
    case neg =>
      obtain rfl := no (by
        rintro (⟨a,b,c,e⟩|⟨a,b,c,e⟩|⟨a,b,c,e⟩|⟨a,b,c,e⟩|⟨a,b,c,e⟩|⟨a,b,c,e⟩) <;> first | omega | contradiction | exact absurd e.2 h1 | (exfalso; simp_all [hoOk, roOk]; done) | (exfalso; simp_all [roOk]; omega))
      exact (s_at3 p h b vk P H B lo hi n A T ks w d hhi hP hH hB hn kv hA).mono fun e w' ⟨h1, h2, h3⟩ => ⟨h1, fun h => by simp at h, h3⟩
    subst hA
    by_cases hTe : T = ⟨#[]⟩
    case neg =>
      obtain rfl := no (by
        rintro (⟨a,b,c,e⟩|⟨a,b,c,e⟩|⟨a,b,c,e⟩|⟨a,b,c,e⟩|⟨a,b,c,e⟩|⟨a,b,c,e⟩) <;> first | omega | contradiction | exact absurd e.2 h1 | (exfalso; simp_all [hoOk, roOk]; done) | (exfalso; simp_all [roOk]; omega))
      exact (s_text3 p h b vk P H B lo hi n T ks w d hhi hP hH hB hn kv hTe).mono fun e w' ⟨h1, h2, h3⟩ => ⟨h1, fun h => by simp at h, h3⟩
    subst hTe
    exact s_crash p h b vk P H B lo hi n ks ok w d hhi hP hH hB hn kv (by
      rw [hok]
      unfold stOk
      simp)
  by_cases hA : 0 ≤ A ∧ A < (n : Int)
  case neg =>
    obtain rfl := no (by
      rintro (⟨a,b,c,e⟩|⟨a,b,c,e⟩|⟨a,b,c,e⟩|⟨a,b,c,e⟩|⟨a,b,c,e⟩|⟨a,b,c,e⟩) <;> first | omega | contradiction | exact absurd e.2 h1 | (exfalso; simp_all [hoOk, roOk]; done) | (exfalso; simp_all [roOk]; omega))
    exact (s_out p h b vk P H B lo hi n K A T ks w d hhi hP hH hB hn kv hK2 hK3 hA).mono fun e w' ⟨h1, h2, h3⟩ => ⟨h1, fun h => by simp at h, h3⟩
  obtain ⟨k, rfl, hk⟩ := inn hA
  by_cases hks : ks = []
  case neg =>
    obtain rfl := no (by
      rintro (⟨a,b,c,e⟩|⟨a,b,c,e⟩|⟨a,b,c,e⟩|⟨a,b,c,e⟩|⟨a,b,c,e⟩|⟨a,b,c,e⟩) <;> first | omega | contradiction | exact absurd e.2 h1 | (exfalso; simp_all [hoOk, roOk]; done) | (exfalso; simp_all [roOk]; omega))
    exact (s_more p h b vk P H B lo hi n K k T ks w d hhi hP hH hB hn kv hK2 hK3 hk hks).mono fun e w' ⟨h1, h2, h3⟩ => ⟨h1, fun h => by simp at h, h3⟩
  subst hks
  by_cases hK1 : K = 1
  · subst hK1
    by_cases hBk : B.getD k false = true
    · obtain rfl := no (by
        rintro (⟨a,b,c,e⟩|⟨a,b,c,e⟩|⟨a,b,c,e⟩|⟨a,b,c,e⟩|⟨a,b,c,e⟩|⟨a,b,c,e⟩) <;> first | omega | contradiction | exact absurd e.2 h1 | (exfalso; simp_all [hoOk, roOk]; done) | (exfalso; simp_all [roOk]; omega))
      exact (s_1a p h b vk P H B lo hi n k T w d hhi hP hH hB hn kv hk hBk).mono fun e w' ⟨h1, h2, h3⟩ => ⟨h1, fun h => by simp at h, h3⟩
    have hBk : B.getD k false = false := by simpa using hBk
    by_cases h1 : 1 ≤ T.size ∧ T.size ≤ 28
    case neg =>
      obtain rfl := no (by
        rintro (⟨a,b,c,e⟩|⟨a,b,c,e⟩|⟨a,b,c,e⟩|⟨a,b,c,e⟩|⟨a,b,c,e⟩|⟨a,b,c,e⟩) <;> first | omega | contradiction | exact absurd e.2 h1 | (exfalso; simp_all [hoOk, roOk]; done) | (exfalso; simp_all [roOk]; omega))
      exact (s_1b p h b vk P H B lo hi n k T w d hhi hP hH hB hn kv hk hBk hT h1).mono fun e w' ⟨h1, h2, h3⟩ => ⟨h1, fun h => by simp at h, h3⟩
    obtain rfl : ok = true := hok.2 (.inl ⟨rfl, rfl, hA, hBk, h1.1, h1.2⟩)
    exact s_1c p h b vk P H B lo hi n k T w d hhi hP hH hB hn kv hk hBk h1.1 h1.2
  by_cases hK4 : K = 4
  · subst hK4
    by_cases hz : H.getD k ⟨#[]⟩ = ⟨#[]⟩
    case neg =>
      obtain rfl := no (by
        rintro (⟨a,b,c,e⟩|⟨a,b,c,e⟩|⟨a,b,c,e⟩|⟨a,b,c,e⟩|⟨a,b,c,e⟩|⟨a,b,c,e⟩) <;> first | omega | contradiction | exact absurd e.2 h1 | (exfalso; simp_all [hoOk, roOk]; done) | (exfalso; simp_all [roOk]; omega))
      exact (s_4a p h b vk P H B lo hi n k T w d hhi hP hH hB hn kv hk hz).mono fun e w' ⟨h1, h2, h3⟩ => ⟨h1, fun h => by simp at h, h3⟩
    by_cases h1 : 1 ≤ T.size ∧ T.size ≤ (P.getD k ⟨#[]⟩).size
    case neg =>
      by_cases hs : P.getD k ⟨#[]⟩ = ⟨#[]⟩
      · obtain rfl := no (by
          rintro (⟨a,b,c,e⟩|⟨a,b,c,e⟩|⟨a,b,c,e⟩|⟨a,b,c,e⟩|⟨a,b,c,e⟩|⟨a,b,c,e⟩) <;> first | omega | contradiction | exact absurd e.2 h1 | (exfalso; simp_all [hoOk, roOk]; done) | (exfalso; simp_all [roOk]; omega))
        exact (s_4b p h b vk P H B lo hi n k T w d hhi hP hH hB hn kv hk hz hs).mono fun e w' ⟨h1, h2, h3⟩ => ⟨h1, fun h => by simp at h, h3⟩
      · obtain rfl := no (by
          rintro (⟨a,b,c,e⟩|⟨a,b,c,e⟩|⟨a,b,c,e⟩|⟨a,b,c,e⟩|⟨a,b,c,e⟩|⟨a,b,c,e⟩) <;> first | omega | contradiction | exact absurd e.2 h1 | (exfalso; simp_all [hoOk, roOk]; done) | (exfalso; simp_all [roOk]; omega))
        exact (s_4c p h b vk P H B lo hi n k T w d hhi hP hH hB hn kv hk hz hs hT (h28 k (by omega)) h1).mono fun e w' ⟨h1, h2, h3⟩ => ⟨h1, fun h => by simp at h, h3⟩
    obtain rfl : ok = true := hok.2 (.inr (.inr (.inr (.inl ⟨rfl, rfl, hA, hz, h1.1, h1.2⟩))))
    exact s_4 p h b vk P H B lo hi n k T w d hhi hP hH hB hn kv hk hz (h28 k (by omega)) h1.1 h1.2
  by_cases hK5 : K = 5
  · subst hK5
    by_cases hTe : T = ⟨#[]⟩
    case neg =>
      obtain rfl := no (by
        rintro (⟨a,b,c,e⟩|⟨a,b,c,e⟩|⟨a,b,c,e⟩|⟨a,b,c,e⟩|⟨a,b,c,e⟩|⟨a,b,c,e⟩) <;> first | omega | contradiction | exact absurd e.2 h1 | (exfalso; simp_all [hoOk, roOk]; done) | (exfalso; simp_all [roOk]; omega))
      exact (s_5T p h b vk P H B lo hi n k T w d hhi hP hH hB hn kv hk hTe).mono fun e w' ⟨h1, h2, h3⟩ => ⟨h1, fun h => by simp at h, h3⟩
    subst hTe
    obtain rfl : ok = true := hok.2 (.inr (.inr (.inr (.inr (.inl ⟨rfl, rfl, rfl, hA⟩)))))
    exact s_5 p h b vk P H B lo hi n k w d hhi hP hH hB hn kv hk
  by_cases hK6 : K = 6
  · subst hK6
    by_cases hTe : T = ⟨#[]⟩
    case neg =>
      obtain rfl := no (by
        rintro (⟨a,b,c,e⟩|⟨a,b,c,e⟩|⟨a,b,c,e⟩|⟨a,b,c,e⟩|⟨a,b,c,e⟩|⟨a,b,c,e⟩) <;> first | omega | contradiction | exact absurd e.2 h1 | (exfalso; simp_all [hoOk, roOk]; done) | (exfalso; simp_all [roOk]; omega))
      exact (s_6T p h b vk P H B lo hi n k T w d hhi hP hH hB hn kv hk hTe).mono fun e w' ⟨h1, h2, h3⟩ => ⟨h1, fun h => by simp at h, h3⟩
    subst hTe
    by_cases hBk : B.getD k false = true
    case neg =>
      have hBk : B.getD k false = false := by simpa using hBk
      obtain rfl := no (by
        rintro (⟨a,b,c,e⟩|⟨a,b,c,e⟩|⟨a,b,c,e⟩|⟨a,b,c,e⟩|⟨a,b,c,e⟩|⟨a,b,c,e⟩) <;> first | omega | contradiction | exact absurd e.2 h1 | (exfalso; simp_all [hoOk, roOk]; done) | (exfalso; simp_all [roOk]; omega))
      exact (s_6a p h b vk P H B lo hi n k w d hhi hP hH hB hn kv hk hBk).mono fun e w' ⟨h1, h2, h3⟩ => ⟨h1, fun h => by simp at h, h3⟩
    obtain rfl : ok = true := hok.2 (.inr (.inr (.inr (.inr (.inr ⟨rfl, rfl, rfl, hA, hBk⟩)))))
    exact s_6 p h b vk P H B lo hi n k w d hhi hP hH hB hn kv hk hBk
  obtain rfl := no (by
    rintro (⟨a,b,c,e⟩|⟨a,b,c,e⟩|⟨a,b,c,e⟩|⟨a,b,c,e⟩|⟨a,b,c,e⟩|⟨a,b,c,e⟩) <;> first | omega | contradiction | exact absurd e.2 h1 | (exfalso; simp_all [hoOk, roOk]; done) | (exfalso; simp_all [roOk]; omega))
  exact (s_other p h b vk P H B lo hi n K k T w d hhi hP hH hB hn kv hK1 hK2 hK3 hK4 hK5 hK6 hk).mono fun e w' ⟨h1, h2, h3⟩ => ⟨h1, fun h => by simp at h, h3⟩
end Go.Proofs.Ytpgmocogffolaaa

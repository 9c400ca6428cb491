/-
  A step done on a disk of the call's own: the model's l7Step as a whole. The contract says what it asks. WriteStripe: the program's and its model's, at every disk, numbers and text.
-/
import Derived.Test.YthdbacihhmilbaaGreatDoorMendsB36
import Derived.Test.YthdbacihhmilbaaGreatDoorMendsB35
import Derived.Test.YthdbacihhmilbaaGreatDoorMendsB18
import Derived.Test.YthdbacihhmilbaaGreatDoorMendsB19
import Derived.Test.YthdbacihhmilbaaGreatDoorMendsB10
import Derived.Test.YthdbacihhmilbaaGreatDoorMendsB8
import Derived.Test.YthdbacihhmilbaaGreatDoorMendsB0
set_option linter.unusedVariables false
set_option linter.unusedSimpArgs false
set_option maxRecDepth 100000
set_option maxHeartbeats 6400000
namespace Go.Proofs.YthdbacihhmilbaaGreatDoor
open Go.RowKit
theorem l7Step_calls (p h b vk : Value) (P H : List ByteArray) (B : List Bool) (K A : Int) (T : ByteArray) (ks : List Int) (lo hi n : Nat) (ok : Bool) (w : World) (d : DskV w lo hi p h b P H B) (hhi : hi ≤ w.heap.size) (hP : P.length = n) (hH : H.length = n) (hB : B.length = n) (hn : 0 < n ∧ n ≤ 24) (kv : ∀ w', Chg lo hi w w' → Rd w' vk ks)
    (hok : ok = true ↔ stOk P H B n K A T ks) (hT : T.size ≤ 1048576) (h28 : ∀ i, i < P.length → (P.getD i ⟨#[]⟩).size ≤ 28) :
    Calls Tryz.prog 83 #[.agg #[p, h, b], .agg #[.int .i64 K, .int .i64 A, .string T, vk]] w fun e w' => e = .returned (.tuple #[.agg #[p, h, b], .bool ok]) ∧ StepPost lo hi p h b P H B n K A T ks ok w w' := by
 have inn : (0 ≤ A ∧ A < (n : Int)) → ∃ k : Nat, A = (k : Int) ∧ k < n := fun h => ⟨A.toNat, by omega, by omega⟩
 have no : ¬ stOk P H B n K A T ks → ok = false := fun h => by
  cases ok with
  | false => rfl
  | true => exact absurd (hok.1 rfl) h
 by_cases hK2 : K = 2
 ·subst hK2
  by_cases hA : A = 0
  case neg =>
   obtain rfl := no (by
    rintro (⟨a,b,c,e⟩|⟨a,b,c,e⟩|⟨a,b,c,e⟩|⟨a,b,c,e⟩|⟨a,b,c,e⟩|⟨a,b,c,e⟩) <;> first | omega | contradiction | exact absurd e.2 h1 | (exfalso; simp_all [hoOk, roOk]; done) | (exfalso; simp_all [roOk]; omega))
   exact (s_at2 p h b vk P H B lo hi n A T ks w d hhi hP hH hB hn kv hA).mono fun e w' ⟨h1, h2, h3⟩ => ⟨h1, fun h => by simp at h, h3⟩
  subst hA
  by_cases hTe : T = ⟨#[]⟩
  case neg =>
   obtain rfl := no (by
    rintro (⟨a,b,c,e⟩|⟨a,b,c,e⟩|⟨a,b,c,e⟩|⟨a,b,c,e⟩|⟨a,b,c,e⟩|⟨a,b,c,e⟩) <;> first | omega | contradiction | exact absurd e.2 h1 | (exfalso; simp_all [hoOk, roOk]; done) | (exfalso; simp_all [roOk]; omega))
   exact (s_text2 p h b vk P H B lo hi n T ks w d hhi hP hH hB hn kv hTe).mono fun e w' ⟨h1, h2, h3⟩ => ⟨h1, fun h => by simp at h, h3⟩
  subst hTe
  by_cases hks : ks = []
  case neg =>
   obtain rfl := no (by
    rintro (⟨a,b,c,e⟩|⟨a,b,c,e⟩|⟨a,b,c,e⟩|⟨a,b,c,e⟩|⟨a,b,c,e⟩|⟨a,b,c,e⟩) <;> first | omega | contradiction | exact absurd e.2 h1 | (exfalso; simp_all [hoOk, roOk]; done) | (exfalso; simp_all [roOk]; omega))
   exact (s_kept2 p h b vk P H B lo hi n ks w d hhi hP hH hB hn kv hks).mono fun e w' ⟨h1, h2, h3⟩ => ⟨h1, fun h => by simp at h, h3⟩
  subst hks
  obtain rfl : ok = true := hok.2 (.inr (.inl ⟨rfl, rfl, rfl, rfl⟩))
  exact s_sync p h b vk P H B lo hi n  w d hhi hP hH hB hn kv 
 by_cases hK3 : K = 3
 ·subst hK3
  by_cases hA : A = 0
  case neg =>
   obtain rfl := no (by
    rintro (⟨a,b,c,e⟩|⟨a,b,c,e⟩|⟨a,b,c,e⟩|⟨a,b,c,e⟩|⟨a,b,c,e⟩|⟨a,b,c,e⟩) <;> first | omega | contradiction | exact absurd e.2 h1 | (exfalso; simp_all [hoOk, roOk]; done) | (exfalso; simp_all [roOk]; omega))
   exact (s_at3 p h b vk P H B lo hi n A T ks w d hhi hP hH hB hn kv hA).mono fun e w' ⟨h1, h2, h3⟩ => ⟨h1, fun h => by simp at h, h3⟩
  subst hA
  by_cases hTe : T = ⟨#[]⟩
  case neg =>
   obtain rfl := no (by
    rintro (⟨a,b,c,e⟩|⟨a,b,c,e⟩|⟨a,b,c,e⟩|⟨a,b,c,e⟩|⟨a,b,c,e⟩|⟨a,b,c,e⟩) <;> first | omega | contradiction | exact absurd e.2 h1 | (exfalso; simp_all [hoOk, roOk]; done) | (exfalso; simp_all [roOk]; omega))
   exact (s_text3 p h b vk P H B lo hi n T ks w d hhi hP hH hB hn kv hTe).mono fun e w' ⟨h1, h2, h3⟩ => ⟨h1, fun h => by simp at h, h3⟩
  subst hTe
  exact s_crash p h b vk P H B lo hi n ks ok w d hhi hP hH hB hn kv (by
   rw [hok]
   unfold stOk
   simp)
 by_cases hA : 0 ≤ A ∧ A < (n : Int)
 case neg =>
  obtain rfl := no (by
   rintro (⟨a,b,c,e⟩|⟨a,b,c,e⟩|⟨a,b,c,e⟩|⟨a,b,c,e⟩|⟨a,b,c,e⟩|⟨a,b,c,e⟩) <;> first | omega | contradiction | exact absurd e.2 h1 | (exfalso; simp_all [hoOk, roOk]; done) | (exfalso; simp_all [roOk]; omega))
  exact (s_out p h b vk P H B lo hi n K A T ks w d hhi hP hH hB hn kv hK2 hK3 hA).mono fun e w' ⟨h1, h2, h3⟩ => ⟨h1, fun h => by simp at h, h3⟩
 obtain ⟨k, rfl, hk⟩ := inn hA
 by_cases hks : ks = []
 case neg =>
  obtain rfl := no (by
   rintro (⟨a,b,c,e⟩|⟨a,b,c,e⟩|⟨a,b,c,e⟩|⟨a,b,c,e⟩|⟨a,b,c,e⟩|⟨a,b,c,e⟩) <;> first | omega | contradiction | exact absurd e.2 h1 | (exfalso; simp_all [hoOk, roOk]; done) | (exfalso; simp_all [roOk]; omega))
  exact (s_more p h b vk P H B lo hi n K k T ks w d hhi hP hH hB hn kv hK2 hK3 hk hks).mono fun e w' ⟨h1, h2, h3⟩ => ⟨h1, fun h => by simp at h, h3⟩
 subst hks
 by_cases hK1 : K = 1
 ·subst hK1
  by_cases hBk : B.getD k false = true
  ·obtain rfl := no (by
     rintro (⟨a,b,c,e⟩|⟨a,b,c,e⟩|⟨a,b,c,e⟩|⟨a,b,c,e⟩|⟨a,b,c,e⟩|⟨a,b,c,e⟩) <;> first | omega | contradiction | exact absurd e.2 h1 | (exfalso; simp_all [hoOk, roOk]; done) | (exfalso; simp_all [roOk]; omega))
   exact (s_1a p h b vk P H B lo hi n k T w d hhi hP hH hB hn kv hk hBk).mono fun e w' ⟨h1, h2, h3⟩ => ⟨h1, fun h => by simp at h, h3⟩
  have hBk : B.getD k false = false := by simpa using hBk
  by_cases h1 : 1 ≤ T.size ∧ T.size ≤ 28
  case neg =>
   obtain rfl := no (by
    rintro (⟨a,b,c,e⟩|⟨a,b,c,e⟩|⟨a,b,c,e⟩|⟨a,b,c,e⟩|⟨a,b,c,e⟩|⟨a,b,c,e⟩) <;> first | omega | contradiction | exact absurd e.2 h1 | (exfalso; simp_all [hoOk, roOk]; done) | (exfalso; simp_all [roOk]; omega))
   exact (s_1b p h b vk P H B lo hi n k T w d hhi hP hH hB hn kv hk hBk hT h1).mono fun e w' ⟨h1, h2, h3⟩ => ⟨h1, fun h => by simp at h, h3⟩
  obtain rfl : ok = true := hok.2 (.inl ⟨rfl, rfl, hA, hBk, h1.1, h1.2⟩)
  exact s_1c p h b vk P H B lo hi n k T w d hhi hP hH hB hn kv hk hBk h1.1 h1.2
 by_cases hK4 : K = 4
 ·subst hK4
  by_cases hz : H.getD k ⟨#[]⟩ = ⟨#[]⟩
  case neg =>
   obtain rfl := no (by
    rintro (⟨a,b,c,e⟩|⟨a,b,c,e⟩|⟨a,b,c,e⟩|⟨a,b,c,e⟩|⟨a,b,c,e⟩|⟨a,b,c,e⟩) <;> first | omega | contradiction | exact absurd e.2 h1 | (exfalso; simp_all [hoOk, roOk]; done) | (exfalso; simp_all [roOk]; omega))
   exact (s_4a p h b vk P H B lo hi n k T w d hhi hP hH hB hn kv hk hz).mono fun e w' ⟨h1, h2, h3⟩ => ⟨h1, fun h => by simp at h, h3⟩
  by_cases h1 : 1 ≤ T.size ∧ T.size ≤ (P.getD k ⟨#[]⟩).size
  case neg =>
   by_cases hs : P.getD k ⟨#[]⟩ = ⟨#[]⟩
   ·obtain rfl := no (by
      rintro (⟨a,b,c,e⟩|⟨a,b,c,e⟩|⟨a,b,c,e⟩|⟨a,b,c,e⟩|⟨a,b,c,e⟩|⟨a,b,c,e⟩) <;> first | omega | contradiction | exact absurd e.2 h1 | (exfalso; simp_all [hoOk, roOk]; done) | (exfalso; simp_all [roOk]; omega))
    exact (s_4b p h b vk P H B lo hi n k T w d hhi hP hH hB hn kv hk hz hs).mono fun e w' ⟨h1, h2, h3⟩ => ⟨h1, fun h => by simp at h, h3⟩
   ·obtain rfl := no (by
      rintro (⟨a,b,c,e⟩|⟨a,b,c,e⟩|⟨a,b,c,e⟩|⟨a,b,c,e⟩|⟨a,b,c,e⟩|⟨a,b,c,e⟩) <;> first | omega | contradiction | exact absurd e.2 h1 | (exfalso; simp_all [hoOk, roOk]; done) | (exfalso; simp_all [roOk]; omega))
    exact (s_4c p h b vk P H B lo hi n k T w d hhi hP hH hB hn kv hk hz hs hT (h28 k (by omega)) h1).mono fun e w' ⟨h1, h2, h3⟩ => ⟨h1, fun h => by simp at h, h3⟩
  obtain rfl : ok = true := hok.2 (.inr (.inr (.inr (.inl ⟨rfl, rfl, hA, hz, h1.1, h1.2⟩))))
  exact s_4 p h b vk P H B lo hi n k T w d hhi hP hH hB hn kv hk hz (h28 k (by omega)) h1.1 h1.2
 by_cases hK5 : K = 5
 ·subst hK5
  by_cases hTe : T = ⟨#[]⟩
  case neg =>
   obtain rfl := no (by
    rintro (⟨a,b,c,e⟩|⟨a,b,c,e⟩|⟨a,b,c,e⟩|⟨a,b,c,e⟩|⟨a,b,c,e⟩|⟨a,b,c,e⟩) <;> first | omega | contradiction | exact absurd e.2 h1 | (exfalso; simp_all [hoOk, roOk]; done) | (exfalso; simp_all [roOk]; omega))
   exact (s_5T p h b vk P H B lo hi n k T w d hhi hP hH hB hn kv hk hTe).mono fun e w' ⟨h1, h2, h3⟩ => ⟨h1, fun h => by simp at h, h3⟩
  subst hTe
  obtain rfl : ok = true := hok.2 (.inr (.inr (.inr (.inr (.inl ⟨rfl, rfl, rfl, hA⟩)))))
  exact s_5 p h b vk P H B lo hi n k w d hhi hP hH hB hn kv hk
 by_cases hK6 : K = 6
 ·subst hK6
  by_cases hTe : T = ⟨#[]⟩
  case neg =>
   obtain rfl := no (by
    rintro (⟨a,b,c,e⟩|⟨a,b,c,e⟩|⟨a,b,c,e⟩|⟨a,b,c,e⟩|⟨a,b,c,e⟩|⟨a,b,c,e⟩) <;> first | omega | contradiction | exact absurd e.2 h1 | (exfalso; simp_all [hoOk, roOk]; done) | (exfalso; simp_all [roOk]; omega))
   exact (s_6T p h b vk P H B lo hi n k T w d hhi hP hH hB hn kv hk hTe).mono fun e w' ⟨h1, h2, h3⟩ => ⟨h1, fun h => by simp at h, h3⟩
  subst hTe
  by_cases hBk : B.getD k false = true
  case neg =>
   have hBk : B.getD k false = false := by simpa using hBk
   obtain rfl := no (by
    rintro (⟨a,b,c,e⟩|⟨a,b,c,e⟩|⟨a,b,c,e⟩|⟨a,b,c,e⟩|⟨a,b,c,e⟩|⟨a,b,c,e⟩) <;> first | omega | contradiction | exact absurd e.2 h1 | (exfalso; simp_all [hoOk, roOk]; done) | (exfalso; simp_all [roOk]; omega))
   exact (s_6a p h b vk P H B lo hi n k w d hhi hP hH hB hn kv hk hBk).mono fun e w' ⟨h1, h2, h3⟩ => ⟨h1, fun h => by simp at h, h3⟩
  obtain rfl : ok = true := hok.2 (.inr (.inr (.inr (.inr (.inr ⟨rfl, rfl, rfl, hA, hBk⟩)))))
  exact s_6 p h b vk P H B lo hi n k w d hhi hP hH hB hn kv hk hBk
 obtain rfl := no (by
  rintro (⟨a,b,c,e⟩|⟨a,b,c,e⟩|⟨a,b,c,e⟩|⟨a,b,c,e⟩|⟨a,b,c,e⟩|⟨a,b,c,e⟩) <;> first | omega | contradiction | exact absurd e.2 h1 | (exfalso; simp_all [hoOk, roOk]; done) | (exfalso; simp_all [roOk]; omega))
 exact (s_other p h b vk P H B lo hi n K k T w d hhi hP hH hB hn kv hK1 hK2 hK3 hK4 hK5 hK6 hk).mono fun e w' ⟨h1, h2, h3⟩ => ⟨h1, fun h => by simp at h, h3⟩
open Gf (ci nat)
def ks5 : List Nat := [0, 1, 2, 3, 4]
theorem ks5_get (j : Nat) (h : j < 5) : ks5.getD j 0 = j := by
 match j, h with
 | 0, _ => rfl
 | 1, _ => rfl
 | 2, _ => rfl
 | 3, _ => rfl
 | 4, _ => rfl
def pcN (S : ByteArray) : List (List Nat) := (mulM (codeM 3 2) (datM S)).map nat
theorem pcN_row {S : ByteArray} (h : S.size ≤ 47) (i : Nat) (hi : i < 5) : ∃ X : List Nat, (mulM (codeM 3 2) (datM S)).getD i [] = ci X ∧ X.length = 16 ∧ ∀ x ∈ X, x < 256 := by
 refine ⟨_, mulM_get _ _ i (by rw [codeM_length]; omega), ?_, ?_⟩
 ·rw [mulRow_length, datM_get S 0 (by omega), Gf.ci_length, rowN_length h 0 (by omega)]
 ·have := mulRow_lt (b := (datM S).map nat) (l := ((datM S).getD 0 []).length) (r := nat ((codeM 3 2).getD i [])) (Gf.nat_lt (codeM_rows 3 2 i (by rw [codeM_length]; omega)).2) ((codeM 3 2).getD i []).length
  intro x hx
  obtain ⟨j, hj, rfl⟩ := List.getElem_of_mem hx
  have h2 := this j
  rw [qg, List.getElem?_eq_getElem hj, Option.getD_some] at h2
  exact h2
theorem nat_ci' (l : List Nat) : nat (ci l) = l := by simp [nat, ci, Function.comp_def]
theorem pcN_length (S : ByteArray) : (pcN S).length = 5 := by unfold pcN; rw [List.length_map, mulM_length, codeM_length]
theorem pcN_get {S : ByteArray} (i : Nat) (hi : i < 5) : (pcN S).getD i [] = nat ((mulM (codeM 3 2) (datM S)).getD i []) := by
 unfold pcN
 simp only [qg]
 rw [List.getElem?_map, List.getElem?_eq_getElem (by rw [mulM_length, codeM_length]; omega)]
 rfl
theorem pcN_ok {S : ByteArray} (h : S.size ≤ 47) : ∀ i, i < 5 → ((pcN S).getD i []).length = 16 ∧ ∀ x ∈ (pcN S).getD i [], x < 256 := by
 intro i hi
 obtain ⟨X, e, h1, h2⟩ := pcN_row h i hi
 rw [pcN_get i hi, e, nat_ci']
 exact ⟨h1, h2⟩
theorem pcN_ci {S : ByteArray} (h : S.size ≤ 47) : (pcN S).map ci = mulM (codeM 3 2) (datM S) := by
 apply List.ext_getElem
 ·rw [List.length_map, pcN_length, mulM_length, codeM_length]
 ·intro i h1 h2
  have hi : i < 5 := by rw [List.length_map, pcN_length] at h1; exact h1
  obtain ⟨X, e, _, _⟩ := pcN_row h i hi
  have e1 := pcN_get (S := S) i hi
  rw [e, nat_ci'] at e1
  rw [List.getElem_map]
  rw [qg, List.getElem?_eq_getElem h2, Option.getD_some] at e
  rw [qg, List.getElem?_eq_getElem (by rw [pcN_length]; exact hi), Option.getD_some] at e1
  rw [e1, e]
def wsOk (P H : List ByteArray) (B : List Bool) (A E : Int) (S : ByteArray) : Prop := S.size ≤ 47 ∧ (gkP P H B ∧ ftP P A) ∧ wOk B A.toNat E ks5 5
theorem ws_bool (P H : List ByteArray) (B : List Bool) (A E : Int) (S : ByteArray) : ∃ ok : Bool, ok = true ↔ wsOk P H B A E S := by
 by_cases h : wsOk P H B A E S
 ·exact ⟨true, by simp [h]⟩
 ·exact ⟨false, by simp [h]⟩
def wsH (H : List ByteArray) (A E : Int) (S : ByteArray) : List ByteArray := wrTo H A.toNat E (pcN S) ks5 5
open Gf (ci nat)
theorem sc_frB {A : Nat} {E : Int} {row : List Nat} (hA : A ≤ 24) (hE : 0 ≤ E ∧ E ≤ 60000) (hr : row.length = 16) : ofN (frB 2 A E.toNat (bs (ofN row))) = scT A E row := by
 have hg : goodF 2 (A : Int) E (ofN row).size := ⟨⟨by omega, by omega, by omega⟩, hE, by rw [ofN_size]; omega⟩
 have e : frR 2 (A : Int) E (ofN row) = (ofN (frB (2 : Int).toNat (A : Int).toNat E.toNat (bs (ofN row))), true) := if_pos hg
 unfold scT
 rw [e]
 rfl
theorem st_put {P H : List ByteArray} {B : List Bool} {n a : Nat} {T : ByteArray} {y : Bool} (ha : a < n) (hT : T.size = 28) (hy : y = true ↔ B.getD a false = false) : y = true ↔ stOk P H B n 1 ((a : Nat) : Int) T [] := by
 rw [hy]
 unfold stOk hoOk
 simp only [Int.toNat_natCast]
 constructor
 ·intro h1
  exact .inl ⟨by trivial, by trivial, ⟨by omega, by omega⟩, h1, by rw [hT]; omega, by rw [hT]; omega⟩
 ·rintro (⟨_, _, _, h1, _⟩ | ⟨h0, _⟩ | ⟨h0, _⟩ | ⟨h0, _⟩ | ⟨h0, _⟩ | ⟨h0, _⟩)
  ·exact h1
  all_goals (exact absurd h0 (by decide))
theorem l8Put_calls (p h b : Value) (P H : List ByteArray) (B : List Bool) (a : Nat) (E : Int) (u : Value) (row : List Nat) (lo hi n : Nat) (y : Bool) (w : World) (d : DskV w lo hi p h b P H B) (hhi : hi ≤ w.heap.size) (hP : P.length = n) (hH : H.length = n) (hB : B.length = n) (hn : 0 < n ∧ n ≤ 24) (ha : a < n)
    (hE : 0 ≤ E ∧ E ≤ 60000) (hu : Rd w u (ci row)) (hr : row.length = 16) (hl : ∀ x ∈ row, x < 256) (hy : y = true ↔ B.getD a false = false) (h28 : ∀ i, i < P.length → (P.getD i ⟨#[]⟩).size ≤ 28) :
    Calls Tryz.prog 44 #[.agg #[p, h, b], .int .i64 (a : Int), .int .i64 E, u] w fun e w' => e = .returned (.tuple #[.agg #[p, h, b], .bool y]) ∧ (y = true → DskV w' lo hi p h b P (H.set a (scT a E row)) B) ∧ Chg lo hi w w' := by
 obtain ⟨En, hEn⟩ : ∃ En : Nat, E = (En : Int) := ⟨E.toNat, by omega⟩
 have SC := hide (sc_frB (A := a) (row := row) (by omega) hE hr)
 have G2 := hide (sc_good (A := a) (row := row) (by omega) hE hr).2
 have C1 := hide (fun W hv => l8Text_calls u row W hv hl (by omega))
 have C2 := hide (fun W => l6Frame_calls 2 a E.toNat (ofN row) W (by omega) (by omega) (by omega) (by rw [ofN_size]; omega))
 rw [SC.out] at C2
 subst hEn
 rw [Int.toNat_natCast] at C2
 have HY := hide (st_put (P := P) (H := H) (B := B) ha G2.out hy)
 generalize scT a (En : Int) row = T at *
 generalize ofN row = bo at *
 have U := hide hu
 obtain ⟨W0, hW⟩ : ∃ W0, W0 = (w.alloc (.cells #[p, h, b] 26)).alloc (.cells #[.slice none 0 0, .slice none 0 0, .slice none 0 0] 26) := ⟨_, rfl⟩
 have b0 : Below w.heap.size w W0 := by rw [hW]; exact (below_box _ _).trans ((below_box _ _).mono (by simp))
 have x0 : BoxAt W0 w.heap.size #[p, h, b] 26 := by rw [hW]; exact (BoxAt.new _ _ _).below (below_box _ _)
 have x1 : BoxAt W0 (w.heap.size + 1) #[.slice none 0 0, .slice none 0 0, .slice none 0 0] 26 := by
  rw [hW]
  have := BoxAt.new (w.alloc (.cells #[p, h, b] 26)) #[.slice none 0 0, .slice none 0 0, .slice none 0 0] 26
  simpa using this
 have HW := hide hW
 have B0 := hide b0
 have X0 := hide x0
 have X1 := hide x1
 have D0 := hide (d.below b0)
 have hs0 : w.heap.size + 1 < W0.heap.size := x1.lt
 obtain ⟨ap, cp, ah, ch, ab, cb, rfl, rfl, rfl⟩ := d.sl
 have HPl := hide hP
 have HHl := hide hH
 have HBl := hide hB
 clear hW b0 x0 x1 d hu SC hy hl hP hH hB
 go_enter Tryz.func44, Tryz.ntmps44
 go_wp2_with fail
 rw [← HW.out]
 refine (C1.out _ (U.out.below B0.out)).mono ?_
 rintro e w1 ⟨rfl, q⟩
 have B1 := hide (B0.out.trans (q.mono B0.out.size))
 have X01 := hide (X0.out.below q)
 have X11 := hide (X1.out.below q)
 have D1 := hide (D0.out.below q)
 clear q X0 X1 D0 B0
 go_wp2_with fail
 refine (C2.out _).mono ?_
 rintro e w2 ⟨rfl, q⟩
 have B2 := hide (B1.out.trans (q.mono B1.out.size))
 have X02 := hide (X01.out.below q)
 have X12 := hide (X11.out.below q)
 have D2 := hide (D1.out.below q)
 clear q X01 X11 D1 B1
 obtain ⟨c0, c1, c2⟩ := X02.out.c3
 have C3 := hide (l7Step_calls _ _ _ (.slice none 0 0) P H B 1 ((a : Nat) : Int) T [] lo hi n y w2 D2.out (Nat.le_trans hhi B2.out.size) HPl.out HHl.out HBl.out hn (fun _ _ => rd_nil' _) HY.out (by rw [G2.out]; omega) h28)
 go_wp2_with fail
 refine C3.out.mono ?_
 rintro e w3 ⟨rfl, sp1, sp2⟩
 have SP1 := hide sp1
 have SP2 := hide sp2
 have X13 := hide (X12.out.chg sp2 (by omega))
 obtain ⟨d0, d1, d2⟩ := X13.out.c3
 have g0 := X13.out.frozen 0
 have g1 := X13.out.frozen 1
 have g2 := X13.out.frozen 2
 clear sp1 sp2 c0 c1 c2
 have XZ := hide (X13.out.store3 (.slice ap P.length cp) (.slice ah H.length ch) (.slice ab B.length cb))
 have CZ : Hid (Chg (w.heap.size + 1) (w.heap.size + 2) w3 (((w3.setCell ⟨w.heap.size + 1, 0, none⟩ (.slice ap P.length cp)).setCell ⟨w.heap.size + 1, 1, none⟩ (.slice ah H.length ch)).setCell ⟨w.heap.size + 1, 2, none⟩ (.slice ab B.length cb))) := Chg.store3 _ _ _ _ _ (Nat.le_refl _) (by omega)
 go_wp2
 refine bodyPost_ret (res_dsk2 rfl _ _ (w.heap.size + 1) _ _ _ (0, 0) rfl XZ.out) rfl ⟨rfl, fun e => ?_, ?_⟩
 ·have d4 := SP1.out e
  have e1 : stP P H n 1 ((a : Nat) : Int) T [] = P := by unfold stP; rw [if_neg (by decide), if_neg (by decide), if_neg (by decide), if_neg (by decide)]
  have e2 : stH H 1 ((a : Nat) : Int) T = H.set a T := by unfold stH; rw [if_pos rfl, Int.toNat_natCast]
  have e3 : stB B 1 ((a : Nat) : Int) = B := by unfold stB; rw [if_neg (by decide), if_neg (by decide)]
  rw [e1, e2, e3] at d4
  exact d4.chg CZ.out (.inl (by omega))
 ·exact chg_new ((Chg.ofBelow B2.out).trans SP2.out) CZ.out (by omega)
open Gf (ci nat)
def TMat (v : Value) (m : List (List Int)) : Tg := fun lo hi w => Mat w lo hi v m
theorem TMat.st (v : Value) (m : List (List Int)) : (TMat v m).st := fun lo hi a b w w' h hc hd => by
 obtain ⟨vs, hv⟩ := h
 exact ⟨vs, hv.chg hc hd⟩
theorem sWriteStripe_calls (p h b : Value) (P H : List ByteArray) (B : List Bool) (A E : Int) (S : ByteArray) (ok : Bool) (w : World) (hok : ok = true ↔ wsOk P H B A E S) (hwf : (Lit.int .i64 A).wf = true) (hS : S.size ≤ maxLen) (hp : RdT w p P) (hh : RdT w h H) (hb : RdZ w b B) :
    Calls Tryz.prog 7 #[.agg #[p, h, b], .int .i64 A, .int .i64 E, .string S] w fun e w' => ∃ p' h' b', e = .returned (.tuple #[.agg #[p', h', b'], .bool ok]) ∧ DskV w' w.heap.size w'.heap.size p' h' b' (ifT ok P) (ifT ok (wsH H A E S)) (ifT ok B) ∧ Below w.heap.size w w' := by
 unfold maxLen at hS
 have RP := hide hp
 have RH := hide hh
 have RB := hide hb
 have HOK := hide hok
 obtain ⟨g, hg⟩ := gk_bool' P H B
 have HG := hide hg
 have C1 := hide (fun W h1 h2 h3 => sGoodDisk_calls p h b P H B g W hg h1 h2 h3)
 have A0 : Hid (Hand w ((w.alloc (.cells #[p, h, b] 26)).alloc (.cells nil3 26)) [TBox (w.heap.size + 1) nil3 26, TBox w.heap.size #[p, h, b] 26]) := by
  show Hand _ _ _
  have := ((Hand.start w).box #[p, h, b] 26).box nil3 26
  simpa using this
 obtain ⟨ap, cp, rfl, mp, _⟩ := hp.sl
 obtain ⟨ah, ch, rfl, mh, _⟩ := hh.sl
 obtain ⟨ab, cb, rfl, mb, _⟩ := hb.sl
 have FALSE : Hid (¬ wsOk P H B A E S → ok = false) := fun h => by
  cases ok with
  | false => rfl
  | true => exact absurd (HOK.out.1 rfl) h
 clear hp hh hb hok hg mp mh mb hwf
 cases g with
 | false =>
  obtain rfl := FALSE.out (fun h' => by have := HG.out.2 h'.2.1.1; simp at this)
  obtain ⟨c0, c1, c2⟩ := (A0.out.atBox 1 rfl).c3
  go_enter Tryz.func7, Tryz.ntmps7
  go_wp2_with fail
  refine (C1.out _ (RP.out.below A0.out.below) (RH.out.below A0.out.below) (RB.out.below A0.out.below)).mono ?_
  rintro e w1 ⟨rfl, q⟩
  have A1 := hide (A0.out.step q)
  clear q A0
  obtain ⟨d0, d1, d2⟩ := (A1.out.atBox 0 rfl).c3
  have g0 := (A1.out.atBox 0 rfl).frozen 0
  have g1 := (A1.out.atBox 0 rfl).frozen 1
  have g2 := (A1.out.atBox 0 rfl).frozen 2
  have AZ := hide (A1.out.store3 0 rfl (.slice none 0 0) (.slice none 0 0) (.slice none 0 0))
  go_wp2
  exact bodyPost_ret (res_dsk2 rfl _ _ (w.heap.size + 1) _ _ _ (0, 0) rfl (AZ.out.atBox 0 rfl)) rfl ⟨_, _, _, rfl, DskV.nil _ _ _, AZ.out.below⟩
 | true =>
 have GK := hide (HG.out.1 rfl)
 have n24 : P.length ≤ 24 := GK.out.1.2
 obtain ⟨f, hf⟩ : ∃ f : Bool, f = true ↔ ftP P A := by
  by_cases hx : ftP P A
  ·exact ⟨true, by simp [hx]⟩
  ·exact ⟨false, by simp [hx]⟩
 have C2 := hide (fun W x y z t => l8Fits_calls x y z t P A f W hf n24)
 have HF := hide hf
 clear hf
 obtain ⟨c0, c1, c2⟩ := (A0.out.atBox 1 rfl).c3
 cases f with
 | false =>
  obtain rfl := FALSE.out (fun h' => by have := HF.out.2 h'.2.1.2; simp at this)
  go_enter Tryz.func7, Tryz.ntmps7
  go_wp2_with fail
  refine (C1.out _ (RP.out.below A0.out.below) (RH.out.below A0.out.below) (RB.out.below A0.out.below)).mono ?_
  rintro e w1 ⟨rfl, q⟩
  have A1 := hide (A0.out.step q)
  clear q A0
  obtain ⟨c0, c1, c2⟩ := (A1.out.atBox 1 rfl).c3
  go_wp2_with fail
  refine (C2.out _ _ _ _ _).mono ?_
  rintro e w2 ⟨rfl, q⟩
  have A2 := hide (A1.out.step q)
  clear q A1 c0 c1 c2
  obtain ⟨d0, d1, d2⟩ := (A2.out.atBox 0 rfl).c3
  have g0 := (A2.out.atBox 0 rfl).frozen 0
  have g1 := (A2.out.atBox 0 rfl).frozen 1
  have g2 := (A2.out.atBox 0 rfl).frozen 2
  have AZ := hide (A2.out.store3 0 rfl (.slice none 0 0) (.slice none 0 0) (.slice none 0 0))
  go_wp2
  exact bodyPost_ret (res_dsk2 rfl _ _ (w.heap.size + 1) _ _ _ (0, 0) rfl (AZ.out.atBox 0 rfl)) rfl ⟨_, _, _, rfl, DskV.nil _ _ _, AZ.out.below⟩
 | true =>
 have FT := hide (HF.out.1 rfl)
 by_cases hE : 0 ≤ E ∧ E ≤ 60000
 case neg =>
  obtain rfl := FALSE.out (fun h' => hE (h'.2.2 0 (by omega)).1)
  go_enter Tryz.func7, Tryz.ntmps7
  go_wp2_with fail
  refine (C1.out _ (RP.out.below A0.out.below) (RH.out.below A0.out.below) (RB.out.below A0.out.below)).mono ?_
  rintro e w1 ⟨rfl, q⟩
  have A1 := hide (A0.out.step q)
  clear q A0
  obtain ⟨c0, c1, c2⟩ := (A1.out.atBox 1 rfl).c3
  go_wp2_with fail
  refine (C2.out _ _ _ _ _).mono ?_
  rintro e w2 ⟨rfl, q⟩
  have A2 := hide (A1.out.step q)
  clear q A1 c0 c1 c2
  go_wp2_with fail
  refine (l1In_no _ _ _ _ (by omega)).mono ?_
  rintro e w3 ⟨rfl, rfl⟩
  obtain ⟨d0, d1, d2⟩ := (A2.out.atBox 0 rfl).c3
  have g0 := (A2.out.atBox 0 rfl).frozen 0
  have g1 := (A2.out.atBox 0 rfl).frozen 1
  have g2 := (A2.out.atBox 0 rfl).frozen 2
  have AZ := hide (A2.out.store3 0 rfl (.slice none 0 0) (.slice none 0 0) (.slice none 0 0))
  go_wp2
  exact bodyPost_ret (res_dsk2 rfl _ _ (w.heap.size + 1) _ _ _ (0, 0) rfl (AZ.out.atBox 0 rfl)) rfl ⟨_, _, _, rfl, DskV.nil _ _ _, AZ.out.below⟩
 by_cases h47 : S.size ≤ 47
 case neg =>
  obtain rfl := FALSE.out (fun h' => h47 h'.1)
  have h' : (47 : Int) < (S.size : Int) := by omega
  go_enter Tryz.func7, Tryz.ntmps7
  go_wp2_with fail
  refine (C1.out _ (RP.out.below A0.out.below) (RH.out.below A0.out.below) (RB.out.below A0.out.below)).mono ?_
  rintro e w1 ⟨rfl, q⟩
  have A1 := hide (A0.out.step q)
  clear q A0
  obtain ⟨c0, c1, c2⟩ := (A1.out.atBox 1 rfl).c3
  go_wp2_with fail
  refine (C2.out _ _ _ _ _).mono ?_
  rintro e w2 ⟨rfl, q⟩
  have A2 := hide (A1.out.step q)
  clear q A1 c0 c1 c2
  go_wp2_with fail
  refine (l1In_yes _ _ _ _ (by omega) (by omega)).mono ?_
  rintro e w3 ⟨rfl, rfl⟩
  obtain ⟨d0, d1, d2⟩ := (A2.out.atBox 0 rfl).c3
  have g0 := (A2.out.atBox 0 rfl).frozen 0
  have g1 := (A2.out.atBox 0 rfl).frozen 1
  have g2 := (A2.out.atBox 0 rfl).frozen 2
  have AZ := hide (A2.out.store3 0 rfl (.slice none 0 0) (.slice none 0 0) (.slice none 0 0))
  go_wp2
  exact bodyPost_ret (res_dsk2 rfl _ _ (w.heap.size + 1) _ _ _ (0, 0) rfl (AZ.out.atBox 0 rfl)) rfl ⟨_, _, _, rfl, DskV.nil _ _ _, AZ.out.below⟩
 obtain ⟨a, rfl⟩ : ∃ a : Nat, A = (a : Int) := ⟨A.toNat, by have := FT.out.1; omega⟩
 have ha5 : a + 5 ≤ P.length := by have := FT.out.2; omega
 have OK3 : Hid (ok = true ↔ wOk B a E ks5 5) := by
  show _ ↔ _
  rw [HOK.out]
  unfold wsOk
  rw [Int.toNat_natCast]
  exact ⟨fun h => h.2.2, fun h => ⟨h47, ⟨GK.out, FT.out⟩, h⟩⟩
 have C3 := hide (fun W h1 h2 h3 => l7Own_calls (.slice ap P.length cp) (.slice ah H.length ch) (.slice ab B.length cb) P H B W h1 h2 h3 ⟨by omega, n24⟩ (by rw [GK.out.2.1]; omega) (by rw [GK.out.2.2.1]; omega))
 have C4 := hide (fun W => l8Pieces_calls S W h47)
 have PC := hide (pcN_ci h47)
 have PO := hide (pcN_ok h47)
 have PL := hide (pcN_length S)
 have EH : Hid (wsH H (a : Int) E S = wrTo H a E (pcN S) ks5 5) := by show wrTo H (a : Int).toNat E (pcN S) ks5 5 = _; rw [Int.toNat_natCast]
 rw [EH.out]
 have S28 := hide GK.out.2.2.2.1
 have LH := hide GK.out.2.1
 have LB := hide GK.out.2.2.1
 generalize pcN S = m at *
 have h47' : ¬ (47 : Int) < (S.size : Int) := by omega
 have WL : Hid (∀ k, (wrTo H a E m ks5 k).length = P.length) := fun k => by rw [wrTo_length]; exact LH.out
 generalize hnp : P.length = np at *
 generalize hnh : H.length = nh at *
 generalize hnb : B.length = nb at *
 have NP := hide hnp
 have NB := hide hnb
 clear HOK HF FT EH FALSE HG hnp hnh hnb
 go_enter Tryz.func7, Tryz.ntmps7
 go_wp2_with fail
 refine (C1.out _ (RP.out.below A0.out.below) (RH.out.below A0.out.below) (RB.out.below A0.out.below)).mono ?_
 rintro e w1 ⟨rfl, q⟩
 have A1 := hide (A0.out.step q)
 clear q A0
 obtain ⟨c0, c1, c2⟩ := (A1.out.atBox 1 rfl).c3
 go_wp2_with fail
 refine (C2.out _ _ _ _ _).mono ?_
 rintro e w2 ⟨rfl, q⟩
 have A2 := hide (A1.out.step q)
 clear q A1 c0 c1 c2
 go_wp2_with fail
 refine (l1In_yes _ _ _ _ (by omega) (by omega)).mono ?_
 rintro e w3 ⟨rfl, rfl⟩
 obtain ⟨c0, c1, c2⟩ := (A2.out.atBox 1 rfl).c3
 go_wp2_with fail
 refine (C3.out _ (RP.out.below A2.out.below) (RH.out.below A2.out.below) (RB.out.below A2.out.below)).mono ?_
 rintro e w4 ⟨p4, h4, b4, rfl, d4, q⟩
 obtain ⟨ap4, cp4, ah4, ch4, ab4, cb4, e1, e2, e3⟩ := d4.sl
 rw [NP.out] at e1
 rw [show H.length = np by have := WL.out 0; exact this] at e2
 rw [NB.out, LB.out] at e3
 subst e1
 subst e2
 subst e3
 have A3 := hide ((A2.out.add q (TDsk.st _ _ _ _ _ _) d4).box #[.slice ap4 np cp4, .slice ah4 np ch4, .slice ab4 np cb4] 26)
 clear q d4 A2 c0 c1 c2
 obtain ⟨go, hgo⟩ : ∃ g, g = w4.heap.size := ⟨_, rfl⟩
 rw [← hgo] at A3
 have HGO := hide hgo
 clear hgo
 go_wp2_with fail
 refine (C4.out _).mono ?_
 rintro e w5 ⟨v5, rfl, m5, q⟩
 rw [← PC.out] at m5
 have A4 := hide (A3.out.add q (TMat.st v5 (m.map ci)) m5)
 have RM := m5.rd
 obtain ⟨am, cm, hvm, _⟩ := RM
 rw [List.length_map, PL.out] at hvm
 subst hvm
 clear q m5 A3
 go_wp2
 rw [← HGO.out]
 go_loopw [11, 12, 13, 14, 40] (fun _ _ _ _ vi wr => ∃ k : Nat, k ≤ 5 ∧ vi = .int .i64 k ∧ Hand w wr [TMat (.slice am 5 cm) (m.map ci), TBox go #[.slice ap4 np cp4, .slice ah4 np ch4, .slice ab4 np cb4] 26, TDsk (.slice ap4 np cp4) (.slice ah4 np ch4) (.slice ab4 np cb4) P (wrTo H a E m ks5 k) B, TBox (w.heap.size + 1) nil3 26, TBox w.heap.size #[.slice ap np cp, .slice ah nh ch, .slice ab nb cb] 26] ∧ wOk B a E ks5 k) (fun _ _ _ _ vi _ => 5 - (intOf vi).toNat)
 case atStart => exact ⟨0, Nat.zero_le _, rfl, A4.out, fun j hj => by omega⟩
 case round =>
  clear A4
  obtain ⟨k, hk, rfl, hH, hw⟩ := hrel
  have AH := hide hH
  have WO := hide hw
  clear hH hw
  by_cases hlt : k < 5
  ·have hlt' : (k : Int) < 5 := by omega
   obtain ⟨y1, y2, mm⟩ := AH.out.get 0 rfl
   obtain ⟨mb, mo, u, hma, _, hmc, hu⟩ := mm.rd.rowAt k (by rw [List.length_map, PL.out]; exact hlt)
   subst hma
   obtain ⟨r1, r2⟩ := PO.out k hlt
   have hmg : (m.map ci).getD k [] = ci (m.getD k []) := by
    simp only [qg]
    rw [List.getElem?_map, List.getElem?_eq_getElem (by rw [PL.out]; exact hlt)]
    rfl
   rw [hmg] at hu
   have U := hide hu
   obtain ⟨ua, uc, hu2, _⟩ := hu
   rw [Gf.ci_length, r1] at hu2
   subst hu2
   have WS : Hid (wrTo H a E m ks5 (k + 1) = (wrTo H a E m ks5 k).set (a + k) (scT (a + k) E (m.getD k []))) := by
    show (wrTo H a E m ks5 k).set (a + ks5.getD k 0) (scT (a + ks5.getD k 0) E (m.getD (ks5.getD k 0) [])) = _
    rw [ks5_get k hlt]
   have WK : Hid (∀ hh : B.getD (a + k) false = false, wOk B a E ks5 (k + 1)) := fun hh j hj => by
    by_cases e : j = k
    ·subst e
     rw [ks5_get j hlt]
     exact ⟨hE, hh⟩
    ·exact WO.out j (by omega)
   have WN : Hid (ok = true → B.getD (a + k) false = false) := fun e => by
    have := (OK3.out.1 e k hlt).2
    rw [ks5_get k hlt] at this
    exact this
   have LW := hide (WL.out k)
   obtain ⟨c0, c1, c2⟩ := (AH.out.atBox 1 rfl).c3
   obtain ⟨lo, hi, d3, lw, hw3, put⟩ := AH.out.open 2 rfl
   have D3 : Hid (DskV wr lo hi (.slice ap4 np cp4) (.slice ah4 np ch4) (.slice ab4 np cb4) P (wrTo H a E m ks5 k) B) := d3
   have PUT := hide put
   obtain ⟨y, hy⟩ : ∃ y : Bool, y = true ↔ B.getD (a + k) false = false := by
    cases B.getD (a + k) false
    ·exact ⟨true, by simp⟩
    ·exact ⟨false, by simp⟩
   have E5 : Hid ((a : Int) + (k : Int) = ((a + k : Nat) : Int)) := by show _ = _; omega
   have C5 := hide (l8Put_calls (.slice ap4 np cp4) (.slice ah4 np ch4) (.slice ab4 np cb4) P (wrTo H a E m ks5 k) B (a + k) E (.slice ua 16 uc) (m.getD k []) lo hi np y wr D3.out hw3 NP.out LW.out (by rw [NB.out, LB.out]) ⟨by omega, by omega⟩ (by omega) hE U.out r1 r2 hy (fun i hi => S28.out i (by rw [← NP.out]; exact hi)))
   generalize wrTo H a E m ks5 k = Hk at *
   generalize scT (a + k) E (m.getD k []) = TT at *
   clear d3 put mm y1 y2 hmg r1 r2
   go_wp2_with fail
   rw [E5.out]
   refine C5.out.mono ?_
   rintro e w6 ⟨rfl, sp1, sp2⟩
   cases y with
   | true =>
    have A5 := hide ((PUT.out w6 (TDsk (.slice ap4 np cp4) (.slice ah4 np ch4) (.slice ab4 np cb4) P (Hk.set (a + k) TT) B) (TDsk.st _ _ _ _ _ _) (sp1 rfl) sp2).step (below_box w6 (.cells #[.slice ap4 np cp4, .slice ah4 np ch4, .slice ab4 np cb4] 26)))
    have WKK := hide (WK.out (hy.1 rfl))
    obtain ⟨x0, x1, x2⟩ := (BoxAt.new w6 #[.slice ap4 np cp4, .slice ah4 np ch4, .slice ab4 np cb4] 26).c3
    obtain ⟨d0, d1, d2⟩ := (A5.out.atBox 1 rfl).c3
    have g0 := (A5.out.atBox 1 rfl).frozen 0
    have g1 := (A5.out.atBox 1 rfl).frozen 1
    have g2 := (A5.out.atBox 1 rfl).frozen 2
    have AZ := hide (A5.out.store3 1 rfl (.slice ap4 np cp4) (.slice ah4 np ch4) (.slice ab4 np cb4))
    clear sp1 sp2 PUT D3 C5 AH c0 c1 c2 hw3 lw hy WK WN U A5 hmc
    go_wp2
    go_roundw
    case rel =>
     refine ⟨k + 1, by omega, by go_num, ?_, WKK.out⟩
     rw [WS.out]
     exact AZ.out
    case measure => simp [intOf]; omega
   | false =>
    have okf : ok = false := by
     cases ok with
     | false => rfl
     | true => have := hy.2 (WN.out rfl); simp at this
    subst okf
    have A5 := hide ((PUT.out w6 (fun _ _ _ => True) (fun _ _ _ _ _ _ _ _ _ => trivial) trivial sp2).step (below_box w6 (.cells #[.slice ap4 np cp4, .slice ah4 np ch4, .slice ab4 np cb4] 26)))
    clear sp1 sp2 PUT D3 C5 AH c0 c1 c2 hw3 lw hy WK WN U hmc
    obtain ⟨d0, d1, d2⟩ := (A5.out.atBox 3 rfl).c3
    have g0 := (A5.out.atBox 3 rfl).frozen 0
    have g1 := (A5.out.atBox 3 rfl).frozen 1
    have g2 := (A5.out.atBox 3 rfl).frozen 2
    have AZ := hide (A5.out.store3 3 rfl (.slice none 0 0) (.slice none 0 0) (.slice none 0 0))
    go_wp2
    exact bodyPost_ret (res_dsk2 rfl _ _ (w.heap.size + 1) _ _ _ (0, 0) rfl (AZ.out.atBox 3 rfl)) rfl ⟨_, _, _, rfl, DskV.nil _ _ _, AZ.out.below⟩
  ·obtain rfl : k = 5 := by omega
   have okt : ok = true := OK3.out.2 WO.out
   subst okt
   obtain ⟨c0, c1, c2⟩ := (AH.out.atBox 1 rfl).c3
   obtain ⟨d0, d1, d2⟩ := (AH.out.atBox 3 rfl).c3
   have g0 := (AH.out.atBox 3 rfl).frozen 0
   have g1 := (AH.out.atBox 3 rfl).frozen 1
   have g2 := (AH.out.atBox 3 rfl).frozen 2
   have AZ := hide (AH.out.store3 3 rfl (.slice ap4 np cp4) (.slice ah4 np ch4) (.slice ab4 np cb4))
   go_wp2
   obtain ⟨lo, hi, d3, lw, hw3, _⟩ := AZ.out.open 2 rfl
   have D3 : DskV _ lo hi (.slice ap4 np cp4) (.slice ah4 np ch4) (.slice ab4 np cb4) P (wrTo H a E m ks5 5) B := d3
   exact bodyPost_ret (res_dsk2 rfl _ _ (w.heap.size + 1) _ _ _ (0, 0) rfl (AZ.out.atBox 3 rfl)) rfl ⟨_, _, _, rfl, D3.wider lw hw3, AZ.out.below⟩
end Go.Proofs.YthdbacihhmilbaaGreatDoor

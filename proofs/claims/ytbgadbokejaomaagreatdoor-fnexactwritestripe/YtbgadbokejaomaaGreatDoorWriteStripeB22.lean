/-
  A step done on a disk of the call's own: the model's l7Step as a whole. The contract says what it asks. WriteStripe: the program's and its model's, at every disk, numbers and text. The program's table of rests must hold its seven numbers where the program's own functions are called. A piece put into its sector by the model: l8Put. The contract says what it asks.
-/
import Derived.Test.YtbgadbokejaomaaGreatDoorWriteStripeB21
import Derived.Test.YtbgadbokejaomaaGreatDoorWriteStripeB19
import Derived.Test.YtbgadbokejaomaaGreatDoorWriteStripeB20
import Derived.Test.YtbgadbokejaomaaGreatDoorWriteStripeB9
namespace Go.Proofs.YtbgadbokejaomaaGreatDoor
open Go.RowKit
set_option linter.unusedVariables false

set_option linter.unusedSimpArgs false in
set_option maxRecDepth 100000 in
set_option maxHeartbeats 1600000 in
theorem l7Step_calls (p h b vk : Value) (P H : List ByteArray) (B : List Bool) (K A : Int) (T : ByteArray) (ks : List Int) (lo hi n : Nat) (ok : Bool) (w : World) (d : DskV w lo hi p h b P H B) (hhi : hi ≤ w.heap.size) (hP : P.length = n) (hH : H.length = n) (hB : B.length = n) (hn : 0 < n ∧ n ≤ 24) (kv : ∀ w', Chg lo hi w w' → Rd w' vk ks)
    (hok : ok = true ↔ stOk P H B n K A T ks) (hT : T.size ≤ 1048576) (h28 : ∀ i, i < P.length → (P.getD i ⟨#[]⟩).size ≤ 28) :
    Calls Tryz.prog 89 #[.agg #[p, h, b], .agg #[.int .i64 K, .int .i64 A, .string T, vk]] w fun e w' => e = .returned (.tuple #[.agg #[p, h, b], .bool ok]) ∧ StepPost lo hi p h b P H B n K A T ks ok w w' := by
  have inn : (0 ≤ A ∧ A < (n : Int)) → ∃ k : Nat, A = (k : Int) ∧ k < n := fun h => ⟨A.toNat, by omega, by omega⟩
  have no : ¬ stOk P H B n K A T ks → ok = false := fun h => by
    cases ok with
    | false => rfl
    | true => exact absurd (hok.1 rfl) h
  by_cases hK2 : K = 2
  · subst hK2
    by_cases hA : A = 0
    case neg =>
      obtain rfl := no (by
        rintro (⟨a,b,c,e⟩|⟨a,b,c,e⟩|⟨a,b,c,e⟩|⟨a,b,c,e⟩|⟨a,b,c,e⟩|⟨a,b,c,e⟩) <;> first | omega | contradiction | exact absurd e.2 h1 | (exfalso; simp_all [hoOk, roOk]; done) | (exfalso; simp_all [roOk]; omega))
      exact (s_at2 p h b vk P H B lo hi n A T ks w d hhi hP hH hB hn kv hA).mono fun e w' ⟨h1, h2, h3⟩ => ⟨h1, fun h => by simp at h, h3⟩
    subst hA
    by_cases hTe : T = ⟨#[]⟩
    case neg =>
      obtain rfl := no (by
        rintro (⟨a,b,c,e⟩|⟨a,b,c,e⟩|⟨a,b,c,e⟩|⟨a,b,c,e⟩|⟨a,b,c,e⟩|⟨a,b,c,e⟩) <;> first | omega | contradiction | exact absurd e.2 h1 | (exfalso; simp_all [hoOk, roOk]; done) | (exfalso; simp_all [roOk]; omega))
      exact (s_text2 p h b vk P H B lo hi n T ks w d hhi hP hH hB hn kv hTe).mono fun e w' ⟨h1, h2, h3⟩ => ⟨h1, fun h => by simp at h, h3⟩
    subst hTe
    by_cases hks : ks = []
    case neg =>
      obtain rfl := no (by
        rintro (⟨a,b,c,e⟩|⟨a,b,c,e⟩|⟨a,b,c,e⟩|⟨a,b,c,e⟩|⟨a,b,c,e⟩|⟨a,b,c,e⟩) <;> first | omega | contradiction | exact absurd e.2 h1 | (exfalso; simp_all [hoOk, roOk]; done) | (exfalso; simp_all [roOk]; omega))
      exact (s_kept2 p h b vk P H B lo hi n ks w d hhi hP hH hB hn kv hks).mono fun e w' ⟨h1, h2, h3⟩ => ⟨h1, fun h => by simp at h, h3⟩
    subst hks
    obtain rfl : ok = true := hok.2 (.inr (.inl ⟨rfl, rfl, rfl, rfl⟩))
    exact s_sync p h b vk P H B lo hi n  w d hhi hP hH hB hn kv 
  by_cases hK3 : K = 3
  · subst hK3
    by_cases hA : A = 0
    case neg =>
      obtain rfl := no (by
        rintro (⟨a,b,c,e⟩|⟨a,b,c,e⟩|⟨a,b,c,e⟩|⟨a,b,c,e⟩|⟨a,b,c,e⟩|⟨a,b,c,e⟩) <;> first | omega | contradiction | exact absurd e.2 h1 | (exfalso; simp_all [hoOk, roOk]; done) | (exfalso; simp_all [roOk]; omega))
      exact (s_at3 p h b vk P H B lo hi n A T ks w d hhi hP hH hB hn kv hA).mono fun e w' ⟨h1, h2, h3⟩ => ⟨h1, fun h => by simp at h, h3⟩
    subst hA
    by_cases hTe : T = ⟨#[]⟩
    case neg =>
      obtain rfl := no (by
        rintro (⟨a,b,c,e⟩|⟨a,b,c,e⟩|⟨a,b,c,e⟩|⟨a,b,c,e⟩|⟨a,b,c,e⟩|⟨a,b,c,e⟩) <;> first | omega | contradiction | exact absurd e.2 h1 | (exfalso; simp_all [hoOk, roOk]; done) | (exfalso; simp_all [roOk]; omega))
      exact (s_text3 p h b vk P H B lo hi n T ks w d hhi hP hH hB hn kv hTe).mono fun e w' ⟨h1, h2, h3⟩ => ⟨h1, fun h => by simp at h, h3⟩
    subst hTe
    exact s_crash p h b vk P H B lo hi n ks ok w d hhi hP hH hB hn kv (by
      rw [hok]
      unfold stOk
      simp)
  by_cases hA : 0 ≤ A ∧ A < (n : Int)
  case neg =>
    obtain rfl := no (by
      rintro (⟨a,b,c,e⟩|⟨a,b,c,e⟩|⟨a,b,c,e⟩|⟨a,b,c,e⟩|⟨a,b,c,e⟩|⟨a,b,c,e⟩) <;> first | omega | contradiction | exact absurd e.2 h1 | (exfalso; simp_all [hoOk, roOk]; done) | (exfalso; simp_all [roOk]; omega))
    exact (s_out p h b vk P H B lo hi n K A T ks w d hhi hP hH hB hn kv hK2 hK3 hA).mono fun e w' ⟨h1, h2, h3⟩ => ⟨h1, fun h => by simp at h, h3⟩
  obtain ⟨k, rfl, hk⟩ := inn hA
  by_cases hks : ks = []
  case neg =>
    obtain rfl := no (by
      rintro (⟨a,b,c,e⟩|⟨a,b,c,e⟩|⟨a,b,c,e⟩|⟨a,b,c,e⟩|⟨a,b,c,e⟩|⟨a,b,c,e⟩) <;> first | omega | contradiction | exact absurd e.2 h1 | (exfalso; simp_all [hoOk, roOk]; done) | (exfalso; simp_all [roOk]; omega))
    exact (s_more p h b vk P H B lo hi n K k T ks w d hhi hP hH hB hn kv hK2 hK3 hk hks).mono fun e w' ⟨h1, h2, h3⟩ => ⟨h1, fun h => by simp at h, h3⟩
  subst hks
  by_cases hK1 : K = 1
  · subst hK1
    by_cases hBk : B.getD k false = true
    · obtain rfl := no (by
        rintro (⟨a,b,c,e⟩|⟨a,b,c,e⟩|⟨a,b,c,e⟩|⟨a,b,c,e⟩|⟨a,b,c,e⟩|⟨a,b,c,e⟩) <;> first | omega | contradiction | exact absurd e.2 h1 | (exfalso; simp_all [hoOk, roOk]; done) | (exfalso; simp_all [roOk]; omega))
      exact (s_1a p h b vk P H B lo hi n k T w d hhi hP hH hB hn kv hk hBk).mono fun e w' ⟨h1, h2, h3⟩ => ⟨h1, fun h => by simp at h, h3⟩
    have hBk : B.getD k false = false := by simpa using hBk
    by_cases h1 : 1 ≤ T.size ∧ T.size ≤ 28
    case neg =>
      obtain rfl := no (by
        rintro (⟨a,b,c,e⟩|⟨a,b,c,e⟩|⟨a,b,c,e⟩|⟨a,b,c,e⟩|⟨a,b,c,e⟩|⟨a,b,c,e⟩) <;> first | omega | contradiction | exact absurd e.2 h1 | (exfalso; simp_all [hoOk, roOk]; done) | (exfalso; simp_all [roOk]; omega))
      exact (s_1b p h b vk P H B lo hi n k T w d hhi hP hH hB hn kv hk hBk hT h1).mono fun e w' ⟨h1, h2, h3⟩ => ⟨h1, fun h => by simp at h, h3⟩
    obtain rfl : ok = true := hok.2 (.inl ⟨rfl, rfl, hA, hBk, h1.1, h1.2⟩)
    exact s_1c p h b vk P H B lo hi n k T w d hhi hP hH hB hn kv hk hBk h1.1 h1.2
  by_cases hK4 : K = 4
  · subst hK4
    by_cases hz : H.getD k ⟨#[]⟩ = ⟨#[]⟩
    case neg =>
      obtain rfl := no (by
        rintro (⟨a,b,c,e⟩|⟨a,b,c,e⟩|⟨a,b,c,e⟩|⟨a,b,c,e⟩|⟨a,b,c,e⟩|⟨a,b,c,e⟩) <;> first | omega | contradiction | exact absurd e.2 h1 | (exfalso; simp_all [hoOk, roOk]; done) | (exfalso; simp_all [roOk]; omega))
      exact (s_4a p h b vk P H B lo hi n k T w d hhi hP hH hB hn kv hk hz).mono fun e w' ⟨h1, h2, h3⟩ => ⟨h1, fun h => by simp at h, h3⟩
    by_cases h1 : 1 ≤ T.size ∧ T.size ≤ (P.getD k ⟨#[]⟩).size
    case neg =>
      by_cases hs : P.getD k ⟨#[]⟩ = ⟨#[]⟩
      · obtain rfl := no (by
          rintro (⟨a,b,c,e⟩|⟨a,b,c,e⟩|⟨a,b,c,e⟩|⟨a,b,c,e⟩|⟨a,b,c,e⟩|⟨a,b,c,e⟩) <;> first | omega | contradiction | exact absurd e.2 h1 | (exfalso; simp_all [hoOk, roOk]; done) | (exfalso; simp_all [roOk]; omega))
        exact (s_4b p h b vk P H B lo hi n k T w d hhi hP hH hB hn kv hk hz hs).mono fun e w' ⟨h1, h2, h3⟩ => ⟨h1, fun h => by simp at h, h3⟩
      · obtain rfl := no (by
          rintro (⟨a,b,c,e⟩|⟨a,b,c,e⟩|⟨a,b,c,e⟩|⟨a,b,c,e⟩|⟨a,b,c,e⟩|⟨a,b,c,e⟩) <;> first | omega | contradiction | exact absurd e.2 h1 | (exfalso; simp_all [hoOk, roOk]; done) | (exfalso; simp_all [roOk]; omega))
        exact (s_4c p h b vk P H B lo hi n k T w d hhi hP hH hB hn kv hk hz hs hT (h28 k (by omega)) h1).mono fun e w' ⟨h1, h2, h3⟩ => ⟨h1, fun h => by simp at h, h3⟩
    obtain rfl : ok = true := hok.2 (.inr (.inr (.inr (.inl ⟨rfl, rfl, hA, hz, h1.1, h1.2⟩))))
    exact s_4 p h b vk P H B lo hi n k T w d hhi hP hH hB hn kv hk hz (h28 k (by omega)) h1.1 h1.2
  by_cases hK5 : K = 5
  · subst hK5
    by_cases hTe : T = ⟨#[]⟩
    case neg =>
      obtain rfl := no (by
        rintro (⟨a,b,c,e⟩|⟨a,b,c,e⟩|⟨a,b,c,e⟩|⟨a,b,c,e⟩|⟨a,b,c,e⟩|⟨a,b,c,e⟩) <;> first | omega | contradiction | exact absurd e.2 h1 | (exfalso; simp_all [hoOk, roOk]; done) | (exfalso; simp_all [roOk]; omega))
      exact (s_5T p h b vk P H B lo hi n k T w d hhi hP hH hB hn kv hk hTe).mono fun e w' ⟨h1, h2, h3⟩ => ⟨h1, fun h => by simp at h, h3⟩
    subst hTe
    obtain rfl : ok = true := hok.2 (.inr (.inr (.inr (.inr (.inl ⟨rfl, rfl, rfl, hA⟩)))))
    exact s_5 p h b vk P H B lo hi n k w d hhi hP hH hB hn kv hk
  by_cases hK6 : K = 6
  · subst hK6
    by_cases hTe : T = ⟨#[]⟩
    case neg =>
      obtain rfl := no (by
        rintro (⟨a,b,c,e⟩|⟨a,b,c,e⟩|⟨a,b,c,e⟩|⟨a,b,c,e⟩|⟨a,b,c,e⟩|⟨a,b,c,e⟩) <;> first | omega | contradiction | exact absurd e.2 h1 | (exfalso; simp_all [hoOk, roOk]; done) | (exfalso; simp_all [roOk]; omega))
      exact (s_6T p h b vk P H B lo hi n k T w d hhi hP hH hB hn kv hk hTe).mono fun e w' ⟨h1, h2, h3⟩ => ⟨h1, fun h => by simp at h, h3⟩
    subst hTe
    by_cases hBk : B.getD k false = true
    case neg =>
      have hBk : B.getD k false = false := by simpa using hBk
      obtain rfl := no (by
        rintro (⟨a,b,c,e⟩|⟨a,b,c,e⟩|⟨a,b,c,e⟩|⟨a,b,c,e⟩|⟨a,b,c,e⟩|⟨a,b,c,e⟩) <;> first | omega | contradiction | exact absurd e.2 h1 | (exfalso; simp_all [hoOk, roOk]; done) | (exfalso; simp_all [roOk]; omega))
      exact (s_6a p h b vk P H B lo hi n k w d hhi hP hH hB hn kv hk hBk).mono fun e w' ⟨h1, h2, h3⟩ => ⟨h1, fun h => by simp at h, h3⟩
    obtain rfl : ok = true := hok.2 (.inr (.inr (.inr (.inr (.inr ⟨rfl, rfl, rfl, hA, hBk⟩)))))
    exact s_6 p h b vk P H B lo hi n k w d hhi hP hH hB hn kv hk hBk
  obtain rfl := no (by
    rintro (⟨a,b,c,e⟩|⟨a,b,c,e⟩|⟨a,b,c,e⟩|⟨a,b,c,e⟩|⟨a,b,c,e⟩|⟨a,b,c,e⟩) <;> first | omega | contradiction | exact absurd e.2 h1 | (exfalso; simp_all [hoOk, roOk]; done) | (exfalso; simp_all [roOk]; omega))
  exact (s_other p h b vk P H B lo hi n K k T w d hhi hP hH hB hn kv hK1 hK2 hK3 hK4 hK5 hK6 hk).mono fun e w' ⟨h1, h2, h3⟩ => ⟨h1, fun h => by simp at h, h3⟩
end Go.Proofs.YtbgadbokejaomaaGreatDoor

namespace Go.Proofs.YtbgadbokejaomaaGreatDoor
open Go.RowKit
open Gf (ci nat)
set_option linter.unusedVariables false

def ks5 : List Nat := [0, 1, 2, 3, 4]
theorem ks5_get (j : Nat) (h : j < 5) : ks5.getD j 0 = j := by
  match j, h with
  | 0, _ => rfl
  | 1, _ => rfl
  | 2, _ => rfl
  | 3, _ => rfl
  | 4, _ => rfl
/-- The pieces of a text, as numbers. -/
def pcN (S : ByteArray) : List (List Nat) := (mulM (codeM 3 2) (datM S)).map nat
theorem pcN_row {S : ByteArray} (h : S.size ≤ 47) (i : Nat) (hi : i < 5) : ∃ X : List Nat, (mulM (codeM 3 2) (datM S)).getD i [] = ci X ∧ X.length = 16 ∧ ∀ x ∈ X, x < 256 := by
  refine ⟨_, mulM_get _ _ i (by rw [codeM_length]; omega), ?_, ?_⟩
  · rw [mulRow_length, datM_get S 0 (by omega), Gf.ci_length, rowN_length h 0 (by omega)]
  · have := mulRow_lt (b := (datM S).map nat) (l := ((datM S).getD 0 []).length) (r := nat ((codeM 3 2).getD i [])) (Gf.nat_lt (codeM_rows 3 2 i (by rw [codeM_length]; omega)).2) ((codeM 3 2).getD i []).length
    intro x hx
    obtain ⟨j, hj, rfl⟩ := List.getElem_of_mem hx
    have h2 := this j
    rw [List.getD_eq_getElem?_getD, List.getElem?_eq_getElem hj, Option.getD_some] at h2
    exact h2
theorem nat_ci' (l : List Nat) : nat (ci l) = l := by simp [nat, ci, Function.comp_def]
theorem pcN_length (S : ByteArray) : (pcN S).length = 5 := by unfold pcN; rw [List.length_map, mulM_length, codeM_length]
theorem pcN_get {S : ByteArray} (i : Nat) (hi : i < 5) : (pcN S).getD i [] = nat ((mulM (codeM 3 2) (datM S)).getD i []) := by
  unfold pcN
  simp only [List.getD_eq_getElem?_getD]
  rw [List.getElem?_map, List.getElem?_eq_getElem (by rw [mulM_length, codeM_length]; omega)]
  rfl
theorem pcN_ok {S : ByteArray} (h : S.size ≤ 47) : ∀ i, i < 5 → ((pcN S).getD i []).length = 16 ∧ ∀ x ∈ (pcN S).getD i [], x < 256 := by
  intro i hi
  obtain ⟨X, e, h1, h2⟩ := pcN_row h i hi
  rw [pcN_get i hi, e, nat_ci']
  exact ⟨h1, h2⟩
theorem pcN_ci {S : ByteArray} (h : S.size ≤ 47) : (pcN S).map ci = mulM (codeM 3 2) (datM S) := by
  apply List.ext_getElem
  · rw [List.length_map, pcN_length, mulM_length, codeM_length]
  · intro i h1 h2
    have hi : i < 5 := by rw [List.length_map, pcN_length] at h1; exact h1
    obtain ⟨X, e, _, _⟩ := pcN_row h i hi
    have e1 := pcN_get (S := S) i hi
    rw [e, nat_ci'] at e1
    rw [List.getElem_map]
    rw [List.getD_eq_getElem?_getD, List.getElem?_eq_getElem h2, Option.getD_some] at e
    rw [List.getD_eq_getElem?_getD, List.getElem?_eq_getElem (by rw [pcN_length]; exact hi), Option.getD_some] at e1
    rw [e1, e]
def wsOk (P H : List ByteArray) (B : List Bool) (A E : Int) (S : ByteArray) : Prop := S.size ≤ 47 ∧ (gkP P H B ∧ ftP P A) ∧ wOk B A.toNat E ks5 5
theorem ws_bool (P H : List ByteArray) (B : List Bool) (A E : Int) (S : ByteArray) : ∃ ok : Bool, ok = true ↔ wsOk P H B A E S := by
  by_cases h : wsOk P H B A E S
  · exact ⟨true, by simp [h]⟩
  · exact ⟨false, by simp [h]⟩
def wsH (H : List ByteArray) (A E : Int) (S : ByteArray) : List ByteArray := wrTo H A.toNat E (pcN S) ks5 5

set_option linter.unusedSimpArgs false in
set_option maxRecDepth 100000 in
set_option maxHeartbeats 3200000 in
theorem writeStripe_calls (p h b : Value) (P H : List ByteArray) (B : List Bool) (A E : Int) (S : ByteArray) (ok : Bool) (w : World) (hT : Gf.Tab w) (hok : ok = true ↔ wsOk P H B A E S) (hwf : (Lit.int .i64 A).wf = true) (hS : S.size ≤ maxLen) (hp : RdT w p P) (hh : RdT w h H) (hb : RdZ w b B) :
    Calls Tryz.prog 49 #[.agg #[p, h, b], .int .i64 A, .int .i64 E, .string S] w fun e w' => ∃ p' h' b', e = .returned (.tuple #[.agg #[p', h', b'], .bool ok]) ∧ DskV w' w.heap.size w'.heap.size p' h' b' (ifT ok P) (ifT ok (wsH H A E S)) (ifT ok B) ∧ Below w.heap.size w w' := by
  have RP := hide hp
  have RH := hide hh
  have RB := hide hb
  have T := hide hT
  have HOK := hide hok
  obtain ⟨f, hf⟩ := ft_bool P H B A
  have HF := hide hf
  have C1 := hide (fun W h => piecesFor_calls S W h hS)
  have C2 := hide (fun W h1 h2 h3 => liesOn_calls p h b P H B A f W hf hwf h1 h2 h3)
  have A0 : Hid (Hand w ((w.alloc (.cells #[p, h, b] 26)).alloc (.cells nil3 26)) [TBox (w.heap.size + 1) nil3 26, TBox w.heap.size #[p, h, b] 26]) := by
    show Hand _ _ _
    have := ((Hand.start w).box #[p, h, b] 26).box nil3 26
    simpa using this
  clear hp hh hb hT hok hf hwf
  by_cases h47 : S.size ≤ 47
  case neg =>
    have okf : ok = false := by
      cases ok with
      | false => rfl
      | true => exact absurd (HOK.out.1 rfl).1 h47
    subst okf
    have e : pfR S = ([], false) := if_neg h47
    rw [e] at C1
    clear e
    go_enter Tryz.func49, Tryz.ntmps49
    go_wp2_with fail
    refine (C1.out _ (Gf.Tab.below T.out A0.out.below)).mono ?_
    rintro e w1 ⟨v1, rfl, m1, q⟩
    have A1 := hide (A0.out.step q)
    clear q A0 m1
    obtain ⟨d0, d1, d2⟩ := (A1.out.atBox 0 rfl).c3
    have g0 := (A1.out.atBox 0 rfl).frozen 0
    have g1 := (A1.out.atBox 0 rfl).frozen 1
    have g2 := (A1.out.atBox 0 rfl).frozen 2
    have AZ := hide (A1.out.store3 0 rfl (.slice none 0 0) (.slice none 0 0) (.slice none 0 0))
    go_wp2
    exact bodyPost_ret (res_dsk2 rfl _ _ (w.heap.size + 1) _ _ _ (0, 0) rfl (AZ.out.atBox 0 rfl)) rfl ⟨_, _, _, rfl, DskV.nil _ _ _, AZ.out.below⟩
  have e : pfR S = (mulM (codeM 3 2) (datM S), true) := if_pos h47
  rw [e] at C1
  clear e
  cases f with
  | false =>
    have okf : ok = false := by
      cases ok with
      | false => rfl
      | true => have := HF.out.2 (HOK.out.1 rfl).2.1; simp at this
    subst okf
    go_enter Tryz.func49, Tryz.ntmps49
    go_wp2_with fail
    refine (C1.out _ (Gf.Tab.below T.out A0.out.below)).mono ?_
    rintro e w1 ⟨v1, rfl, m1, q⟩
    have A1 := hide (A0.out.step q)
    clear q A0 m1
    obtain ⟨c0, c1, c2⟩ := (A1.out.atBox 1 rfl).c3
    go_wp2_with fail
    refine (C2.out _ (RP.out.below A1.out.below) (RH.out.below A1.out.below) (RB.out.below A1.out.below)).mono ?_
    rintro e w2 ⟨rfl, q⟩
    have A2 := hide (A1.out.step q)
    clear q A1 c0 c1 c2
    obtain ⟨d0, d1, d2⟩ := (A2.out.atBox 0 rfl).c3
    have g0 := (A2.out.atBox 0 rfl).frozen 0
    have g1 := (A2.out.atBox 0 rfl).frozen 1
    have g2 := (A2.out.atBox 0 rfl).frozen 2
    have AZ := hide (A2.out.store3 0 rfl (.slice none 0 0) (.slice none 0 0) (.slice none 0 0))
    go_wp2
    exact bodyPost_ret (res_dsk2 rfl _ _ (w.heap.size + 1) _ _ _ (0, 0) rfl (AZ.out.atBox 0 rfl)) rfl ⟨_, _, _, rfl, DskV.nil _ _ _, AZ.out.below⟩
  | true =>
  have GK := hide (HF.out.1 rfl).1
  have FT := hide (HF.out.1 rfl).2
  obtain ⟨a, rfl⟩ : ∃ a : Nat, A = (a : Int) := ⟨A.toNat, by have := FT.out.1; omega⟩
  have ha5 : a + 5 ≤ P.length := by have := FT.out.2; omega
  have OK3 : Hid (ok = true ↔ wOk B a E ks5 ks5.length) := by
    show _ ↔ wOk B a E ks5 5
    rw [HOK.out]
    unfold wsOk
    rw [Int.toNat_natCast]
    exact ⟨fun h => h.2.2, fun h => ⟨h47, HF.out.1 rfl, h⟩⟩
  have C3 := hide (fun W => countFrom_calls 0 5 W (by omega) (by omega))
  have e5 : cnt 0 5 = ci ks5 := by decide
  rw [e5] at C3
  have C4 := hide (fun W vm vk hm hk h1 h2 h3 => writePieces_calls p h b P H B a E vm (pcN S) vk ks5 ok W GK.out ha5 hm (pcN_length S) (pcN_ok h47) hk (by decide) (fun j hj => by rw [ks5_get j hj]; exact hj) OK3.out h1 h2 h3)
  have PC := hide (pcN_ci h47)
  have EH : Hid (wsH H (a : Int) E S = wrTo H a E (pcN S) ks5 ks5.length) := by show wrTo H (a : Int).toNat E (pcN S) ks5 5 = _; rw [Int.toNat_natCast]; rfl
  rw [EH.out]
  generalize ifT ok (wrTo H a E (pcN S) ks5 ks5.length) = Y at C4
  generalize ifT ok P = X at C4
  generalize ifT ok B = Z at C4
  clear e5 HOK HF FT EH
  go_enter Tryz.func49, Tryz.ntmps49
  go_wp2_with fail
  refine (C1.out _ (Gf.Tab.below T.out A0.out.below)).mono ?_
  rintro e w1 ⟨v1, rfl, m1, q⟩
  have A1 := hide (A0.out.step q)
  rw [← PC.out] at m1
  have R1 := hide m1.rd
  clear q A0 m1
  obtain ⟨c0, c1, c2⟩ := (A1.out.atBox 1 rfl).c3
  go_wp2_with fail
  refine (C2.out _ (RP.out.below A1.out.below) (RH.out.below A1.out.below) (RB.out.below A1.out.below)).mono ?_
  rintro e w2 ⟨rfl, q⟩
  have A2 := hide (A1.out.step q)
  have R2 := hide (R1.out.below q)
  clear q A1 c0 c1 c2 R1
  go_wp2
  refine wp_region_noPanic ?_
  refine wp_region_held_drew (S := fun w' => w'.cell? ⟨w.heap.size, 0, none⟩ = some p ∧ w'.cell? ⟨w.heap.size, 1, none⟩ = some h ∧ w'.cell? ⟨w.heap.size, 2, none⟩ = some b) (by kernel_rfl) (((A2.out.step (Below.refl _ _).drew).atBox 1 rfl).c3) (fun hHeld => ?_)
  have A3 := hide (A2.out.step (Below.refl _ _).drew)
  have R3 := hide (R2.out.below (Below.refl _ _).drew)
  clear A2 R2
  generalize w2.drew = V0 at *
  refine wpAnyH_take (i := 0) (v := ?v1) rfl (by kernel_rfl) (by kernel_rfl) (by kernel_rfl) (fun _ _ _ h => h) (Or.inl ⟨by rfl, ?hy1⟩) (by assumption) ?rest1
  case hy1 => (intro w' hSw; dsimp only [List.getElem_toArray, List.getElem_cons_zero, List.getElem_cons_succ] at hSw ⊢; go_simp; try (with_reducible rfl))
  try simp only [Act.put, List.getElem_toArray, List.getElem_cons_zero, List.getElem_cons_succ, List.setIfInBounds_toArray, List.set_cons_zero, List.set_cons_succ]
  refine wpAnyH_take (i := 1) (v := ?v2) rfl (by kernel_rfl) (by kernel_rfl) (by kernel_rfl) (fun _ _ _ h => h) (Or.inl ⟨by rfl, ?hy2⟩) (by assumption) ?rest2
  case hy2 => (intro w' hSw; dsimp only [List.getElem_toArray, List.getElem_cons_zero, List.getElem_cons_succ] at hSw ⊢; go_simp; try (with_reducible rfl))
  try simp only [Act.put, List.getElem_toArray, List.getElem_cons_zero, List.getElem_cons_succ, List.setIfInBounds_toArray, List.set_cons_zero, List.set_cons_succ]
  refine wpAnyH_take (i := 2) (v := ?v3) rfl (by kernel_rfl) (by kernel_rfl) (by kernel_rfl) (fun _ _ _ h => h) (Or.inl ⟨by rfl, ?hy3⟩) (by assumption) ?rest3
  case hy3 => (intro w' hSw; dsimp only [List.getElem_toArray, List.getElem_cons_zero, List.getElem_cons_succ] at hSw ⊢; go_simp; try (with_reducible rfl))
  try simp only [Act.put, List.getElem_toArray, List.getElem_cons_zero, List.getElem_cons_succ, List.setIfInBounds_toArray, List.set_cons_zero, List.set_cons_succ]
  refine wpAnyH_take (i := 3) (v := ?v4) rfl (by kernel_rfl) (by kernel_rfl) (by kernel_rfl) (fun _ _ _ h => h) (Or.inl ⟨by rfl, ?hy4⟩) (by assumption) ?rest4
  case hy4 => (intro w' hSw; dsimp only [List.getElem_toArray, List.getElem_cons_zero, List.getElem_cons_succ] at hSw ⊢; go_simp; try (with_reducible rfl))
  try simp only [Act.put, List.getElem_toArray, List.getElem_cons_zero, List.getElem_cons_succ, List.setIfInBounds_toArray, List.set_cons_zero, List.set_cons_succ]
  refine wpAnyH_ready (rs := [4]) (by kernel_rfl) (by simp) ?_
  refine AllReadyH.cons rfl (fun K hK => ?_) AllReadyH.nil
  dsimp only [List.getElem_toArray, List.getElem_cons_zero, List.getElem_cons_succ]
  go_simp
  refine (C3.out _).mono ?_
  rintro e' V1 ⟨vk, rfl, ok1, q⟩
  have A4 := hide (A3.out.step q)
  have R4 := hide (R3.out.below q)
  have K4 := hide (Own.rd ok1)
  clear q ok1 hHeld A3 R3
  refine hK.out _ _ ((A4.out.atBox 1 rfl).c3) (fun hHeld => ?_)
  clear hK K
  try simp only [Act.put, List.getElem_toArray, List.getElem_cons_zero, List.getElem_cons_succ, List.setIfInBounds_toArray, List.set_cons_zero, List.set_cons_succ]
  refine wpAnyH_ready (rs := [5]) (by kernel_rfl) (by simp) ?_
  refine AllReadyH.cons rfl (fun K hK => ?_) AllReadyH.nil
  dsimp only [List.getElem_toArray, List.getElem_cons_zero, List.getElem_cons_succ]
  go_simp
  refine (C4.out _ _ _ R4.out K4.out (RP.out.below A4.out.below) (RH.out.below A4.out.below) (RB.out.below A4.out.below)).mono ?_
  rintro e' V2 ⟨p5, h5, b5, rfl, d5, q⟩
  obtain ⟨ap, cp, ah, ch, ab, cb, rfl, rfl, rfl⟩ := d5.sl
  have A5 := hide (A4.out.add q (TDsk.st _ _ _ _ _ _) d5)
  clear q d5 hHeld A4 R4 K4
  refine hK.out _ _ ((A5.out.atBox 2 rfl).c3) (fun hHeld => ?_)
  clear hK K
  try simp only [Act.put, List.getElem_toArray, List.getElem_cons_zero, List.getElem_cons_succ, List.setIfInBounds_toArray, List.set_cons_zero, List.set_cons_succ]
  refine wpAnyH_take (i := 6) (v := ?v5) rfl (by kernel_rfl) (by kernel_rfl) (by kernel_rfl) (fun _ _ _ h => h) (Or.inl ⟨by rfl, ?hy5⟩) (by assumption) ?rest5
  case hy5 => (intro w' hSw; dsimp only [List.getElem_toArray, List.getElem_cons_zero, List.getElem_cons_succ] at hSw ⊢; go_simp; try (with_reducible rfl))
  try simp only [Act.put, List.getElem_toArray, List.getElem_cons_zero, List.getElem_cons_succ, List.setIfInBounds_toArray, List.set_cons_zero, List.set_cons_succ]
  refine wpAnyH_take (i := 7) (v := ?v6) rfl (by kernel_rfl) (by kernel_rfl) (by kernel_rfl) (fun _ _ _ h => h) (Or.inl ⟨by rfl, ?hy6⟩) (by assumption) ?rest6
  case hy6 => (intro w' hSw; dsimp only [List.getElem_toArray, List.getElem_cons_zero, List.getElem_cons_succ] at hSw ⊢; go_simp; try (with_reducible rfl))
  try simp only [Act.put, List.getElem_toArray, List.getElem_cons_zero, List.getElem_cons_succ, List.setIfInBounds_toArray, List.set_cons_zero, List.set_cons_succ]
  refine wpAnyH_ready (rs := [8]) (by kernel_rfl) (by simp) ?_
  refine AllReadyH.cons rfl (fun K hK => ?_) AllReadyH.nil
  have xr := A5.out.atBox 1 rfl
  obtain ⟨d0, d1, d2⟩ := xr.c3
  have g0 := xr.frozen 0
  have g1 := xr.frozen 1
  have g2 := xr.frozen 2
  have AZ := hide (A5.out.store3 1 rfl (.slice ap X.length cp) (.slice ah Y.length ch) (.slice ab Z.length cb))
  clear xr hHeld
  dsimp only [List.getElem_toArray, List.getElem_cons_zero, List.getElem_cons_succ]
  go_simp
  clear d0 d1 d2 g0 g1 g2
  refine hK.out _ _ ((AZ.out.atBox 2 rfl).c3) (fun hHeld => ?_)
  clear hK K
  try simp only [Act.put, List.getElem_toArray, List.getElem_cons_zero, List.getElem_cons_succ, List.setIfInBounds_toArray, List.set_cons_zero, List.set_cons_succ]
  refine wpAnyH_ready (rs := [9]) (by kernel_rfl) (by simp) ?_
  refine AllReadyH.cons rfl (fun K hK => ?_) AllReadyH.nil
  dsimp only [List.getElem_toArray, List.getElem_cons_zero, List.getElem_cons_succ]
  go_simp
  refine hK.out _ _ ((AZ.out.atBox 2 rfl).c3) (fun hHeld => ?_)
  clear hK K
  try simp only [Act.put, List.getElem_toArray, List.getElem_cons_zero, List.getElem_cons_succ, List.setIfInBounds_toArray, List.set_cons_zero, List.set_cons_succ]
  refine wpAnyH_done (by kernel_rfl) ?_ _
  refine NoPanic.normal ?_
  clear hHeld
  go_wp2
  obtain ⟨lo, hi, d3, lw, hw3, _⟩ := AZ.out.open 0 rfl
  have D3 : DskV _ lo hi (.slice ap X.length cp) (.slice ah Y.length ch) (.slice ab Z.length cb) X Y Z := d3
  exact bodyPost_ret (res_dsk2 rfl _ _ (w.heap.size + 1) _ _ _ (0, 0) rfl (AZ.out.atBox 1 rfl)) rfl ⟨_, _, _, rfl, D3.wider lw hw3, AZ.out.below⟩
end Go.Proofs.YtbgadbokejaomaaGreatDoor

namespace Go.Proofs.YtbgadbokejaomaaGreatDoor
open Go.RowKit
open Gf (ci nat)
set_option linter.unusedVariables false

theorem sc_frB {A : Nat} {E : Int} {row : List Nat} (hA : A ≤ 24) (hE : 0 ≤ E ∧ E ≤ 60000) (hr : row.length = 16) : ofN (frB 2 A E.toNat (bs (ofN row))) = scT A E row := by
  have hg : goodF 2 (A : Int) E (ofN row).size := ⟨⟨by omega, by omega, by omega⟩, hE, by rw [ofN_size]; omega⟩
  have e : frR 2 (A : Int) E (ofN row) = (ofN (frB (2 : Int).toNat (A : Int).toNat E.toNat (bs (ofN row))), true) := if_pos hg
  unfold scT
  rw [e]
  rfl
theorem st_put {P H : List ByteArray} {B : List Bool} {n a : Nat} {T : ByteArray} {y : Bool} (ha : a < n) (hT : T.size = 28) (hy : y = true ↔ B.getD a false = false) : y = true ↔ stOk P H B n 1 ((a : Nat) : Int) T [] := by
  rw [hy]
  unfold stOk hoOk
  simp only [Int.toNat_natCast]
  constructor
  · intro h1
    exact .inl ⟨by trivial, by trivial, ⟨by omega, by omega⟩, h1, by rw [hT]; omega, by rw [hT]; omega⟩
  · rintro (⟨_, _, _, h1, _⟩ | ⟨h0, _⟩ | ⟨h0, _⟩ | ⟨h0, _⟩ | ⟨h0, _⟩ | ⟨h0, _⟩)
    · exact h1
    all_goals (exact absurd h0 (by decide))

set_option maxRecDepth 100000 in
set_option maxHeartbeats 3200000 in
theorem l8Put_calls (p h b : Value) (P H : List ByteArray) (B : List Bool) (a : Nat) (E : Int) (u : Value) (row : List Nat) (lo hi n : Nat) (y : Bool) (w : World) (d : DskV w lo hi p h b P H B) (hhi : hi ≤ w.heap.size) (hP : P.length = n) (hH : H.length = n) (hB : B.length = n) (hn : 0 < n ∧ n ≤ 24) (ha : a < n)
    (hE : 0 ≤ E ∧ E ≤ 60000) (hu : Rd w u (ci row)) (hr : row.length = 16) (hl : ∀ x ∈ row, x < 256) (hy : y = true ↔ B.getD a false = false) (h28 : ∀ i, i < P.length → (P.getD i ⟨#[]⟩).size ≤ 28) :
    Calls Tryz.prog 96 #[.agg #[p, h, b], .int .i64 (a : Int), .int .i64 E, u] w fun e w' => e = .returned (.tuple #[.agg #[p, h, b], .bool y]) ∧ (y = true → DskV w' lo hi p h b P (H.set a (scT a E row)) B) ∧ Chg lo hi w w' := by
  obtain ⟨En, hEn⟩ : ∃ En : Nat, E = (En : Int) := ⟨E.toNat, by omega⟩
  have SC := hide (sc_frB (A := a) (row := row) (by omega) hE hr)
  have G2 := hide (sc_good (A := a) (row := row) (by omega) hE hr).2
  have C1 := hide (fun W hv => l8Text_calls u row W hv hl (by omega))
  have C2 := hide (fun W => l6Frame_calls 2 a E.toNat (ofN row) W (by omega) (by omega) (by omega) (by rw [ofN_size]; omega))
  rw [SC.out] at C2
  subst hEn
  rw [Int.toNat_natCast] at C2
  have HY := hide (st_put (P := P) (H := H) (B := B) ha G2.out hy)
  generalize scT a (En : Int) row = T at *
  generalize ofN row = bo at *
  have U := hide hu
  obtain ⟨W0, hW⟩ : ∃ W0, W0 = (w.alloc (.cells #[p, h, b] 26)).alloc (.cells #[.slice none 0 0, .slice none 0 0, .slice none 0 0] 26) := ⟨_, rfl⟩
  have b0 : Below w.heap.size w W0 := by rw [hW]; exact (below_box _ _).trans ((below_box _ _).mono (by simp))
  have x0 : BoxAt W0 w.heap.size #[p, h, b] 26 := by rw [hW]; exact (BoxAt.new _ _ _).below (below_box _ _)
  have x1 : BoxAt W0 (w.heap.size + 1) #[.slice none 0 0, .slice none 0 0, .slice none 0 0] 26 := by
    rw [hW]
    have := BoxAt.new (w.alloc (.cells #[p, h, b] 26)) #[.slice none 0 0, .slice none 0 0, .slice none 0 0] 26
    simpa using this
  have HW := hide hW
  have B0 := hide b0
  have X0 := hide x0
  have X1 := hide x1
  have D0 := hide (d.below b0)
  have hs0 : w.heap.size + 1 < W0.heap.size := x1.lt
  obtain ⟨ap, cp, ah, ch, ab, cb, rfl, rfl, rfl⟩ := d.sl
  have HPl := hide hP
  have HHl := hide hH
  have HBl := hide hB
  clear hW b0 x0 x1 d hu SC hy hl hP hH hB
  go_enter Tryz.func96, Tryz.ntmps96
  go_wp2_with fail
  rw [← HW.out]
  refine (C1.out _ (U.out.below B0.out)).mono ?_
  rintro e w1 ⟨rfl, q⟩
  have B1 := hide (B0.out.trans (q.mono B0.out.size))
  have X01 := hide (X0.out.below q)
  have X11 := hide (X1.out.below q)
  have D1 := hide (D0.out.below q)
  clear q X0 X1 D0 B0
  go_wp2_with fail
  refine (C2.out _).mono ?_
  rintro e w2 ⟨rfl, q⟩
  have B2 := hide (B1.out.trans (q.mono B1.out.size))
  have X02 := hide (X01.out.below q)
  have X12 := hide (X11.out.below q)
  have D2 := hide (D1.out.below q)
  clear q X01 X11 D1 B1
  obtain ⟨c0, c1, c2⟩ := X02.out.c3
  have C3 := hide (l7Step_calls _ _ _ (.slice none 0 0) P H B 1 ((a : Nat) : Int) T [] lo hi n y w2 D2.out (Nat.le_trans hhi B2.out.size) HPl.out HHl.out HBl.out hn (fun _ _ => rd_nil' _) HY.out (by rw [G2.out]; omega) h28)
  go_wp2_with fail
  refine C3.out.mono ?_
  rintro e w3 ⟨rfl, sp1, sp2⟩
  have SP1 := hide sp1
  have SP2 := hide sp2
  have X13 := hide (X12.out.chg sp2 (by omega))
  obtain ⟨d0, d1, d2⟩ := X13.out.c3
  have g0 := X13.out.frozen 0
  have g1 := X13.out.frozen 1
  have g2 := X13.out.frozen 2
  clear sp1 sp2 c0 c1 c2
  have XZ := hide (X13.out.store3 (.slice ap P.length cp) (.slice ah H.length ch) (.slice ab B.length cb))
  have CZ : Hid (Chg (w.heap.size + 1) (w.heap.size + 2) w3 (((w3.setCell ⟨w.heap.size + 1, 0, none⟩ (.slice ap P.length cp)).setCell ⟨w.heap.size + 1, 1, none⟩ (.slice ah H.length ch)).setCell ⟨w.heap.size + 1, 2, none⟩ (.slice ab B.length cb))) := Chg.store3 _ _ _ _ _ (Nat.le_refl _) (by omega)
  go_wp2
  refine bodyPost_ret (res_dsk2 rfl _ _ (w.heap.size + 1) _ _ _ (0, 0) rfl XZ.out) rfl ⟨rfl, fun e => ?_, ?_⟩
  · have d4 := SP1.out e
    have e1 : stP P H n 1 ((a : Nat) : Int) T [] = P := by unfold stP; rw [if_neg (by decide), if_neg (by decide), if_neg (by decide), if_neg (by decide)]
    have e2 : stH H 1 ((a : Nat) : Int) T = H.set a T := by unfold stH; rw [if_pos rfl, Int.toNat_natCast]
    have e3 : stB B 1 ((a : Nat) : Int) = B := by unfold stB; rw [if_neg (by decide), if_neg (by decide)]
    rw [e1, e2, e3] at d4
    exact d4.chg CZ.out (.inl (by omega))
  · exact chg_new ((Chg.ofBelow B2.out).trans SP2.out) CZ.out (by omega)
end Go.Proofs.YtbgadbokejaomaaGreatDoor

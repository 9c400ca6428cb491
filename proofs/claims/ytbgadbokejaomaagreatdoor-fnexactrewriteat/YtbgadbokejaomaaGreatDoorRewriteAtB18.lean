/-
  A step done on a disk of the call's own: the model's l7Step as a whole. The contract says what it asks. RotIn of the program and of the model, call by call. Each contract says what it asks. A frame read: the model's ReadFrame and CheckFrame, call by call. No condition but a bound on the text's length. Where a stripe fits: the program's FitsStripe and its model's, at every disk and number. No condition but that the number is one of 64 bits. What a sector of a stripe tells: the program's findPiece, and the model's l7Read. Each contract says what it asks. The Epochs of the pieces that the program has found: epochOf, isOf, countOf, rightEpoch, call by call. Each contract says what it asks. A stripe found: the program's findStripe. The contract says what it asks. Whether a stripe lies on a disk: the program's liesOn. No condition but that the number is one of 64 bits. 'append(l, k)': one integer behind a row of the call's own, and where it lies then. No call is walked here.
-/
import Derived.Test.YtbgadbokejaomaaGreatDoorRewriteAtB17
import Derived.Test.YtbgadbokejaomaaGreatDoorRewriteAtB16
import Derived.Test.YtbgadbokejaomaaGreatDoorRewriteAtB15
import Derived.Test.YtbgadbokejaomaaGreatDoorRewriteAtB8
import Derived.Test.YtbgadbokejaomaaGreatDoorRewriteAtB13
import Derived.Test.YtbgadbokejaomaaGreatDoorRewriteAtB5
import Derived.Deep.AppendLies
namespace Go.Proofs.YtbgadbokejaomaaGreatDoor
open Go.RowKit
set_option linter.unusedVariables false

set_option linter.unusedSimpArgs false in
set_option maxRecDepth 100000 in
set_option maxHeartbeats 1600000 in
theorem l7Step_calls (p h b vk : Value) (P H : List ByteArray) (B : List Bool) (K A : Int) (T : ByteArray) (ks : List Int) (lo hi n : Nat) (ok : Bool) (w : World) (d : DskV w lo hi p h b P H B) (hhi : hi ≤ w.heap.size) (hP : P.length = n) (hH : H.length = n) (hB : B.length = n) (hn : 0 < n ∧ n ≤ 24) (kv : ∀ w', Chg lo hi w w' → Rd w' vk ks)
    (hok : ok = true ↔ stOk P H B n K A T ks) (hT : T.size ≤ 1048576) (h28 : ∀ i, i < P.length → (P.getD i ⟨#[]⟩).size ≤ 28) :
    Calls Tryz.prog 89 #[.agg #[p, h, b], .agg #[.int .i64 K, .int .i64 A, .string T, vk]] w fun e w' => e = .returned (.tuple #[.agg #[p, h, b], .bool ok]) ∧ StepPost lo hi p h b P H B n K A T ks ok w w' := by
  have inn : (0 ≤ A ∧ A < (n : Int)) → ∃ k : Nat, A = (k : Int) ∧ k < n := fun h => ⟨A.toNat, by omega, by omega⟩
  have no : ¬ stOk P H B n K A T ks → ok = false := fun h => by
    cases ok with
    | false => rfl
    | true => exact absurd (hok.1 rfl) h
  by_cases hK2 : K = 2
  · subst hK2
    by_cases hA : A = 0
    case neg =>
      obtain rfl := no (by
        rintro (⟨a,b,c,e⟩|⟨a,b,c,e⟩|⟨a,b,c,e⟩|⟨a,b,c,e⟩|⟨a,b,c,e⟩|⟨a,b,c,e⟩) <;> first | omega | contradiction | exact absurd e.2 h1 | (exfalso; simp_all [hoOk, roOk]; done) | (exfalso; simp_all [roOk]; omega))
      exact (s_at2 p h b vk P H B lo hi n A T ks w d hhi hP hH hB hn kv hA).mono fun e w' ⟨h1, h2, h3⟩ => ⟨h1, fun h => by simp at h, h3⟩
    subst hA
    by_cases hTe : T = ⟨#[]⟩
    case neg =>
      obtain rfl := no (by
        rintro (⟨a,b,c,e⟩|⟨a,b,c,e⟩|⟨a,b,c,e⟩|⟨a,b,c,e⟩|⟨a,b,c,e⟩|⟨a,b,c,e⟩) <;> first | omega | contradiction | exact absurd e.2 h1 | (exfalso; simp_all [hoOk, roOk]; done) | (exfalso; simp_all [roOk]; omega))
      exact (s_text2 p h b vk P H B lo hi n T ks w d hhi hP hH hB hn kv hTe).mono fun e w' ⟨h1, h2, h3⟩ => ⟨h1, fun h => by simp at h, h3⟩
    subst hTe
    by_cases hks : ks = []
    case neg =>
      obtain rfl := no (by
        rintro (⟨a,b,c,e⟩|⟨a,b,c,e⟩|⟨a,b,c,e⟩|⟨a,b,c,e⟩|⟨a,b,c,e⟩|⟨a,b,c,e⟩) <;> first | omega | contradiction | exact absurd e.2 h1 | (exfalso; simp_all [hoOk, roOk]; done) | (exfalso; simp_all [roOk]; omega))
      exact (s_kept2 p h b vk P H B lo hi n ks w d hhi hP hH hB hn kv hks).mono fun e w' ⟨h1, h2, h3⟩ => ⟨h1, fun h => by simp at h, h3⟩
    subst hks
    obtain rfl : ok = true := hok.2 (.inr (.inl ⟨rfl, rfl, rfl, rfl⟩))
    exact s_sync p h b vk P H B lo hi n  w d hhi hP hH hB hn kv 
  by_cases hK3 : K = 3
  · subst hK3
    by_cases hA : A = 0
    case neg =>
      obtain rfl := no (by
        rintro (⟨a,b,c,e⟩|⟨a,b,c,e⟩|⟨a,b,c,e⟩|⟨a,b,c,e⟩|⟨a,b,c,e⟩|⟨a,b,c,e⟩) <;> first | omega | contradiction | exact absurd e.2 h1 | (exfalso; simp_all [hoOk, roOk]; done) | (exfalso; simp_all [roOk]; omega))
      exact (s_at3 p h b vk P H B lo hi n A T ks w d hhi hP hH hB hn kv hA).mono fun e w' ⟨h1, h2, h3⟩ => ⟨h1, fun h => by simp at h, h3⟩
    subst hA
    by_cases hTe : T = ⟨#[]⟩
    case neg =>
      obtain rfl := no (by
        rintro (⟨a,b,c,e⟩|⟨a,b,c,e⟩|⟨a,b,c,e⟩|⟨a,b,c,e⟩|⟨a,b,c,e⟩|⟨a,b,c,e⟩) <;> first | omega | contradiction | exact absurd e.2 h1 | (exfalso; simp_all [hoOk, roOk]; done) | (exfalso; simp_all [roOk]; omega))
      exact (s_text3 p h b vk P H B lo hi n T ks w d hhi hP hH hB hn kv hTe).mono fun e w' ⟨h1, h2, h3⟩ => ⟨h1, fun h => by simp at h, h3⟩
    subst hTe
    exact s_crash p h b vk P H B lo hi n ks ok w d hhi hP hH hB hn kv (by
      rw [hok]
      unfold stOk
      simp)
  by_cases hA : 0 ≤ A ∧ A < (n : Int)
  case neg =>
    obtain rfl := no (by
      rintro (⟨a,b,c,e⟩|⟨a,b,c,e⟩|⟨a,b,c,e⟩|⟨a,b,c,e⟩|⟨a,b,c,e⟩|⟨a,b,c,e⟩) <;> first | omega | contradiction | exact absurd e.2 h1 | (exfalso; simp_all [hoOk, roOk]; done) | (exfalso; simp_all [roOk]; omega))
    exact (s_out p h b vk P H B lo hi n K A T ks w d hhi hP hH hB hn kv hK2 hK3 hA).mono fun e w' ⟨h1, h2, h3⟩ => ⟨h1, fun h => by simp at h, h3⟩
  obtain ⟨k, rfl, hk⟩ := inn hA
  by_cases hks : ks = []
  case neg =>
    obtain rfl := no (by
      rintro (⟨a,b,c,e⟩|⟨a,b,c,e⟩|⟨a,b,c,e⟩|⟨a,b,c,e⟩|⟨a,b,c,e⟩|⟨a,b,c,e⟩) <;> first | omega | contradiction | exact absurd e.2 h1 | (exfalso; simp_all [hoOk, roOk]; done) | (exfalso; simp_all [roOk]; omega))
    exact (s_more p h b vk P H B lo hi n K k T ks w d hhi hP hH hB hn kv hK2 hK3 hk hks).mono fun e w' ⟨h1, h2, h3⟩ => ⟨h1, fun h => by simp at h, h3⟩
  subst hks
  by_cases hK1 : K = 1
  · subst hK1
    by_cases hBk : B.getD k false = true
    · obtain rfl := no (by
        rintro (⟨a,b,c,e⟩|⟨a,b,c,e⟩|⟨a,b,c,e⟩|⟨a,b,c,e⟩|⟨a,b,c,e⟩|⟨a,b,c,e⟩) <;> first | omega | contradiction | exact absurd e.2 h1 | (exfalso; simp_all [hoOk, roOk]; done) | (exfalso; simp_all [roOk]; omega))
      exact (s_1a p h b vk P H B lo hi n k T w d hhi hP hH hB hn kv hk hBk).mono fun e w' ⟨h1, h2, h3⟩ => ⟨h1, fun h => by simp at h, h3⟩
    have hBk : B.getD k false = false := by simpa using hBk
    by_cases h1 : 1 ≤ T.size ∧ T.size ≤ 28
    case neg =>
      obtain rfl := no (by
        rintro (⟨a,b,c,e⟩|⟨a,b,c,e⟩|⟨a,b,c,e⟩|⟨a,b,c,e⟩|⟨a,b,c,e⟩|⟨a,b,c,e⟩) <;> first | omega | contradiction | exact absurd e.2 h1 | (exfalso; simp_all [hoOk, roOk]; done) | (exfalso; simp_all [roOk]; omega))
      exact (s_1b p h b vk P H B lo hi n k T w d hhi hP hH hB hn kv hk hBk hT h1).mono fun e w' ⟨h1, h2, h3⟩ => ⟨h1, fun h => by simp at h, h3⟩
    obtain rfl : ok = true := hok.2 (.inl ⟨rfl, rfl, hA, hBk, h1.1, h1.2⟩)
    exact s_1c p h b vk P H B lo hi n k T w d hhi hP hH hB hn kv hk hBk h1.1 h1.2
  by_cases hK4 : K = 4
  · subst hK4
    by_cases hz : H.getD k ⟨#[]⟩ = ⟨#[]⟩
    case neg =>
      obtain rfl := no (by
        rintro (⟨a,b,c,e⟩|⟨a,b,c,e⟩|⟨a,b,c,e⟩|⟨a,b,c,e⟩|⟨a,b,c,e⟩|⟨a,b,c,e⟩) <;> first | omega | contradiction | exact absurd e.2 h1 | (exfalso; simp_all [hoOk, roOk]; done) | (exfalso; simp_all [roOk]; omega))
      exact (s_4a p h b vk P H B lo hi n k T w d hhi hP hH hB hn kv hk hz).mono fun e w' ⟨h1, h2, h3⟩ => ⟨h1, fun h => by simp at h, h3⟩
    by_cases h1 : 1 ≤ T.size ∧ T.size ≤ (P.getD k ⟨#[]⟩).size
    case neg =>
      by_cases hs : P.getD k ⟨#[]⟩ = ⟨#[]⟩
      · obtain rfl := no (by
          rintro (⟨a,b,c,e⟩|⟨a,b,c,e⟩|⟨a,b,c,e⟩|⟨a,b,c,e⟩|⟨a,b,c,e⟩|⟨a,b,c,e⟩) <;> first | omega | contradiction | exact absurd e.2 h1 | (exfalso; simp_all [hoOk, roOk]; done) | (exfalso; simp_all [roOk]; omega))
        exact (s_4b p h b vk P H B lo hi n k T w d hhi hP hH hB hn kv hk hz hs).mono fun e w' ⟨h1, h2, h3⟩ => ⟨h1, fun h => by simp at h, h3⟩
      · obtain rfl := no (by
          rintro (⟨a,b,c,e⟩|⟨a,b,c,e⟩|⟨a,b,c,e⟩|⟨a,b,c,e⟩|⟨a,b,c,e⟩|⟨a,b,c,e⟩) <;> first | omega | contradiction | exact absurd e.2 h1 | (exfalso; simp_all [hoOk, roOk]; done) | (exfalso; simp_all [roOk]; omega))
        exact (s_4c p h b vk P H B lo hi n k T w d hhi hP hH hB hn kv hk hz hs hT (h28 k (by omega)) h1).mono fun e w' ⟨h1, h2, h3⟩ => ⟨h1, fun h => by simp at h, h3⟩
    obtain rfl : ok = true := hok.2 (.inr (.inr (.inr (.inl ⟨rfl, rfl, hA, hz, h1.1, h1.2⟩))))
    exact s_4 p h b vk P H B lo hi n k T w d hhi hP hH hB hn kv hk hz (h28 k (by omega)) h1.1 h1.2
  by_cases hK5 : K = 5
  · subst hK5
    by_cases hTe : T = ⟨#[]⟩
    case neg =>
      obtain rfl := no (by
        rintro (⟨a,b,c,e⟩|⟨a,b,c,e⟩|⟨a,b,c,e⟩|⟨a,b,c,e⟩|⟨a,b,c,e⟩|⟨a,b,c,e⟩) <;> first | omega | contradiction | exact absurd e.2 h1 | (exfalso; simp_all [hoOk, roOk]; done) | (exfalso; simp_all [roOk]; omega))
      exact (s_5T p h b vk P H B lo hi n k T w d hhi hP hH hB hn kv hk hTe).mono fun e w' ⟨h1, h2, h3⟩ => ⟨h1, fun h => by simp at h, h3⟩
    subst hTe
    obtain rfl : ok = true := hok.2 (.inr (.inr (.inr (.inr (.inl ⟨rfl, rfl, rfl, hA⟩)))))
    exact s_5 p h b vk P H B lo hi n k w d hhi hP hH hB hn kv hk
  by_cases hK6 : K = 6
  · subst hK6
    by_cases hTe : T = ⟨#[]⟩
    case neg =>
      obtain rfl := no (by
        rintro (⟨a,b,c,e⟩|⟨a,b,c,e⟩|⟨a,b,c,e⟩|⟨a,b,c,e⟩|⟨a,b,c,e⟩|⟨a,b,c,e⟩) <;> first | omega | contradiction | exact absurd e.2 h1 | (exfalso; simp_all [hoOk, roOk]; done) | (exfalso; simp_all [roOk]; omega))
      exact (s_6T p h b vk P H B lo hi n k T w d hhi hP hH hB hn kv hk hTe).mono fun e w' ⟨h1, h2, h3⟩ => ⟨h1, fun h => by simp at h, h3⟩
    subst hTe
    by_cases hBk : B.getD k false = true
    case neg =>
      have hBk : B.getD k false = false := by simpa using hBk
      obtain rfl := no (by
        rintro (⟨a,b,c,e⟩|⟨a,b,c,e⟩|⟨a,b,c,e⟩|⟨a,b,c,e⟩|⟨a,b,c,e⟩|⟨a,b,c,e⟩) <;> first | omega | contradiction | exact absurd e.2 h1 | (exfalso; simp_all [hoOk, roOk]; done) | (exfalso; simp_all [roOk]; omega))
      exact (s_6a p h b vk P H B lo hi n k w d hhi hP hH hB hn kv hk hBk).mono fun e w' ⟨h1, h2, h3⟩ => ⟨h1, fun h => by simp at h, h3⟩
    obtain rfl : ok = true := hok.2 (.inr (.inr (.inr (.inr (.inr ⟨rfl, rfl, rfl, hA, hBk⟩)))))
    exact s_6 p h b vk P H B lo hi n k w d hhi hP hH hB hn kv hk hBk
  obtain rfl := no (by
    rintro (⟨a,b,c,e⟩|⟨a,b,c,e⟩|⟨a,b,c,e⟩|⟨a,b,c,e⟩|⟨a,b,c,e⟩|⟨a,b,c,e⟩) <;> first | omega | contradiction | exact absurd e.2 h1 | (exfalso; simp_all [hoOk, roOk]; done) | (exfalso; simp_all [roOk]; omega))
  exact (s_other p h b vk P H B lo hi n K k T w d hhi hP hH hB hn kv hK1 hK2 hK3 hK4 hK5 hK6 hk).mono fun e w' ⟨h1, h2, h3⟩ => ⟨h1, fun h => by simp at h, h3⟩
end Go.Proofs.YtbgadbokejaomaaGreatDoor

namespace Go.Proofs.YtbgadbokejaomaaGreatDoor
open Go.RowKit
set_option linter.unusedVariables false
set_option linter.unusedSimpArgs false

def ifS {α : Type} (ok : Bool) (l : List α) : List α := if ok = true then l else []
def ifI (ok : Bool) (x : Int) : Int := if ok = true then x else 0
end Go.Proofs.YtbgadbokejaomaaGreatDoor

namespace Go.Proofs.YtbgadbokejaomaaGreatDoor
open Go.RowKit
set_option linter.unusedVariables false

end Go.Proofs.YtbgadbokejaomaaGreatDoor

namespace Go.Proofs.YtbgadbokejaomaaGreatDoor
open Go.RowKit
set_option linter.unusedVariables false

/-- A stripe fits from A on. -/
def ftP (P : List ByteArray) (A : Int) : Prop := 0 ≤ A ∧ A ≤ (P.length : Int) - 5
theorem ft_bool (P H : List ByteArray) (B : List Bool) (A : Int) : ∃ f : Bool, f = true ↔ (gkP P H B ∧ ftP P A) := by
  by_cases h : gkP P H B ∧ ftP P A
  · exact ⟨true, by simp [h]⟩
  · exact ⟨false, by simp [h]⟩

set_option maxRecDepth 100000 in
set_option maxHeartbeats 1600000 in
theorem fitsStripe_calls (p h b : Value) (P H : List ByteArray) (B : List Bool) (A : Int) (g f : Bool) (w : World) (hg : g = true ↔ gkP P H B) (hf : f = true ↔ (gkP P H B ∧ ftP P A)) (hwf : (Lit.int .i64 A).wf = true) (hp : RdT w p P) (hh : RdT w h H) (hb : RdZ w b B) :
    Calls Tryz.prog 131 #[.agg #[p, h, b], .int .i64 A] w fun e w' => e = .returned (.tuple #[.bool f, .bool g]) ∧ Below w.heap.size w w' := by
  have HG := hide hg
  have HF := hide hf
  have RP := hide hp
  have RH := hide hh
  have RB := hide hb
  have A0 := hide ((Hand.start w).box #[p, h, b] 26)
  have C := hide (fun W (h1 : RdT W p P) (h2 : RdT W h H) (h3 : RdZ W b B) => goodDisk_calls p h b P H B g W hg h1 h2 h3)
  obtain ⟨ap, cp, rfl, mp, _⟩ := hp.sl
  obtain ⟨ah, ch, rfl, mh, _⟩ := hh.sl
  obtain ⟨ab, cb, rfl, mb, _⟩ := hb.sl
  clear hg hf hp hh hb mp mh mb
  cases g with
  | false =>
    have ng : Hid (¬ gkP P H B) := fun h => by have := HG.out.2 h; simp at this
    have ff : f = false := by
      cases f with
      | false => rfl
      | true => exact absurd (HF.out.1 rfl).1 ng.out
    subst ff
    go_enter Tryz.func131, Tryz.ntmps131
    go_wp2_with fail
    refine (C.out _ (RP.out.below A0.out.below) (RH.out.below A0.out.below) (RB.out.below A0.out.below)).mono ?_
    rintro e w1 ⟨rfl, q⟩
    have A1 := hide (A0.out.step q)
    clear q A0
    go_wp2
    go_ret2
    exact ⟨rfl, A1.out.below⟩
  | true =>
  have GK := hide (HG.out.1 rfl)
  have n24 : P.length ≤ 24 := GK.out.1.2
  have HF2 : Hid (f = true ↔ ftP P A) := ⟨fun h => (HF.out.1 h).2, fun h => HF.out.2 ⟨GK.out, h⟩⟩
  clear HG HF
  unfold ftP at HF2
  by_cases h0 : 0 ≤ A
  case neg =>
    have ff : f = false := by
      cases f with
      | false => rfl
      | true => exact absurd (HF2.out.1 rfl).1 h0
    subst ff
    go_enter Tryz.func131, Tryz.ntmps131
    go_wp2_with fail
    refine (C.out _ (RP.out.below A0.out.below) (RH.out.below A0.out.below) (RB.out.below A0.out.below)).mono ?_
    rintro e w1 ⟨rfl, q⟩
    have A1 := hide (A0.out.step q)
    clear q A0
    obtain ⟨c0, c1, c2⟩ := (A1.out.atBox 0 rfl).c3
    go_wp2
    go_ret2
    exact ⟨rfl, A1.out.below⟩
  have ff : f = decide (A ≤ (P.length : Int) - 5) := by
    cases f with
    | false => exact (decide_eq_false (fun h => by have := HF2.out.2 ⟨h0, h⟩; simp at this)).symm
    | true => exact (decide_eq_true (HF2.out.1 rfl).2).symm
  by_cases h5 : A ≤ (P.length : Int) - 5
  · rw [decide_eq_true h5] at ff
    subst ff
    go_enter Tryz.func131, Tryz.ntmps131
    go_wp2_with fail
    refine (C.out _ (RP.out.below A0.out.below) (RH.out.below A0.out.below) (RB.out.below A0.out.below)).mono ?_
    rintro e w1 ⟨rfl, q⟩
    have A1 := hide (A0.out.step q)
    clear q A0
    obtain ⟨c0, c1, c2⟩ := (A1.out.atBox 0 rfl).c3
    go_wp2
    go_ret2
    exact ⟨rfl, A1.out.below⟩
  · rw [decide_eq_false h5] at ff
    subst ff
    have hd : decide (A ≤ (P.length : Int) - 5) = false := decide_eq_false h5
    go_enter Tryz.func131, Tryz.ntmps131
    go_wp2_with fail
    refine (C.out _ (RP.out.below A0.out.below) (RH.out.below A0.out.below) (RB.out.below A0.out.below)).mono ?_
    rintro e w1 ⟨rfl, q⟩
    have A1 := hide (A0.out.step q)
    clear q A0
    obtain ⟨c0, c1, c2⟩ := (A1.out.atBox 0 rfl).c3
    go_wp2
    go_ret2
    exact ⟨rfl, A1.out.below⟩


set_option maxRecDepth 100000 in
set_option maxHeartbeats 400000 in
theorem l8Fits_calls (ap : Option Addr) (cp : Nat) (h b : Value) (P : List ByteArray) (A : Int) (f : Bool) (w : World) (hf : f = true ↔ ftP P A) (h24 : P.length ≤ 24) :
    Calls Tryz.prog 94 #[.agg #[.slice ap P.length cp, h, b], .int .i64 A] w fun e w' => e = .returned (.bool f) ∧ Below w.heap.size w w' := by
  unfold ftP at hf
  have HF2 := hide hf
  have HB := hide (below_box w (.cells #[.slice ap P.length cp, h, b] 26))
  clear hf
  by_cases h0 : 0 ≤ A
  case neg =>
    have ff : f = false := by
      cases f with
      | false => rfl
      | true => exact absurd (HF2.out.1 rfl).1 h0
    subst ff
    go_enter Tryz.func94, Tryz.ntmps94
    go_wp2
    go_ret
    exact ⟨rfl, HB.out⟩
  have ff : f = decide (A ≤ (P.length : Int) - 5) := by
    cases f with
    | false => exact (decide_eq_false (fun h => by have := HF2.out.2 ⟨h0, h⟩; simp at this)).symm
    | true => exact (decide_eq_true (HF2.out.1 rfl).2).symm
  by_cases h5 : A ≤ (P.length : Int) - 5
  · rw [decide_eq_true h5] at ff
    subst ff
    go_enter Tryz.func94, Tryz.ntmps94
    go_wp2
    go_ret
    exact ⟨rfl, HB.out⟩
  · rw [decide_eq_false h5] at ff
    subst ff
    have hd : decide (A ≤ (P.length : Int) - 5) = false := decide_eq_false h5
    go_enter Tryz.func94, Tryz.ntmps94
    go_wp2
    go_ret
    exact ⟨rfl, HB.out⟩

end Go.Proofs.YtbgadbokejaomaaGreatDoor

namespace Go.Proofs.YtbgadbokejaomaaGreatDoor
open Go.RowKit
set_option linter.unusedVariables false

/-- A piece that the program has found, behind its interface. -/
def pv (x : Option (Int × ByteArray)) : Value := match x with | none => .iface 149 (.agg #[]) | some y => .iface 151 (.agg #[.int .i64 y.1, .string y.2])
end Go.Proofs.YtbgadbokejaomaaGreatDoor

namespace Go.Proofs.YtbgadbokejaomaaGreatDoor
open Go.RowKit
set_option linter.unusedVariables false

abbrev Pc := Option (Int × ByteArray)
/-- The value v is a slice that reads as these pieces. -/
def RdP (w : World) (v : Value) (xs : List Pc) : Prop :=
  ∃ a cap, v = .slice a xs.length cap ∧ xs.length ≤ cap ∧ (cap ≤ maxLen ∧ (a = none → cap = 0)) ∧ (xs = [] ∨ ∃ b off, a = some ⟨b, off, none⟩ ∧ b < w.heap.size ∧ ∀ i, i < xs.length → w.cell? ⟨b, off + i, none⟩ = some (pv (xs.getD i none)))
abbrev OwnP (w : World) (base : Nat) (v : Value) (xs : List Pc) : Prop := w.ownsRow base 147 1 v xs.length (xs.map pv)
theorem RdP.below {w w' : World} {v : Value} {xs : List Pc} (h : RdP w v xs) (hb : Below w.heap.size w w') : RdP w' v xs := by
  obtain ⟨a, cap, rfl, h1, h2, h3⟩ := h
  refine ⟨a, cap, rfl, h1, h2, ?_⟩
  rcases h3 with h3 | ⟨b, off, rfl, hlt, hc⟩
  · exact .inl h3
  · exact .inr ⟨b, off, rfl, Nat.lt_of_lt_of_le hlt hb.size, fun i hi => (hb.cell (p := ⟨b, off + i, none⟩) hlt).trans (hc i hi)⟩
theorem OwnP.rd {w : World} {base : Nat} {v : Value} {xs : List Pc} (h : OwnP w base v xs) : RdP w v xs := by
  rcases h.2 with ⟨rfl, hn⟩ | ⟨g, cap, cur, rfl, hb, hg, hc, hm, hs, ht⟩
  · have : xs = [] := List.eq_nil_of_length_eq_zero hn
    subst this
    exact ⟨none, 0, rfl, Nat.le_refl _, ⟨Nat.zero_le _, fun _ => rfl⟩, .inl rfl⟩
  · refine ⟨_, cap, rfl, hc, ⟨hm, fun h => by cases h⟩, .inr ⟨g, 0, rfl, (Array.getElem?_eq_some_iff.1 hg).1, fun i hi => ?_⟩⟩
    have := World.ownsRow.cellAt h i (by omega)
    rw [Nat.zero_add, this]
    simp [hi]
theorem RdP.sl {w : World} {v : Value} {xs : List Pc} (h : RdP w v xs) : ∃ a cap, v = .slice a xs.length cap ∧ xs.length ≤ cap ∧ cap ≤ maxLen := by
  obtain ⟨a, cap, rfl, h1, h2, _⟩ := h
  exact ⟨a, cap, rfl, h1, h2.1⟩
theorem RdP.cell {w : World} {a : Option Addr} {n cap : Nat} {xs : List Pc} (h : RdP w (.slice a n cap) xs) (k : Nat) (hk : k < xs.length) : ∃ b off, a = some ⟨b, off, none⟩ ∧ w.cell? ⟨b, off + k, none⟩ = some (pv (xs.getD k none)) ∧ b < w.heap.size := by
  obtain ⟨a', cap', e, h1, h2, h3⟩ := h
  simp only [Value.slice.injEq] at e
  obtain ⟨rfl, _, rfl⟩ := e
  rcases h3 with h3 | ⟨b, off, rfl, hlt, hc⟩
  · subst h3; simp at hk
  · exact ⟨b, off, rfl, hc k hk, hlt⟩
end Go.Proofs.YtbgadbokejaomaaGreatDoor

namespace Go.Proofs.YtbgadbokejaomaaGreatDoor
open Go.RowKit
set_option linter.unusedVariables false

/-- A row of the call's own, of any type. -/
def TVals (v : Value) (n : Nat) (e : TypeId) (xs : List Value) : Tg := fun lo hi w => w.ownsRow lo e 1 v n xs ∧ ∀ k, v.ownBlock = some k → k < hi
theorem TVals.st (v : Value) (n : Nat) (e : TypeId) (xs : List Value) : (TVals v n e xs).st := fun lo hi a b w w' h hc hd => ⟨ownsRow_chg h.1 h.2 hc hd, h.2⟩
theorem Hand.stored {W w : World} {L : List Tg} {e : TypeId} {g n cap : Nat} {xs : List Value} (h : Hand W w L) (i : Nat) (hi : L[i]? = some (TVals (.slice (some ⟨g, 0, none⟩) n cap) n e xs)) (k : Nat) (hk : k < n) (v : Value) :
    Hand W (w.setCell ⟨g, k, none⟩ v) (L.set i (TVals (.slice (some ⟨g, 0, none⟩) n cap) n e (xs.set k v))) ∧ w.frozen? ⟨g, k, none⟩ = false ∧ ∃ old, w.cell? ⟨g, k, none⟩ = some old := by
  obtain ⟨lo, hi', ⟨o, t⟩, hb, ht, put⟩ := h.open i hi
  have hl : xs.length = n := by have := o.1; simpa using this
  refine ⟨put _ _ (TVals.st _ _ _ _) ⟨(o.stored k v).1, t⟩ (Chg.ofSetCell w g k v (row_low o g rfl) (t g rfl)), o.frozenAt k, ?_⟩
  rw [o.cellAt k (by omega)]
  exact ⟨_, List.getElem?_eq_getElem (by omega)⟩
end Go.Proofs.YtbgadbokejaomaaGreatDoor

namespace Go.Proofs.YtbgadbokejaomaaGreatDoor
open Go.RowKit
set_option linter.unusedVariables false

set_option maxRecDepth 100000 in
theorem liesOn_calls (p h b : Value) (P H : List ByteArray) (B : List Bool) (A : Int) (f : Bool) (w : World) (hf : f = true ↔ (gkP P H B ∧ ftP P A)) (hwf : (Lit.int .i64 A).wf = true) (hp : RdT w p P) (hh : RdT w h H) (hb : RdZ w b B) :
    Calls Tryz.prog 85 #[.agg #[p, h, b], .int .i64 A] w fun e w' => e = .returned (.bool f) ∧ Below w.heap.size w w' := by
  obtain ⟨g, hg⟩ := gk_bool' P H B
  have C := hide (fun W h1 h2 h3 => fitsStripe_calls p h b P H B A g f W hg hf hwf h1 h2 h3)
  have FG : Hid (f = true → g = true) := fun e => hg.2 (hf.1 e).1
  have RP := hide hp
  have RH := hide hh
  have RB := hide hb
  have A0 := hide ((Hand.start w).box #[p, h, b] 26)
  clear hf hg hp hh hb hwf
  go_enter Tryz.func85, Tryz.ntmps85
  go_wp2_with fail
  refine (C.out _ (RP.out.below A0.out.below) (RH.out.below A0.out.below) (RB.out.below A0.out.below)).mono ?_
  rintro e w1 ⟨rfl, q⟩
  have A1 := hide (A0.out.step q)
  clear q A0
  cases f with
  | false =>
    go_wp2
    go_ret
    exact ⟨rfl, A1.out.below⟩
  | true =>
    obtain rfl := FG.out rfl
    go_wp2
    go_ret
    exact ⟨rfl, A1.out.below⟩

end Go.Proofs.YtbgadbokejaomaaGreatDoor

namespace Go.Proofs.YtbgadbokejaomaaGreatDoor
open Go.RowKit
/-- One integer behind a row of the call's own, and where it lies then. -/
theorem wpList_append_int1 {w : World} {ops : Array Oper} {rest : List Oper} {o : Oper} {a : Act} {Q : Exit → Act → World → Prop} (hgd : o.guard = none) (s x : Operand)
    (ho : o.op = .call { callee := .builtin .append, args := #[s, x], argTypes := #[27, 27] })
    (base : Nat) (v : Value) (n : Nat) (xs : List Int) (z : Int) (hs : a.eval s = v) (hown : w.ownsRow base 3 1 v n (xs.map (Value.int .i64))) (gx : Nat) (hx : a.eval x = .slice (some ⟨gx, 0, none⟩) 1 1) (hc : w.cell? ⟨gx, 0, none⟩ = some (.int .i64 z))
    (hm : n ≤ 1000) (hbase : base ≤ w.heap.size)
    (h : ∀ g cap w', w'.ownsRow base 3 1 (.slice (some ⟨g, 0, none⟩) (n + 1) cap) (n + 1) ((xs ++ [z]).map (Value.int .i64)) → w.grownBy w' v.ownBlock → (v.ownBlock = some g ∨ g = w.heap.size) → g < w'.heap.size → wpList Tryz.prog ops Q rest (a.put o.dst (.slice (some ⟨g, 0, none⟩) (n + 1) cap)) w') : wpList Tryz.prog ops Q (o :: rest) a w := by
  obtain ⟨i0, hi, hz0, hz1, hz2⟩ := info_parts infoInt
  refine wpList_append_lies (w := w) hgd s x _ ho base _ i0 (.int .i64 0) 1 8 Tryz.underlying27 hi hz0 hz1 hz2 rfl (by decide) v n _ hs hown ⟨gx, 0, none⟩ 1 1 ([z].map (Value.int .i64)) hx (by simp) ?_ (ints_oneCell _ _) (by decide) (by unfold maxLen; omega) (by omega) hbase _ rfl ?_
  · intro j u hu
    have : j = 0 := by
      have := (List.getElem?_eq_some_iff.1 hu).1
      simpa using this
    subst this
    simp at hu
    subst hu
    simpa [Addr.add] using hc
  · intro g cap w' h1 h2 h3 h4
    rw [← List.map_append] at h1
    exact h g cap w' h1 h2 h3 h4
end Go.Proofs.YtbgadbokejaomaaGreatDoor

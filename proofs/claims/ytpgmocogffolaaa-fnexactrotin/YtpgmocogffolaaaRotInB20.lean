/-
  A step done on a disk of the call's own: the model's l7Step as a whole. The contract says what it asks. RotIn of the program and of the model, call by call. Each contract says what it asks. The law that holds the program's RotIn against its model's: at every scrub, number and text the call returns true, and nothing that was there is written. No condition.
-/
import Derived.Test.YtpgmocogffolaaaRotInB19
import Derived.Test.YtpgmocogffolaaaRotInB18
import Derived.Deep.RegionHeld3
namespace Go.Proofs.Ytpgmocogffolaaa
open Go.RowKit
set_option linter.unusedVariables false

set_option linter.unusedSimpArgs false in
set_option maxRecDepth 100000 in
set_option maxHeartbeats 1600000 in
theorem l7Step_calls (p h b vk : Value) (P H : List ByteArray) (B : List Bool) (K A : Int) (T : ByteArray) (ks : List Int) (lo hi n : Nat) (ok : Bool) (w : World) (d : DskV w lo hi p h b P H B) (hhi : hi ≤ w.heap.size) (hP : P.length = n) (hH : H.length = n) (hB : B.length = n) (hn : 0 < n ∧ n ≤ 24) (kv : ∀ w', Chg lo hi w w' → Rd w' vk ks)
    (hok : ok = true ↔ stOk P H B n K A T ks) (hT : T.size ≤ 1048576) (h28 : ∀ i, i < P.length → (P.getD i ⟨#[]⟩).size ≤ 28) :
    Calls Try.prog 98 #[.agg #[p, h, b], .agg #[.int .i64 K, .int .i64 A, .string T, vk]] w fun e w' => e = .returned (.tuple #[.agg #[p, h, b], .bool ok]) ∧ StepPost lo hi p h b P H B n K A T ks ok w w' := by
  have inn : (0 ≤ A ∧ A < (n : Int)) → ∃ k : Nat, A = (k : Int) ∧ k < n := fun h => ⟨A.toNat, by omega, by omega⟩
  have no : ¬ stOk P H B n K A T ks → ok = false := fun h => by
    cases ok with
    | false => rfl
    | true => exact absurd (hok.1 rfl) h
  by_cases hK2 : K = 2
  · subst hK2
    by_cases hA : A = 0
    case neg =>
      obtain rfl := no (by
        rintro (⟨a,b,c,e⟩|⟨a,b,c,e⟩|⟨a,b,c,e⟩|⟨a,b,c,e⟩|⟨a,b,c,e⟩|⟨a,b,c,e⟩) <;> first | omega | contradiction | exact absurd e.2 h1 | (exfalso; simp_all [hoOk, roOk]; done) | (exfalso; simp_all [roOk]; omega))
      exact (s_at2 p h b vk P H B lo hi n A T ks w d hhi hP hH hB hn kv hA).mono fun e w' ⟨h1, h2, h3⟩ => ⟨h1, fun h => by simp at h, h3⟩
    subst hA
    by_cases hTe : T = ⟨#[]⟩
    case neg =>
      obtain rfl := no (by
        rintro (⟨a,b,c,e⟩|⟨a,b,c,e⟩|⟨a,b,c,e⟩|⟨a,b,c,e⟩|⟨a,b,c,e⟩|⟨a,b,c,e⟩) <;> first | omega | contradiction | exact absurd e.2 h1 | (exfalso; simp_all [hoOk, roOk]; done) | (exfalso; simp_all [roOk]; omega))
      exact (s_text2 p h b vk P H B lo hi n T ks w d hhi hP hH hB hn kv hTe).mono fun e w' ⟨h1, h2, h3⟩ => ⟨h1, fun h => by simp at h, h3⟩
    subst hTe
    by_cases hks : ks = []
    case neg =>
      obtain rfl := no (by
        rintro (⟨a,b,c,e⟩|⟨a,b,c,e⟩|⟨a,b,c,e⟩|⟨a,b,c,e⟩|⟨a,b,c,e⟩|⟨a,b,c,e⟩) <;> first | omega | contradiction | exact absurd e.2 h1 | (exfalso; simp_all [hoOk, roOk]; done) | (exfalso; simp_all [roOk]; omega))
      exact (s_kept2 p h b vk P H B lo hi n ks w d hhi hP hH hB hn kv hks).mono fun e w' ⟨h1, h2, h3⟩ => ⟨h1, fun h => by simp at h, h3⟩
    subst hks
    obtain rfl : ok = true := hok.2 (.inr (.inl ⟨rfl, rfl, rfl, rfl⟩))
    exact s_sync p h b vk P H B lo hi n  w d hhi hP hH hB hn kv 
  by_cases hK3 : K = 3
  · subst hK3
    by_cases hA : A = 0
    case neg =>
      obtain rfl := no (by
        rintro (⟨a,b,c,e⟩|⟨a,b,c,e⟩|⟨a,b,c,e⟩|⟨a,b,c,e⟩|⟨a,b,c,e⟩|⟨a,b,c,e⟩) <;> first | omega | contradiction | exact absurd e.2 h1 | (exfalso; simp_all [hoOk, roOk]; done) | (exfalso; simp_all [roOk]; omega))
      exact (s_at3 p h b vk P H B lo hi n A T ks w d hhi hP hH hB hn kv hA).mono fun e w' ⟨h1, h2, h3⟩ => ⟨h1, fun h => by simp at h, h3⟩
    subst hA
    by_cases hTe : T = ⟨#[]⟩
    case neg =>
      obtain rfl := no (by
        rintro (⟨a,b,c,e⟩|⟨a,b,c,e⟩|⟨a,b,c,e⟩|⟨a,b,c,e⟩|⟨a,b,c,e⟩|⟨a,b,c,e⟩) <;> first | omega | contradiction | exact absurd e.2 h1 | (exfalso; simp_all [hoOk, roOk]; done) | (exfalso; simp_all [roOk]; omega))
      exact (s_text3 p h b vk P H B lo hi n T ks w d hhi hP hH hB hn kv hTe).mono fun e w' ⟨h1, h2, h3⟩ => ⟨h1, fun h => by simp at h, h3⟩
    subst hTe
    exact s_crash p h b vk P H B lo hi n ks ok w d hhi hP hH hB hn kv (by
      rw [hok]
      unfold stOk
      simp)
  by_cases hA : 0 ≤ A ∧ A < (n : Int)
  case neg =>
    obtain rfl := no (by
      rintro (⟨a,b,c,e⟩|⟨a,b,c,e⟩|⟨a,b,c,e⟩|⟨a,b,c,e⟩|⟨a,b,c,e⟩|⟨a,b,c,e⟩) <;> first | omega | contradiction | exact absurd e.2 h1 | (exfalso; simp_all [hoOk, roOk]; done) | (exfalso; simp_all [roOk]; omega))
    exact (s_out p h b vk P H B lo hi n K A T ks w d hhi hP hH hB hn kv hK2 hK3 hA).mono fun e w' ⟨h1, h2, h3⟩ => ⟨h1, fun h => by simp at h, h3⟩
  obtain ⟨k, rfl, hk⟩ := inn hA
  by_cases hks : ks = []
  case neg =>
    obtain rfl := no (by
      rintro (⟨a,b,c,e⟩|⟨a,b,c,e⟩|⟨a,b,c,e⟩|⟨a,b,c,e⟩|⟨a,b,c,e⟩|⟨a,b,c,e⟩) <;> first | omega | contradiction | exact absurd e.2 h1 | (exfalso; simp_all [hoOk, roOk]; done) | (exfalso; simp_all [roOk]; omega))
    exact (s_more p h b vk P H B lo hi n K k T ks w d hhi hP hH hB hn kv hK2 hK3 hk hks).mono fun e w' ⟨h1, h2, h3⟩ => ⟨h1, fun h => by simp at h, h3⟩
  subst hks
  by_cases hK1 : K = 1
  · subst hK1
    by_cases hBk : B.getD k false = true
    · obtain rfl := no (by
        rintro (⟨a,b,c,e⟩|⟨a,b,c,e⟩|⟨a,b,c,e⟩|⟨a,b,c,e⟩|⟨a,b,c,e⟩|⟨a,b,c,e⟩) <;> first | omega | contradiction | exact absurd e.2 h1 | (exfalso; simp_all [hoOk, roOk]; done) | (exfalso; simp_all [roOk]; omega))
      exact (s_1a p h b vk P H B lo hi n k T w d hhi hP hH hB hn kv hk hBk).mono fun e w' ⟨h1, h2, h3⟩ => ⟨h1, fun h => by simp at h, h3⟩
    have hBk : B.getD k false = false := by simpa using hBk
    by_cases h1 : 1 ≤ T.size ∧ T.size ≤ 28
    case neg =>
      obtain rfl := no (by
        rintro (⟨a,b,c,e⟩|⟨a,b,c,e⟩|⟨a,b,c,e⟩|⟨a,b,c,e⟩|⟨a,b,c,e⟩|⟨a,b,c,e⟩) <;> first | omega | contradiction | exact absurd e.2 h1 | (exfalso; simp_all [hoOk, roOk]; done) | (exfalso; simp_all [roOk]; omega))
      exact (s_1b p h b vk P H B lo hi n k T w d hhi hP hH hB hn kv hk hBk hT h1).mono fun e w' ⟨h1, h2, h3⟩ => ⟨h1, fun h => by simp at h, h3⟩
    obtain rfl : ok = true := hok.2 (.inl ⟨rfl, rfl, hA, hBk, h1.1, h1.2⟩)
    exact s_1c p h b vk P H B lo hi n k T w d hhi hP hH hB hn kv hk hBk h1.1 h1.2
  by_cases hK4 : K = 4
  · subst hK4
    by_cases hz : H.getD k ⟨#[]⟩ = ⟨#[]⟩
    case neg =>
      obtain rfl := no (by
        rintro (⟨a,b,c,e⟩|⟨a,b,c,e⟩|⟨a,b,c,e⟩|⟨a,b,c,e⟩|⟨a,b,c,e⟩|⟨a,b,c,e⟩) <;> first | omega | contradiction | exact absurd e.2 h1 | (exfalso; simp_all [hoOk, roOk]; done) | (exfalso; simp_all [roOk]; omega))
      exact (s_4a p h b vk P H B lo hi n k T w d hhi hP hH hB hn kv hk hz).mono fun e w' ⟨h1, h2, h3⟩ => ⟨h1, fun h => by simp at h, h3⟩
    by_cases h1 : 1 ≤ T.size ∧ T.size ≤ (P.getD k ⟨#[]⟩).size
    case neg =>
      by_cases hs : P.getD k ⟨#[]⟩ = ⟨#[]⟩
      · obtain rfl := no (by
          rintro (⟨a,b,c,e⟩|⟨a,b,c,e⟩|⟨a,b,c,e⟩|⟨a,b,c,e⟩|⟨a,b,c,e⟩|⟨a,b,c,e⟩) <;> first | omega | contradiction | exact absurd e.2 h1 | (exfalso; simp_all [hoOk, roOk]; done) | (exfalso; simp_all [roOk]; omega))
        exact (s_4b p h b vk P H B lo hi n k T w d hhi hP hH hB hn kv hk hz hs).mono fun e w' ⟨h1, h2, h3⟩ => ⟨h1, fun h => by simp at h, h3⟩
      · obtain rfl := no (by
          rintro (⟨a,b,c,e⟩|⟨a,b,c,e⟩|⟨a,b,c,e⟩|⟨a,b,c,e⟩|⟨a,b,c,e⟩|⟨a,b,c,e⟩) <;> first | omega | contradiction | exact absurd e.2 h1 | (exfalso; simp_all [hoOk, roOk]; done) | (exfalso; simp_all [roOk]; omega))
        exact (s_4c p h b vk P H B lo hi n k T w d hhi hP hH hB hn kv hk hz hs hT (h28 k (by omega)) h1).mono fun e w' ⟨h1, h2, h3⟩ => ⟨h1, fun h => by simp at h, h3⟩
    obtain rfl : ok = true := hok.2 (.inr (.inr (.inr (.inl ⟨rfl, rfl, hA, hz, h1.1, h1.2⟩))))
    exact s_4 p h b vk P H B lo hi n k T w d hhi hP hH hB hn kv hk hz (h28 k (by omega)) h1.1 h1.2
  by_cases hK5 : K = 5
  · subst hK5
    by_cases hTe : T = ⟨#[]⟩
    case neg =>
      obtain rfl := no (by
        rintro (⟨a,b,c,e⟩|⟨a,b,c,e⟩|⟨a,b,c,e⟩|⟨a,b,c,e⟩|⟨a,b,c,e⟩|⟨a,b,c,e⟩) <;> first | omega | contradiction | exact absurd e.2 h1 | (exfalso; simp_all [hoOk, roOk]; done) | (exfalso; simp_all [roOk]; omega))
      exact (s_5T p h b vk P H B lo hi n k T w d hhi hP hH hB hn kv hk hTe).mono fun e w' ⟨h1, h2, h3⟩ => ⟨h1, fun h => by simp at h, h3⟩
    subst hTe
    obtain rfl : ok = true := hok.2 (.inr (.inr (.inr (.inr (.inl ⟨rfl, rfl, rfl, hA⟩)))))
    exact s_5 p h b vk P H B lo hi n k w d hhi hP hH hB hn kv hk
  by_cases hK6 : K = 6
  · subst hK6
    by_cases hTe : T = ⟨#[]⟩
    case neg =>
      obtain rfl := no (by
        rintro (⟨a,b,c,e⟩|⟨a,b,c,e⟩|⟨a,b,c,e⟩|⟨a,b,c,e⟩|⟨a,b,c,e⟩|⟨a,b,c,e⟩) <;> first | omega | contradiction | exact absurd e.2 h1 | (exfalso; simp_all [hoOk, roOk]; done) | (exfalso; simp_all [roOk]; omega))
      exact (s_6T p h b vk P H B lo hi n k T w d hhi hP hH hB hn kv hk hTe).mono fun e w' ⟨h1, h2, h3⟩ => ⟨h1, fun h => by simp at h, h3⟩
    subst hTe
    by_cases hBk : B.getD k false = true
    case neg =>
      have hBk : B.getD k false = false := by simpa using hBk
      obtain rfl := no (by
        rintro (⟨a,b,c,e⟩|⟨a,b,c,e⟩|⟨a,b,c,e⟩|⟨a,b,c,e⟩|⟨a,b,c,e⟩|⟨a,b,c,e⟩) <;> first | omega | contradiction | exact absurd e.2 h1 | (exfalso; simp_all [hoOk, roOk]; done) | (exfalso; simp_all [roOk]; omega))
      exact (s_6a p h b vk P H B lo hi n k w d hhi hP hH hB hn kv hk hBk).mono fun e w' ⟨h1, h2, h3⟩ => ⟨h1, fun h => by simp at h, h3⟩
    obtain rfl : ok = true := hok.2 (.inr (.inr (.inr (.inr (.inr ⟨rfl, rfl, rfl, hA, hBk⟩)))))
    exact s_6 p h b vk P H B lo hi n k w d hhi hP hH hB hn kv hk hBk
  obtain rfl := no (by
    rintro (⟨a,b,c,e⟩|⟨a,b,c,e⟩|⟨a,b,c,e⟩|⟨a,b,c,e⟩|⟨a,b,c,e⟩|⟨a,b,c,e⟩) <;> first | omega | contradiction | exact absurd e.2 h1 | (exfalso; simp_all [hoOk, roOk]; done) | (exfalso; simp_all [roOk]; omega))
  exact (s_other p h b vk P H B lo hi n K k T w d hhi hP hH hB hn kv hK1 hK2 hK3 hK4 hK5 hK6 hk).mono fun e w' ⟨h1, h2, h3⟩ => ⟨h1, fun h => by simp at h, h3⟩
end Go.Proofs.Ytpgmocogffolaaa

namespace Go.Proofs.Ytpgmocogffolaaa
open Go.RowKit
set_option linter.unusedVariables false
set_option linter.unusedSimpArgs false

def ifS {α : Type} (ok : Bool) (l : List α) : List α := if ok = true then l else []
def ifI (ok : Bool) (x : Int) : Int := if ok = true then x else 0
/-- A rot can be done. -/
def rotQ (P H : List ByteArray) (B : List Bool) (es : List Int) (cu me A : Int) (T : ByteArray) : Prop := scOk P H B es cu me ∧ T.size ≤ 4 ∧ stOk P H B P.length 4 A T []
/-- What is on the Plate then. -/
def rotP (P : List ByteArray) (A : Int) (T : ByteArray) : List ByteArray := P.set A.toNat (rotT (P.getD A.toNat ⟨#[]⟩) T)
theorem rot_not (P H : List ByteArray) (B : List Bool) (n : Nat) (A : Int) (T : ByteArray) (h : stOk P H B n 4 A T []) : 1 ≤ T.size := by
  rcases h with ⟨h0, _⟩ | ⟨h0, _⟩ | ⟨h0, _⟩ | ⟨_, _, _, h⟩ | ⟨h0, _⟩ | ⟨h0, _⟩
  all_goals first
    | (exact absurd h0 (by decide))
    | (unfold roOk at h; omega)


set_option maxRecDepth 100000 in
set_option maxHeartbeats 1600000 in
theorem rotIn_calls (p h b e : Value) (cu me A : Int) (T : ByteArray) (P H : List ByteArray) (B : List Bool) (es : List Int) (ok : Bool) (w : World) (d : RdSc w p h b e P H B es) (hok : ok = true ↔ rotQ P H B es cu me A T) (hT : T.size ≤ maxLen) :
    Calls Try.prog 41 #[.agg (scC p h b e cu me), .int .i64 A, .string T] w fun x w' => ∃ p' h' b' e', x = .returned (.tuple #[.agg (scC p' h' b' e' (ifI ok cu) (ifI ok me)), .bool ok]) ∧ SrbV w' w.heap.size w'.heap.size p' h' b' e' (ifS ok (rotP P A T)) (ifS ok H) (ifS ok B) (ifS ok es) ∧ Below w.heap.size w w' := by
  obtain ⟨ap, cp, ah, ch, ab, cb, ae, ce, rfl, rfl, rfl, rfl⟩ := d.sl
  have A0 := hide (Hand.two w (scC (.slice ap P.length cp) (.slice ah H.length ch) (.slice ab B.length cb) (.slice ae es.length ce) cu me) sc0 57 57)
  have D := hide d
  have D0 := hide (d.below A0.out.below)
  obtain ⟨g, hg⟩ := bol_exS (scOk P H B es cu me)
  have HG := hide hg
  have GD := hide (fun W q => goodScrub_calls (.slice ap P.length cp) (.slice ah H.length ch) (.slice ab B.length cb) (.slice ae es.length ce) cu me P H B es g W q hg)
  have HOK := hide hok
  unfold maxLen at hT
  clear d hok hg
  obtain ⟨x0, x1, x2, x3, x4, x5⟩ := (A0.out.atBox 1 rfl).c6
  go_enter Try.func41, Try.ntmps41
  go_wp2_with fail
  refine (GD.out _ D0.out).mono ?_
  rintro x w1 ⟨rfl, q⟩
  have A1 := hide (A0.out.step q)
  clear q A0 D0 GD x0 x1 x2 x3 x4 x5
  obtain ⟨x0, x1, x2, x3, x4, x5⟩ := (A1.out.atBox 1 rfl).c6
  cases g with
  | false =>
    obtain rfl : ok = false := by cases ok with | false => rfl | true => have := HG.out.2 (HOK.out.1 rfl).1; simp at this
    have xr := A1.out.atBox 0 rfl
    obtain ⟨d0, d1, d2, d3, d4, d5⟩ := xr.c6
    have g0 := xr.frozen 0
    have g1 := xr.frozen 1
    have g2 := xr.frozen 2
    have g3 := xr.frozen 3
    have g4 := xr.frozen 4
    have g5 := xr.frozen 5
    have AZ := hide (A1.out.store6 0 rfl (.slice none 0 0) (.slice none 0 0) (.slice none 0 0) (.slice none 0 0) (.int .i64 0) (.int .i64 0))
    clear xr
    go_wp2
    exact bodyPost_ret (res_sc2 rfl _ _ (w.heap.size + 1) _ _ _ _ _ _ (0, 0) rfl (AZ.out.atBox 0 rfl)) rfl ⟨_, _, _, _, rfl, SrbV.nil _ _ _ AZ.out.below.size, AZ.out.below⟩
  | true =>
  have SC := hide (HG.out.1 rfl)
  obtain ⟨n14, nep, n5, gk, ncm⟩ := SC.out
  have CS := hide (fun W q => copyScrub_calls (.slice ap P.length cp) (.slice ah H.length ch) (.slice ab B.length cb) (.slice ae es.length ce) cu me P H B es W q gk (by omega))
  have L1 : P.length ≤ 24 := by omega
  have L2 := hide gk.2.1
  have L3 := hide gk.2.2.1
  have L0 : 0 < P.length := by omega
  have P28 := hide gk.2.2.2.1
  clear n5 nep ncm
  obtain ⟨z, hz⟩ := st_bool P H B P.length 4 A T []
  have HZ := hide hz

  by_cases h4 : T.size ≤ 4
  case neg =>
    have h4' : (4 : Int) < (T.size : Int) := by omega
    obtain rfl : ok = false := by cases ok with | false => rfl | true => exact absurd (HOK.out.1 rfl).2.1 h4
    have xr := A1.out.atBox 0 rfl
    obtain ⟨d0, d1, d2, d3, d4, d5⟩ := xr.c6
    have g0 := xr.frozen 0
    have g1 := xr.frozen 1
    have g2 := xr.frozen 2
    have g3 := xr.frozen 3
    have g4 := xr.frozen 4
    have g5 := xr.frozen 5
    have AZ := hide (A1.out.store6 0 rfl (.slice none 0 0) (.slice none 0 0) (.slice none 0 0) (.slice none 0 0) (.int .i64 0) (.int .i64 0))
    clear xr
    go_wp2
    exact bodyPost_ret (res_sc2 rfl _ _ (w.heap.size + 1) _ _ _ _ _ _ (0, 0) rfl (AZ.out.atBox 0 rfl)) rfl ⟨_, _, _, _, rfl, SrbV.nil _ _ _ AZ.out.below.size, AZ.out.below⟩
  case pos =>
  have h4' : (T.size : Int) ≤ 4 := by omega
  have h4b : ¬ (4 : Int) < (T.size : Int) := by omega
  go_wp2_with fail
  go_at_call 99
  refine (CS.out _ (D.out.below A1.out.below)).mono ?_
  rintro x w2 ⟨p2, h2, b2, e2, rfl, dk, q⟩
  obtain ⟨a1, k1, a2, k2, a3, k3, a4, k4, rfl, rfl, rfl, rfl⟩ := dk.sl
  have A2 := hide ((A1.out.add q (TSrb.st _ _ _ _ _ _ _ _) dk).box (scC (.slice a1 P.length k1) (.slice a2 H.length k2) (.slice a3 B.length k3) (.slice a4 es.length k4) cu me) 57)
  clear q dk A1 CS x0 x1 x2 x3 x4 x5
  obtain ⟨x0, x1, x2, x3, x4, x5⟩ := (A2.out.atBox 0 rfl).c6
  obtain ⟨lo, hi, d3, lw, hw, put⟩ := A2.out.open 1 rfl
  have d3' : SrbV _ lo hi (.slice a1 P.length k1) (.slice a2 H.length k2) (.slice a3 B.length k3) (.slice a4 es.length k4) P H B es := d3
  obtain ⟨l, u, h1, hd, ho1⟩ := d3'.disk
  have OE := hide d3'.eps
  have TE := hide d3'.te
  have PUT := hide put
  have DD := hide hd
  have DC := hide (fun (W : World) (dd : DskV W l u (.slice a1 P.length k1) (.slice a2 H.length k2) (.slice a3 B.length k3) P H B) (hh : u ≤ W.heap.size) => doStep_calls (.slice a1 P.length k1) (.slice a2 H.length k2) (.slice a3 B.length k3) (.slice none 0 0) P H B 4 A T [] l u P.length z W dd hh rfl L2.out L3.out ⟨L0, L1⟩ (fun w' _ => rd_nilJ w') (.inl ⟨.inr rfl, rfl⟩) hz (by omega) (by simp) P28.out)
  have HU := hide (Nat.le_trans h1.2 hw)
  clear d3 d3' hd put hz gk

  go_wp2_with fail
  refine (DC.out _ DD.out HU.out).mono ?_
  rintro x w3 ⟨rfl, sp1, sp2⟩
  cases z with
  | false =>
    have A3 := hide (PUT.out w3 (fun _ _ _ => True) (fun _ _ _ _ _ _ _ _ _ => trivial) trivial (sp2.wider h1.1 h1.2))
    clear sp1 sp2 A2 PUT DD DC x0 x1 x2 x3 x4 x5
    obtain rfl : ok = false := by cases ok with | false => rfl | true => have := HZ.out.2 (HOK.out.1 rfl).2.2; simp at this
    have xr := A3.out.atBox 2 rfl
    obtain ⟨d0, d1, d2, d3, d4, d5⟩ := xr.c6
    have g0 := xr.frozen 0
    have g1 := xr.frozen 1
    have g2 := xr.frozen 2
    have g3 := xr.frozen 3
    have g4 := xr.frozen 4
    have g5 := xr.frozen 5
    have AZ := hide (A3.out.store6 2 rfl (.slice none 0 0) (.slice none 0 0) (.slice none 0 0) (.slice none 0 0) (.int .i64 0) (.int .i64 0))
    clear xr
    go_wp2
    exact bodyPost_ret (res_sc2 rfl _ _ (w.heap.size + 1) _ _ _ _ _ _ (0, 0) rfl (AZ.out.atBox 2 rfl)) rfl ⟨_, _, _, _, rfl, SrbV.nil _ _ _ AZ.out.below.size, AZ.out.below⟩
  | true =>
    have d4 := sp1 rfl
    have A3 := hide (PUT.out w3 (TSrb (.slice a1 P.length k1) (.slice a2 H.length k2) (.slice a3 B.length k3) (.slice a4 es.length k4) (rotP P A T) H B es) (TSrb.st _ _ _ _ _ _ _ _) ⟨⟨l, u, h1, d4, ho1⟩, own_outJ OE.out ho1 sp2, TE.out⟩ (sp2.wider h1.1 h1.2))
    clear d4 sp1 sp2 A2 PUT DD DC x0 x1 x2 x3 x4 x5
    obtain rfl : ok = true := HOK.out.2 ⟨SC.out, h4, HZ.out.1 rfl⟩
    obtain ⟨x0, x1, x2, x3, x4, x5⟩ := (A3.out.atBox 0 rfl).c6
    have xr := A3.out.atBox 2 rfl
    obtain ⟨d0, d1, d2, d3, d4, d5⟩ := xr.c6
    have g0 := xr.frozen 0
    have g1 := xr.frozen 1
    have g2 := xr.frozen 2
    have g3 := xr.frozen 3
    have g4 := xr.frozen 4
    have g5 := xr.frozen 5
    have AZ := hide (A3.out.store6 2 rfl (.slice a1 P.length k1) (.slice a2 H.length k2) (.slice a3 B.length k3) (.slice a4 es.length k4) (.int .i64 cu) (.int .i64 me))
    clear xr
    go_wp2
    obtain ⟨lo', hi', d6, lw', hw', _⟩ := AZ.out.open 1 rfl
    have D6 : SrbV _ lo' hi' (.slice a1 P.length k1) (.slice a2 H.length k2) (.slice a3 B.length k3) (.slice a4 es.length k4) (rotP P A T) H B es := d6
    exact bodyPost_ret (res_sc2 rfl _ _ (w.heap.size + 1) _ _ _ _ _ _ (0, 0) rfl (AZ.out.atBox 2 rfl)) rfl ⟨_, _, _, _, rfl, D6.wider lw' hw', AZ.out.below⟩

set_option maxRecDepth 100000 in
set_option maxHeartbeats 1600000 in
theorem sRotIn_calls (p h b e : Value) (cu me A : Int) (T : ByteArray) (P H : List ByteArray) (B : List Bool) (es : List Int) (ok : Bool) (w : World) (d : RdSc w p h b e P H B es) (hok : ok = true ↔ rotQ P H B es cu me A T) (hT : T.size ≤ maxLen) :
    Calls Try.prog 40 #[.agg (scC p h b e cu me), .int .i64 A, .string T] w fun x w' => ∃ p' h' b' e', x = .returned (.tuple #[.agg (scC p' h' b' e' (ifI ok cu) (ifI ok me)), .bool ok]) ∧ SrbV w' w.heap.size w'.heap.size p' h' b' e' (ifS ok (rotP P A T)) (ifS ok H) (ifS ok B) (ifS ok es) ∧ Below w.heap.size w w' := by
  obtain ⟨ap, cp, ah, ch, ab, cb, ae, ce, rfl, rfl, rfl, rfl⟩ := d.sl
  have A0 := hide (Hand.two w (scC (.slice ap P.length cp) (.slice ah H.length ch) (.slice ab B.length cb) (.slice ae es.length ce) cu me) sc0 57 57)
  have D := hide d
  have D0 := hide (d.below A0.out.below)
  obtain ⟨g, hg⟩ := bol_exS (scOk P H B es cu me)
  have HG := hide hg
  have GD := hide (fun W q => sGoodScrub_calls (.slice ap P.length cp) (.slice ah H.length ch) (.slice ab B.length cb) (.slice ae es.length ce) cu me P H B es g W q hg)
  have HOK := hide hok
  unfold maxLen at hT
  clear d hok hg
  obtain ⟨x0, x1, x2, x3, x4, x5⟩ := (A0.out.atBox 1 rfl).c6
  go_enter Try.func40, Try.ntmps40
  go_wp2_with fail
  refine (GD.out _ D0.out).mono ?_
  rintro x w1 ⟨rfl, q⟩
  have A1 := hide (A0.out.step q)
  clear q A0 D0 GD x0 x1 x2 x3 x4 x5
  obtain ⟨x0, x1, x2, x3, x4, x5⟩ := (A1.out.atBox 1 rfl).c6
  cases g with
  | false =>
    obtain rfl : ok = false := by cases ok with | false => rfl | true => have := HG.out.2 (HOK.out.1 rfl).1; simp at this
    have xr := A1.out.atBox 0 rfl
    obtain ⟨d0, d1, d2, d3, d4, d5⟩ := xr.c6
    have g0 := xr.frozen 0
    have g1 := xr.frozen 1
    have g2 := xr.frozen 2
    have g3 := xr.frozen 3
    have g4 := xr.frozen 4
    have g5 := xr.frozen 5
    have AZ := hide (A1.out.store6 0 rfl (.slice none 0 0) (.slice none 0 0) (.slice none 0 0) (.slice none 0 0) (.int .i64 0) (.int .i64 0))
    clear xr
    go_wp2
    exact bodyPost_ret (res_sc2 rfl _ _ (w.heap.size + 1) _ _ _ _ _ _ (0, 0) rfl (AZ.out.atBox 0 rfl)) rfl ⟨_, _, _, _, rfl, SrbV.nil _ _ _ AZ.out.below.size, AZ.out.below⟩
  | true =>
  have SC := hide (HG.out.1 rfl)
  obtain ⟨n14, nep, n5, gk, ncm⟩ := SC.out
  have CS := hide (fun W q => l16Own_calls (.slice ap P.length cp) (.slice ah H.length ch) (.slice ab B.length cb) (.slice ae es.length ce) cu me P H B es W q gk (by omega))
  have L1 : P.length ≤ 24 := by omega
  have L2 := hide gk.2.1
  have L3 := hide gk.2.2.1
  have L0 : 0 < P.length := by omega
  have P28 := hide gk.2.2.2.1
  clear n5 nep ncm
  obtain ⟨z, hz⟩ := st_bool P H B P.length 4 A T []
  have HZ := hide hz

  obtain ⟨c, hc⟩ := bol_exS (1 ≤ (T.size : Int) ∧ (T.size : Int) ≤ 4)
  have CI := hide (fun W => lIn_calls (T.size : Int) 1 4 c W hc)
  have HC := hide hc
  clear hc
  go_wp2_with fail
  refine (CI.out _).mono ?_
  rintro x w2 ⟨rfl, rfl⟩
  cases c with
  | false =>
    obtain rfl : ok = false := by
      cases ok with
      | false => rfl
      | true =>
        have q := HOK.out.1 rfl
        have := rot_not _ _ _ _ _ _ q.2.2
        have := HC.out.2 ⟨by omega, by have := q.2.1; omega⟩
        simp at this
    have xr := A1.out.atBox 0 rfl
    obtain ⟨d0, d1, d2, d3, d4, d5⟩ := xr.c6
    have g0 := xr.frozen 0
    have g1 := xr.frozen 1
    have g2 := xr.frozen 2
    have g3 := xr.frozen 3
    have g4 := xr.frozen 4
    have g5 := xr.frozen 5
    have AZ := hide (A1.out.store6 0 rfl (.slice none 0 0) (.slice none 0 0) (.slice none 0 0) (.slice none 0 0) (.int .i64 0) (.int .i64 0))
    clear xr
    go_wp2
    exact bodyPost_ret (res_sc2 rfl _ _ (w.heap.size + 1) _ _ _ _ _ _ (0, 0) rfl (AZ.out.atBox 0 rfl)) rfl ⟨_, _, _, _, rfl, SrbV.nil _ _ _ AZ.out.below.size, AZ.out.below⟩
  | true =>
  have h4 : T.size ≤ 4 := by have := HC.out.1 rfl; omega
  go_wp2_with fail
  go_at_call 97
  refine (CS.out _ (D.out.below A1.out.below)).mono ?_
  rintro x w2 ⟨p2, h2, b2, e2, rfl, dk, q⟩
  obtain ⟨a1, k1, a2, k2, a3, k3, a4, k4, rfl, rfl, rfl, rfl⟩ := dk.sl
  have A2 := hide ((A1.out.add q (TSrb.st _ _ _ _ _ _ _ _) dk).box (scC (.slice a1 P.length k1) (.slice a2 H.length k2) (.slice a3 B.length k3) (.slice a4 es.length k4) cu me) 57)
  clear q dk A1 CS x0 x1 x2 x3 x4 x5
  obtain ⟨x0, x1, x2, x3, x4, x5⟩ := (A2.out.atBox 0 rfl).c6
  obtain ⟨lo, hi, d3, lw, hw, put⟩ := A2.out.open 1 rfl
  have d3' : SrbV _ lo hi (.slice a1 P.length k1) (.slice a2 H.length k2) (.slice a3 B.length k3) (.slice a4 es.length k4) P H B es := d3
  obtain ⟨l, u, h1, hd, ho1⟩ := d3'.disk
  have OE := hide d3'.eps
  have TE := hide d3'.te
  have PUT := hide put
  have DD := hide hd
  have DC := hide (fun (W : World) (dd : DskV W l u (.slice a1 P.length k1) (.slice a2 H.length k2) (.slice a3 B.length k3) P H B) (hh : u ≤ W.heap.size) => l7Step_calls (.slice a1 P.length k1) (.slice a2 H.length k2) (.slice a3 B.length k3) (.slice none 0 0) P H B 4 A T [] l u P.length z W dd hh rfl L2.out L3.out ⟨L0, L1⟩ (fun w' _ => rd_nilJ w') hz (by omega) P28.out)
  have HU := hide (Nat.le_trans h1.2 hw)
  clear d3 d3' hd put hz gk

  go_wp2_with fail
  refine (DC.out _ DD.out HU.out).mono ?_
  rintro x w3 ⟨rfl, sp1, sp2⟩
  cases z with
  | false =>
    have A3 := hide ((PUT.out w3 (fun _ _ _ => True) (fun _ _ _ _ _ _ _ _ _ => trivial) trivial (sp2.wider h1.1 h1.2)).box #[.slice a1 P.length k1, .slice a2 H.length k2, .slice a3 B.length k3] 30)
    clear sp1 sp2 A2 PUT DD DC x0 x1 x2 x3 x4 x5
    obtain rfl : ok = false := by cases ok with | false => rfl | true => have := HZ.out.2 (HOK.out.1 rfl).2.2; simp at this
    have xr := A3.out.atBox 3 rfl
    obtain ⟨d0, d1, d2, d3, d4, d5⟩ := xr.c6
    have g0 := xr.frozen 0
    have g1 := xr.frozen 1
    have g2 := xr.frozen 2
    have g3 := xr.frozen 3
    have g4 := xr.frozen 4
    have g5 := xr.frozen 5
    have AZ := hide (A3.out.store6 3 rfl (.slice none 0 0) (.slice none 0 0) (.slice none 0 0) (.slice none 0 0) (.int .i64 0) (.int .i64 0))
    clear xr
    go_wp2
    exact bodyPost_ret (res_sc2 rfl _ _ (w.heap.size + 1) _ _ _ _ _ _ (0, 0) rfl (AZ.out.atBox 3 rfl)) rfl ⟨_, _, _, _, rfl, SrbV.nil _ _ _ AZ.out.below.size, AZ.out.below⟩
  | true =>
    have d4 := sp1 rfl
    have A3 := hide ((PUT.out w3 (TSrb (.slice a1 P.length k1) (.slice a2 H.length k2) (.slice a3 B.length k3) (.slice a4 es.length k4) (rotP P A T) H B es) (TSrb.st _ _ _ _ _ _ _ _) ⟨⟨l, u, h1, d4, ho1⟩, own_outJ OE.out ho1 sp2, TE.out⟩ (sp2.wider h1.1 h1.2)).box #[.slice a1 P.length k1, .slice a2 H.length k2, .slice a3 B.length k3] 30)
    clear d4 sp1 sp2 A2 PUT DD DC x0 x1 x2 x3 x4 x5
    obtain rfl : ok = true := HOK.out.2 ⟨SC.out, h4, HZ.out.1 rfl⟩
    obtain ⟨y0, y1, y2⟩ := (A3.out.atBox 0 rfl).c3
    have xl := A3.out.atBox 1 rfl
    obtain ⟨x0, x1, x2, x3, x4, x5⟩ := xl.c6
    have f0 := xl.frozen 0
    have f1 := xl.frozen 1
    have f2 := xl.frozen 2
    have A4 := hide (A3.out.lay3S 1 rfl (.slice a1 P.length k1) (.slice a2 H.length k2) (.slice a3 B.length k3))
    have xr := A4.out.atBox 3 rfl
    obtain ⟨d0, d1, d2, d3, d4, d5⟩ := xr.c6
    have g0 := xr.frozen 0
    have g1 := xr.frozen 1
    have g2 := xr.frozen 2
    have g3 := xr.frozen 3
    have g4 := xr.frozen 4
    have g5 := xr.frozen 5
    have AZ := hide (A4.out.store6 3 rfl (.slice a1 P.length k1) (.slice a2 H.length k2) (.slice a3 B.length k3) (.slice a4 es.length k4) (.int .i64 cu) (.int .i64 me))
    clear xr xl
    go_wp2
    obtain ⟨lo', hi', d6, lw', hw', _⟩ := AZ.out.open 2 rfl
    have D6 : SrbV _ lo' hi' (.slice a1 P.length k1) (.slice a2 H.length k2) (.slice a3 B.length k3) (.slice a4 es.length k4) (rotP P A T) H B es := d6
    exact bodyPost_ret (res_sc2 rfl _ _ (w.heap.size + 1) _ _ _ _ _ _ (0, 0) rfl (AZ.out.atBox 3 rfl)) rfl ⟨_, _, _, _, rfl, D6.wider lw' hw', AZ.out.below⟩
end Go.Proofs.Ytpgmocogffolaaa

namespace Go.Proofs.Ytpgmocogffolaaa
open Go.RowKit
set_option linter.unusedVariables false
set_option linter.unusedSimpArgs false

theorem rot_sz {P H : List ByteArray} {B : List Bool} {es : List Int} {cu me A : Int} {T : ByteArray} {ok : Bool} (h : ok = true ↔ rotQ P H B es cu me A T) : SzSc (ifS ok (rotP P A T)) (ifS ok H) (ifS ok B) (ifS ok es) := by
  cases ok with
  | false => simp [SzSc, SzD, ifS]
  | true =>
    obtain ⟨⟨n14, _, n5, gk, _⟩, _⟩ := h.1 rfl
    have l1 := gk.1
    have l2 := gk.2.1
    have l3 := gk.2.2.1
    simp only [SzSc, SzD, ifS, if_true, rotP, List.length_set]
    omega

set_option maxRecDepth 100000 in
set_option maxHeartbeats 3200000 in
theorem fnExactRotIn_walk (p h b e : Value) (cu me : Int) (P H : List ByteArray) (B : List Bool) (es : List Int) (A : Int) (T : ByteArray) (w : World) (d : RdSc w p h b e P H B es) (hwf : (Lit.int .i64 A).wf = true) (hT : T.size ≤ maxLen) :
    Calls Try.prog 8 #[.agg (scC p h b e cu me), .int .i64 A, .string T] w fun x w' => x = .returned (.bool true) ∧ Below w.heap.size w w' := by
  have D := hide d
  clear d
  obtain ⟨ok, hok⟩ := bol_exS (rotQ P H B es cu me A T)
  have C1 := hide (fun W p h b e q => sRotIn_calls p h b e cu me A T P H B es ok W q hok hT)
  have C2 := hide (fun W p h b e q => rotIn_calls p h b e cu me A T P H B es ok W q hok hT)
  have XZ := hide (rot_sz hok)
  have ms := hT
  unfold maxLen at ms
  clear hok hT
  generalize ifS ok (rotP P A T) = XP at C1 C2 XZ
  generalize ifS ok (H) = XH at C1 C2 XZ
  generalize ifS ok B = XB at C1 C2 XZ
  generalize ifS ok (es) = XE at C1 C2 XZ
  generalize ifI ok cu = xcu at C1 C2
  generalize ifI ok me = xme at C1 C2
  have A0 := hide ((Hand.start w).box (scC p h b e cu me) 53)
  go_enter Try.func8, Try.ntmps8
  by_cases ns : T.size ≤ 1048576
  case neg =>
    have ns1 : (1048576 : Int) < (T.size : Int) := by omega
    go_wp2
    go_ret
    exact ⟨rfl, A0.out.below⟩
  have ns2 : ¬ (1048576 : Int) < (T.size : Int) := by omega
  obtain ⟨caS0, caS1, caS2, caS3, caS4, caS5⟩ := (A0.out.atBox 0 rfl).c6
  go_wp2_with fail
  refine (szScrub_calls p h b e cu me P H B es _ (D.out.below A0.out.below)).mono ?_
  rintro e w1 ⟨⟨r, rfl, hr⟩, q⟩
  have A1 := hide (A0.out.step q)
  clear A0 caS0 caS1 caS2 caS3 caS4 caS5 q
  by_cases r0 : r < 0
  · go_wp2
    go_ret
    exact ⟨rfl, A1.out.below⟩
  have SZ := hide (hr.resolve_left r0).2.2
  have r1 := (hr.resolve_left r0).2.1
  clear hr
  obtain ⟨caS0, caS1, caS2, caS3, caS4, caS5⟩ := (A1.out.atBox 0 rfl).c6
  go_wp2_with fail
  refine (toScrub_calls p h b e cu me P H B es _ (D.out.below A1.out.below) SZ.out).mono ?_
  rintro e w2 ⟨ps, hs, bs, es, rfl, d, q⟩
  obtain ⟨aps, cps, ahs, chs, abs, cbs, aes, ces, rfl, rfl, rfl, rfl⟩ := d.sl
  have A2 := hide (A1.out.add q (TSrb.st _ _ _ _ _ _ _ _) d)
  clear A1 caS0 caS1 caS2 caS3 caS4 caS5 q d
  obtain ⟨los, his, ds⟩ := A2.out.get 0 rfl
  have Ds : Hid (SrbV _ los his _ _ _ _ P H B es) := ds
  clear ds
  go_wp2_with fail
  refine (C1.out _ _ _ _ _ Ds.out.rd).mono ?_
  rintro e w3 ⟨pj, hj, bj, ej, rfl, d, q⟩
  obtain ⟨apj, cpj, ahj, chj, abj, cbj, aej, cej, rfl, rfl, rfl, rfl⟩ := d.sl
  have A3 := hide ((A2.out.add q (TSrb.st _ _ _ _ _ _ _ _) d).box (scC (.slice apj XP.length cpj) (.slice ahj XH.length chj) (.slice abj XB.length cbj) (.slice aej XE.length cej) xcu xme) 57)
  clear A2 Ds los his q d
  obtain ⟨caS0, caS1, caS2, caS3, caS4, caS5⟩ := (A3.out.atBox 3 rfl).c6
  go_wp2_with fail
  refine (toScrub_calls p h b e cu me P H B es _ (D.out.below A3.out.below) SZ.out).mono ?_
  rintro e w4 ⟨px, hx, bx, ex, rfl, d, q⟩
  obtain ⟨apx, cpx, ahx, chx, abx, cbx, aex, cex, rfl, rfl, rfl, rfl⟩ := d.sl
  have A4 := hide ((A3.out.add q (TSrb.st _ _ _ _ _ _ _ _) d).box (scC (.slice apx P.length cpx) (.slice ahx H.length chx) (.slice abx B.length cbx) (.slice aex es.length cex) cu me) 57)
  clear A3 caS0 caS1 caS2 caS3 caS4 caS5 q d
  obtain ⟨cbx0, cbx1, cbx2, cbx3, cbx4, cbx5⟩ := (A4.out.atBox 0 rfl).c6
  obtain ⟨lox, hix, dx⟩ := A4.out.get 1 rfl
  have Dx : Hid (SrbV _ lox hix _ _ _ _ P H B es) := dx
  clear dx
  go_wp2_with fail
  refine (C2.out _ _ _ _ _ Dx.out.rd).mono ?_
  rintro e w5 ⟨pg, hg, bg, eg, rfl, d, q⟩
  obtain ⟨apg, cpg, ahg, chg, abg, cbg, aeg, ceg, rfl, rfl, rfl, rfl⟩ := d.sl
  have A5 := hide ((A4.out.add q (TSrb.st _ _ _ _ _ _ _ _) d).box (scC (.slice apg XP.length cpg) (.slice ahg XH.length chg) (.slice abg XB.length cbg) (.slice aeg XE.length ceg) xcu xme) 57)
  clear A4 cbx0 cbx1 cbx2 cbx3 cbx4 cbx5 Dx lox hix q d
  have ee : (ok != ok) = false := by simp
  obtain ⟨cbg0, cbg1, cbg2, cbg3, cbg4, cbg5⟩ := (A5.out.atBox 0 rfl).c6
  obtain ⟨cvj0, cvj1, cvj2, cvj3, cvj4, cvj5⟩ := (A5.out.atBox 4 rfl).c6
  obtain ⟨log, hig, dg⟩ := A5.out.get 1 rfl
  have Dg : Hid (SrbV _ log hig _ _ _ _ XP XH XB XE) := dg
  clear dg
  obtain ⟨loj, hij, dj⟩ := A5.out.get 5 rfl
  have Dj : Hid (SrbV _ loj hij _ _ _ _ XP XH XB XE) := dj
  clear dj
  go_wp2_with fail
  refine (eqScrub_same _ _ _ _ _ _ _ _ xcu xme XP XH XB XE _ Dg.out.rd Dj.out.rd).mono ?_
  rintro e w6 ⟨rfl, q⟩
  have A6 := hide (A5.out.step q)
  clear A5 cbg0 cbg1 cbg2 cbg3 cbg4 cbg5 cvj0 cvj1 cvj2 cvj3 cvj4 cvj5 Dg log hig Dj loj hij q
  go_wp2
  obtain ⟨lo5, hi5, dd⟩ := A6.out.get 3 rfl
  have D5 : Hid (SrbV _ lo5 hi5 _ _ _ _ P H B es) := dd
  clear dd
  have F : Hid (∀ w', Below w6.heap.size w6 w' → (w'.cell? ⟨w.heap.size, 0, none⟩ = some p ∧ w'.cell? ⟨w.heap.size, 1, none⟩ = some h ∧ w'.cell? ⟨w.heap.size, 2, none⟩ = some b ∧ w'.cell? ⟨w.heap.size, 3, none⟩ = some e ∧ w'.cell? ⟨w.heap.size, 4, none⟩ = some (.int .i64 cu) ∧ w'.cell? ⟨w.heap.size, 5, none⟩ = some (.int .i64 me)) ∧ (w'.cell? ⟨w4.heap.size, 0, none⟩ = some (.slice apx P.length cpx) ∧ w'.cell? ⟨w4.heap.size, 1, none⟩ = some (.slice ahx H.length chx) ∧ w'.cell? ⟨w4.heap.size, 2, none⟩ = some (.slice abx B.length cbx) ∧ w'.cell? ⟨w4.heap.size, 3, none⟩ = some (.slice aex es.length cex) ∧ w'.cell? ⟨w4.heap.size, 4, none⟩ = some (.int .i64 cu) ∧ w'.cell? ⟨w4.heap.size, 5, none⟩ = some (.int .i64 me))) :=
    fun w' hb => ⟨((A6.out.step hb).atBox 7 rfl).c6, ((A6.out.step hb).atBox 2 rfl).c6⟩
  go_region_held3 (fun w' => (w'.cell? ⟨w.heap.size, 0, none⟩ = some p ∧ w'.cell? ⟨w.heap.size, 1, none⟩ = some h ∧ w'.cell? ⟨w.heap.size, 2, none⟩ = some b ∧ w'.cell? ⟨w.heap.size, 3, none⟩ = some e ∧ w'.cell? ⟨w.heap.size, 4, none⟩ = some (.int .i64 cu) ∧ w'.cell? ⟨w.heap.size, 5, none⟩ = some (.int .i64 me)) ∧ (w'.cell? ⟨w4.heap.size, 0, none⟩ = some (.slice apx P.length cpx) ∧ w'.cell? ⟨w4.heap.size, 1, none⟩ = some (.slice ahx H.length chx) ∧ w'.cell? ⟨w4.heap.size, 2, none⟩ = some (.slice abx B.length cbx) ∧ w'.cell? ⟨w4.heap.size, 3, none⟩ = some (.slice aex es.length cex) ∧ w'.cell? ⟨w4.heap.size, 4, none⟩ = some (.int .i64 cu) ∧ w'.cell? ⟨w4.heap.size, 5, none⟩ = some (.int .i64 me))) (first | exact F.out _ (Below.refl _ _).drew | exact F.out _ B2.out | exact F.out _ B1.out)
    ((first | (go_at_call 39; refine (eqScrub_same _ _ _ _ _ _ _ _ cu me P H B es _ (D5.out.below B1.out).rd D6.out.rd).mono ?_; rintro e' wr7 ⟨rfl, b7⟩; have B2 := hide (B1.out.trans (b7.mono B1.out.size)); clear b7) | (go_at_call 37; refine (toScrub_calls p h b e cu me P H B es _ (D.out.below (A6.out.step (Below.refl _ _).drew).below) SZ.out).mono ?_; rintro e' wr6 ⟨p3, h3, b3, e3, rfl, d6, b6⟩; have D6 := hide d6; have B1 := hide ((Below.refl w6.heap.size w6).drew.trans b6); clear b6 d6)))
  have A7 := hide (A6.out.step B2.out)
  clear A6 F B1 B2 D5 D6 lo5 hi5
  obtain ⟨cbx0, cbx1, cbx2, cbx3, cbx4, cbx5⟩ := (A7.out.atBox 2 rfl).c6
  obtain ⟨lox, hix, dx, lw, hw, put⟩ := A7.out.open 3 rfl
  have PUT := hide put
  have HW := hide hw
  have Dx : Hid (SrbV _ lox hix _ _ _ _ P H B es) := dx
  clear put lw hw dx
  go_wp2_with fail
  refine (markScrub_calls _ _ _ _ cu me P H B es lox hix _ Dx.out HW.out SZ.out.1 SZ.out.2).mono ?_
  rintro e w8 ⟨rfl, d4, c4⟩
  have A8 := hide (PUT.out _ (TSrb _ _ _ _ _ _ _ _) (TSrb.st _ _ _ _ _ _ _ _) d4 c4)
  clear A7 cbx0 cbx1 cbx2 cbx3 cbx4 cbx5 lox hix PUT HW Dx d4 c4
  have k0 : ¬ ((enSc P H B es : Nat) : Int) < 0 := by omega
  obtain ⟨cbg0, cbg1, cbg2, cbg3, cbg4, cbg5⟩ := (A8.out.atBox 0 rfl).c6
  obtain ⟨cvj0, cvj1, cvj2, cvj3, cvj4, cvj5⟩ := (A8.out.atBox 4 rfl).c6
  obtain ⟨log, hig, dg⟩ := A8.out.get 1 rfl
  have Dg : Hid (SrbV _ log hig _ _ _ _ XP XH XB XE) := dg
  clear dg
  obtain ⟨loj, hij, dj⟩ := A8.out.get 5 rfl
  have Dj : Hid (SrbV _ loj hij _ _ _ _ XP XH XB XE) := dj
  clear dj
  go_wp2_with fail
  refine (eqScrub_same _ _ _ _ _ _ _ _ xcu xme XP XH XB XE _ Dg.out.rd Dj.out.rd).mono ?_
  rintro e w9 ⟨rfl, q⟩
  have A9 := hide (A8.out.step q)
  clear A8 cbg0 cbg1 cbg2 cbg3 cbg4 cbg5 cvj0 cvj1 cvj2 cvj3 cvj4 cvj5 Dg log hig Dj loj hij q
  obtain ⟨cbg0, cbg1, cbg2, cbg3, cbg4, cbg5⟩ := (A9.out.atBox 0 rfl).c6
  obtain ⟨log, hig, dg, lw, hw, put⟩ := A9.out.open 1 rfl
  have PUT := hide put
  have HW := hide hw
  have Dg : Hid (SrbV _ log hig _ _ _ _ XP XH XB XE) := dg
  clear put lw hw dg
  go_wp2_with fail
  refine (markScrub_calls _ _ _ _ xcu xme XP XH XB XE log hig _ Dg.out HW.out XZ.out.1 XZ.out.2).mono ?_
  rintro e w10 ⟨rfl, d4, c4⟩
  have A10 := hide (PUT.out _ (TSrb _ _ _ _ _ _ _ _) (TSrb.st _ _ _ _ _ _ _ _) d4 c4)
  clear A9 cbg0 cbg1 cbg2 cbg3 cbg4 cbg5 log hig PUT HW Dg d4 c4
  obtain ⟨cbg0, cbg1, cbg2, cbg3, cbg4, cbg5⟩ := (A10.out.atBox 0 rfl).c6
  obtain ⟨log, hig, dg⟩ := A10.out.get 1 rfl
  have Dg : Hid (SrbV _ log hig _ _ _ _ (mkS1 XP) (mkS2 XP XH) (mkS3 XP XH XB) (mkS4 XP XH XB XE)) := dg
  clear dg
  go_wp2_with fail
  refine (heldScrub_calls _ _ _ _ xcu xme XP XH XB XE _ Dg.out.rd XZ.out.1 XZ.out.2).mono ?_
  rintro e w11 ⟨rfl, q⟩
  have A11 := hide (A10.out.step q)
  clear A10 cbg0 cbg1 cbg2 cbg3 cbg4 cbg5 Dg log hig q
  have k1 : ¬ ((enSc XP XH XB XE : Nat) : Int) < 0 := by omega
  have k2 : (((enSc XP XH XB XE : Nat) : Int) != ((enSc XP XH XB XE : Nat) : Int)) = false := by simp
  obtain ⟨caS0, caS1, caS2, caS3, caS4, caS5⟩ := (A11.out.atBox 7 rfl).c6
  go_wp2_with fail
  refine (toScrub_calls p h b e cu me P H B es _ (D.out.below A11.out.below) SZ.out).mono ?_
  rintro e w12 ⟨pz, hz, bz, ez, rfl, d, q⟩
  obtain ⟨apz, cpz, ahz, chz, abz, cbz, aez, cez, rfl, rfl, rfl, rfl⟩ := d.sl
  have A12 := hide (A11.out.add q (TSrb.st _ _ _ _ _ _ _ _) d)
  clear A11 caS0 caS1 caS2 caS3 caS4 caS5 q d
  obtain ⟨loz, hiz, dz⟩ := A12.out.get 0 rfl
  have Dz : Hid (SrbV _ loz hiz _ _ _ _ P H B es) := dz
  clear dz
  go_wp2_with fail
  refine (C2.out _ _ _ _ _ Dz.out.rd).mono ?_
  rintro e w13 ⟨pu, hu, bu, eu, rfl, d, q⟩
  obtain ⟨apu, cpu, ahu, chu, abu, cbu, aeu, ceu, rfl, rfl, rfl, rfl⟩ := d.sl
  have A13 := hide ((A12.out.add q (TSrb.st _ _ _ _ _ _ _ _) d).box (scC (.slice apu XP.length cpu) (.slice ahu XH.length chu) (.slice abu XB.length cbu) (.slice aeu XE.length ceu) xcu xme) 57)
  clear A12 Dz loz hiz q d
  obtain ⟨cbu0, cbu1, cbu2, cbu3, cbu4, cbu5⟩ := (A13.out.atBox 0 rfl).c6
  obtain ⟨cvj0, cvj1, cvj2, cvj3, cvj4, cvj5⟩ := (A13.out.atBox 7 rfl).c6
  obtain ⟨lou, hiu, du⟩ := A13.out.get 1 rfl
  have Du : Hid (SrbV _ lou hiu _ _ _ _ XP XH XB XE) := du
  clear du
  obtain ⟨loj, hij, dj⟩ := A13.out.get 8 rfl
  have Dj : Hid (SrbV _ loj hij _ _ _ _ XP XH XB XE) := dj
  clear dj
  go_wp2_with fail
  refine (eqScrub_same _ _ _ _ _ _ _ _ xcu xme XP XH XB XE _ Du.out.rd Dj.out.rd).mono ?_
  rintro e w14 ⟨rfl, q⟩
  have A14 := hide (A13.out.step q)
  clear A13 cbu0 cbu1 cbu2 cbu3 cbu4 cbu5 cvj0 cvj1 cvj2 cvj3 cvj4 cvj5 Du lou hiu Dj loj hij q
  obtain ⟨cbg0, cbg1, cbg2, cbg3, cbg4, cbg5⟩ := (A14.out.atBox 3 rfl).c6
  obtain ⟨log, hig, dg⟩ := A14.out.get 4 rfl
  have Dg : Hid (SrbV _ log hig _ _ _ _ (mkS1 XP) (mkS2 XP XH) (mkS3 XP XH XB) (mkS4 XP XH XB XE)) := dg
  clear dg
  go_wp2_with fail
  refine (heldScrub_calls _ _ _ _ xcu xme XP XH XB XE _ Dg.out.rd XZ.out.1 XZ.out.2).mono ?_
  rintro e w15 ⟨rfl, q⟩
  have A15 := hide (A14.out.step q)
  clear A14 cbg0 cbg1 cbg2 cbg3 cbg4 cbg5 Dg log hig q
  go_wp2
  go_ret
  exact ⟨rfl, A15.out.below⟩
end Go.Proofs.Ytpgmocogffolaaa

/-
  Good disks: the program's GoodDisk and its model's, call by call. Each contract says what it asks.
-/
import Derived.Test.YtpgmocogffolaaaDgd
namespace Go.Proofs.Ytpgmocogffolaaa
open Go.RowKit
set_option linter.unusedVariables false

theorem gk_bool' (P H : List ByteArray) (B : List Bool) : ∃ g : Bool, g = true ↔ gkP P H B := by
  by_cases hh : gkP P H B
  · exact ⟨true, fun _ => hh, fun _ => rfl⟩
  · exact ⟨false, fun h => by simp at h, fun h => absurd h hh⟩
theorem gk_no1 {P H : List ByteArray} {B : List Bool} {g : Bool} (hg : g = true ↔ gkP P H B) (h : ¬ gkP P H B) : g = false := by
  cases g with
  | false => rfl
  | true => exact absurd (hg.1 rfl) h

set_option maxRecDepth 100000 in
set_option maxHeartbeats 1600000 in
theorem goodDisk_calls (p h b : Value) (P H : List ByteArray) (B : List Bool) (g : Bool) (w : World) (hg : g = true ↔ gkP P H B) (hp : RdT w p P) (hh : RdT w h H) (hb : RdZ w b B) :
    Calls Try.prog 96 #[.agg #[p, h, b]] w fun e w' => e = .returned (.bool g) ∧ Below w.heap.size w w' := by
  have b0 := below_box w (.cells #[p, h, b] 30)
  have RP := hide (hp.below b0)
  have RH := hide (hh.below b0)
  have RB := hide (hb.below b0)
  have B0 := hide b0
  have HG := hide hg
  obtain ⟨ap, cp, rfl, mp, _⟩ := hp.sl
  obtain ⟨ah, ch, rfl, mh, _⟩ := hh.sl
  obtain ⟨ab, cb, rfl, mb, _⟩ := hb.sl
  clear b0 hp hh hb hg
  by_cases h1 : 1 ≤ P.length ∧ P.length ≤ 24
  case neg =>
    have e0 := hide (gk_no1 HG.out (fun h => h1 h.1))
    go_enter Try.func96, Try.ntmps96
    go_wp2_with fail
    refine (isSectorCount_no _ _ (by omega)).mono ?_
    rintro e w1 ⟨rfl, rfl⟩
    go_wp2
    go_ret
    exact ⟨ret_bool e0.out.symm, B0.out⟩
  have h1' : 1 ≤ (P.length : Int) ∧ (P.length : Int) ≤ 24 := by omega
  by_cases h2 : H.length = P.length
  case neg =>
    have e0 := hide (gk_no1 HG.out (fun h => h2 h.2.1))
    have h2' : ¬ (H.length : Int) = (P.length : Int) := by omega
    have h2b : ((H.length : Int) == (P.length : Int)) = false := by simpa using h2'
    clear h2
    go_enter Try.func96, Try.ntmps96
    go_wp2_with fail
    refine (isSectorCount_yes _ _ h1').mono ?_
    rintro e w1 ⟨rfl, rfl⟩
    go_wp2
    go_ret
    exact ⟨ret_bool e0.out.symm, B0.out⟩
  by_cases h3 : B.length = P.length
  case neg =>
    have e0 := hide (gk_no1 HG.out (fun h => h3 h.2.2.1))
    have h3' : ¬ (B.length : Int) = (P.length : Int) := by omega
    have h3b : ((B.length : Int) == (P.length : Int)) = false := by simpa using h3'
    rw [h2] at B0 ⊢
    clear h2 h3
    go_enter Try.func96, Try.ntmps96
    go_wp2_with fail
    refine (isSectorCount_yes _ _ h1').mono ?_
    rintro e w1 ⟨rfl, rfl⟩
    go_wp2
    go_ret
    exact ⟨ret_bool e0.out.symm, B0.out⟩
  rw [h2, h3] at RP RH RB B0 ⊢
  obtain ⟨n, hn⟩ : ∃ n, n = P.length := ⟨_, rfl⟩
  have LP := hide hn
  have LH := hide (hn.trans h2.symm)
  have LB := hide (hn.trans h3.symm)
  rw [← hn] at RP RH RB B0 mp h1 h1' ⊢
  clear hn h2 h3 mh mb
  have X0 := hide (BoxAt.new w #[.slice ap n cp, .slice ah n ch, .slice ab n cb] 30)
  have GP : Hid (∃ g1 : Bool, g1 = true ↔ ∀ i, i < P.length → (P.getD i ⟨#[]⟩).size ≤ 28) := by
    show ∃ g1 : Bool, _
    by_cases hh : ∀ i, i < P.length → (P.getD i ⟨#[]⟩).size ≤ 28
    · exact ⟨true, fun _ => hh, fun _ => rfl⟩
    · exact ⟨false, fun h => by simp at h, fun h => absurd h hh⟩
  have GH : Hid (∃ g1 : Bool, g1 = true ↔ ∀ i, i < H.length → (H.getD i ⟨#[]⟩).size ≤ 28) := by
    show ∃ g1 : Bool, _
    by_cases hh : ∀ i, i < H.length → (H.getD i ⟨#[]⟩).size ≤ 28
    · exact ⟨true, fun _ => hh, fun _ => rfl⟩
    · exact ⟨false, fun h => by simp at h, fun h => absurd h hh⟩
  go_enter Try.func96, Try.ntmps96
  go_wp2_with fail
  refine (isSectorCount_yes _ _ h1').mono ?_
  rintro e w1 ⟨rfl, rfl⟩
  go_wp2
  generalize w.alloc (.cells #[.slice ap n cp, .slice ah n ch, .slice ab n cb] 30) = W at *
  go_loop [4, 5, 29] (fun _ _ vi => ∃ k : Nat, k ≤ n ∧ vi = .int .i64 k ∧ ∀ i, i < k → B.getD i false = true → H.getD i ⟨#[]⟩ = ⟨#[]⟩) (fun _ _ vi => n - (intOf vi).toNat)
  case atStart => exact ⟨0, Nat.zero_le _, rfl, fun i hi => by omega⟩
  case round =>
    obtain ⟨k, hk, rfl, hall⟩ := hrel
    have HA := hide hall
    clear hall
    obtain ⟨c0, c1, c2⟩ := X0.out.c3
    by_cases hlt : k < n
    · obtain ⟨gb, ob, rfl, hb1, _⟩ := RB.out.cell k (by rw [← LB.out]; exact hlt)
      obtain ⟨gh, oh, rfl, hh1, _⟩ := RH.out.cell k (by rw [← LH.out]; exact hlt)
      obtain ⟨z, hz⟩ : ∃ z, z = H.getD k ⟨#[]⟩ := ⟨_, rfl⟩
      obtain ⟨y, hy⟩ : ∃ y, y = B.getD k false := ⟨_, rfl⟩
      rw [← hz] at hh1
      rw [← hy] at hb1
      have HZ := hide hz
      have HY := hide hy
      clear hz hy
      have hlt' : (k : Int) < (n : Int) := by omega
      cases y with
      | false =>
        clear hh1
        go_wp2
        go_round
        case rel =>
          refine ⟨k + 1, by omega, by go_num, fun i hi hB => ?_⟩
          by_cases e : i = k
          · subst e; rw [← HY.out] at hB; simp at hB
          · exact HA.out i (by omega) hB
        case measure => simp [intOf]; omega
      | true =>
        by_cases hz0 : z = ⟨#[]⟩
        · subst hz0
          go_wp2
          go_round
          case rel =>
            refine ⟨k + 1, by omega, by go_num, fun i hi hB => ?_⟩
            by_cases e : i = k
            · subst e; exact HZ.out.symm
            · exact HA.out i (by omega) hB
          case measure => simp [intOf]; omega
        · obtain ⟨zz1, zz2⟩ := toList_ne hz0
          have e0 := hide (gk_no1 HG.out (fun h => hz0 (HZ.out.trans (h.2.2.2.2.2 k (by rw [← LP.out]; exact hlt) HY.out.symm))))
          clear hz0
          go_wp2
          go_ret
          exact ⟨ret_bool e0.out.symm, B0.out⟩
    · obtain rfl : k = n := by omega
      clear c2
      obtain ⟨g1, hg1⟩ := GP.out
      obtain ⟨g2, hg2⟩ := GH.out
      have C1 : Hid (∀ V, RdT V (.slice ap k cp) P → Calls Try.prog 128 #[.slice ap k cp, .func (.func 129) #[] #[]] V fun e w' => e = .returned (.bool g1) ∧ V = w') := fun V hV => allFit_calls _ P g1 V hV hg1
      have C2 : Hid (∀ V, RdT V (.slice ah k ch) H → Calls Try.prog 128 #[.slice ah k ch, .func (.func 129) #[] #[]] V fun e w' => e = .returned (.bool g2) ∧ V = w') := fun V hV => allFit_calls _ H g2 V hV hg2
      have HG1 := hide hg1
      have HG2 := hide hg2
      clear hg1 hg2
      cases g1 with
      | false =>
        have e0 := hide (gk_no1 HG.out (fun h => by have := HG1.out.2 h.2.2.2.1; simp at this))
        go_wp2_with fail
        refine (C1.out _ RP.out).mono ?_
        rintro e w1 ⟨rfl, rfl⟩
        go_wp2
        go_ret
        exact ⟨ret_bool e0.out.symm, B0.out⟩
      | true =>
        go_wp2_with fail
        refine (C1.out _ RP.out).mono ?_
        rintro e w1 ⟨rfl, rfl⟩
        go_wp2_with fail
        refine (C2.out _ RH.out).mono ?_
        rintro e w1 ⟨rfl, rfl⟩
        go_wp2
        go_ret
        refine ⟨ret_bool ?_, B0.out⟩
        cases g2 with
        | false => exact (gk_no1 HG.out (fun h => by have := HG2.out.2 (fun i hi => h.2.2.2.2.1 i (by rw [← LP.out, LH.out]; exact hi)); simp at this)).symm
        | true => exact (HG.out.2 ⟨by rw [← LP.out]; exact h1, by rw [← LP.out, LH.out], by rw [← LP.out, LB.out], HG1.out.1 (by simp), fun i hi => HG2.out.1 (by simp) i (by rw [← LH.out, LP.out]; exact hi), fun i hi => HA.out i (by rw [LP.out]; exact hi)⟩).symm

set_option maxRecDepth 100000 in
set_option maxHeartbeats 1600000 in
theorem sGoodDisk_calls (p h b : Value) (P H : List ByteArray) (B : List Bool) (g : Bool) (w : World) (hg : g = true ↔ gkP P H B) (hp : RdT w p P) (hh : RdT w h H) (hb : RdZ w b B) :
    Calls Try.prog 65 #[.agg #[p, h, b]] w fun e w' => e = .returned (.bool g) ∧ Below w.heap.size w w' := by
  have b0 := below_box w (.cells #[p, h, b] 30)
  have RP := hide (hp.below b0)
  have RH := hide (hh.below b0)
  have RB := hide (hb.below b0)
  have B0 := hide b0
  have HG := hide hg
  obtain ⟨ap, cp, rfl, mp, _⟩ := hp.sl
  obtain ⟨ah, ch, rfl, mh, _⟩ := hh.sl
  obtain ⟨ab, cb, rfl, mb, _⟩ := hb.sl
  clear b0 hp hh hb hg
  by_cases h1 : 1 ≤ P.length ∧ P.length ≤ 24
  case neg =>
    have e0 := hide (gk_no1 HG.out (fun h => h1 h.1))
    go_enter Try.func65, Try.ntmps65
    go_wp2_with fail
    refine (l1In_no _ _ _ _ (by omega)).mono ?_
    rintro e w1 ⟨rfl, rfl⟩
    go_wp2
    go_ret
    exact ⟨ret_bool e0.out.symm, B0.out⟩
  have h1a : 1 ≤ (P.length : Int) := by omega
  have h1b : (P.length : Int) ≤ 24 := by omega
  by_cases h2 : H.length = P.length
  case neg =>
    have e0 := hide (gk_no1 HG.out (fun h => h2 h.2.1))
    have h2' : ¬ (H.length : Int) = (P.length : Int) := by omega
    have h2b : ((H.length : Int) == (P.length : Int)) = false := by simpa using h2'
    clear h2
    go_enter Try.func65, Try.ntmps65
    go_wp2_with fail
    refine (l1In_yes _ _ _ _ h1a h1b).mono ?_
    rintro e w1 ⟨rfl, rfl⟩
    go_wp2
    go_ret
    exact ⟨ret_bool e0.out.symm, B0.out⟩
  by_cases h3 : B.length = P.length
  case neg =>
    have e0 := hide (gk_no1 HG.out (fun h => h3 h.2.2.1))
    have h3' : ¬ (B.length : Int) = (P.length : Int) := by omega
    have h3b : ((B.length : Int) == (P.length : Int)) = false := by simpa using h3'
    rw [h2] at B0 ⊢
    clear h2 h3
    go_enter Try.func65, Try.ntmps65
    go_wp2_with fail
    refine (l1In_yes _ _ _ _ h1a h1b).mono ?_
    rintro e w1 ⟨rfl, rfl⟩
    go_wp2
    go_ret
    exact ⟨ret_bool e0.out.symm, B0.out⟩
  rw [h2, h3] at RP RH RB B0 ⊢
  obtain ⟨n, hn⟩ : ∃ n, n = P.length := ⟨_, rfl⟩
  have LP := hide hn
  have LH := hide (hn.trans h2.symm)
  have LB := hide (hn.trans h3.symm)
  rw [← hn] at RP RH RB B0 mp h1 h1a h1b ⊢
  clear hn h2 h3 mh mb
  have X0 := hide (BoxAt.new w #[.slice ap n cp, .slice ah n ch, .slice ab n cb] 30)
  go_enter Try.func65, Try.ntmps65
  go_wp2_with fail
  refine (l1In_yes _ _ _ _ h1a h1b).mono ?_
  rintro e w1 ⟨rfl, rfl⟩
  go_wp2
  generalize w.alloc (.cells #[.slice ap n cp, .slice ah n ch, .slice ab n cb] 30) = W at *
  go_loop [4, 28] (fun _ vi => ∃ k : Nat, k ≤ n ∧ vi = .int .i64 k ∧ ∀ i, i < k → ((P.getD i ⟨#[]⟩).size ≤ 28 ∧ (H.getD i ⟨#[]⟩).size ≤ 28) ∧ (B.getD i false = true → H.getD i ⟨#[]⟩ = ⟨#[]⟩)) (fun _ vi => n - (intOf vi).toNat)
  case atStart => exact ⟨0, Nat.zero_le _, rfl, fun i hi => by omega⟩
  case round =>
    obtain ⟨k, hk, rfl, hall⟩ := hrel
    have HA := hide hall
    clear hall
    obtain ⟨c0, c1, c2⟩ := X0.out.c3
    by_cases hlt : k < n
    · obtain ⟨gb, ob, rfl, hb1, _⟩ := RB.out.cell k (by rw [← LB.out]; exact hlt)
      obtain ⟨gh, oh, rfl, hh1, _⟩ := RH.out.cell k (by rw [← LH.out]; exact hlt)
      obtain ⟨gp, op, rfl, hp1, _⟩ := RP.out.cell k (by rw [← LP.out]; exact hlt)
      have mz := RH.out.szAt k
      have mu := RP.out.szAt k
      obtain ⟨u, hu⟩ : ∃ u, u = P.getD k ⟨#[]⟩ := ⟨_, rfl⟩
      obtain ⟨z, hz⟩ : ∃ z, z = H.getD k ⟨#[]⟩ := ⟨_, rfl⟩
      obtain ⟨y, hy⟩ : ∃ y, y = B.getD k false := ⟨_, rfl⟩
      rw [← hu] at hp1 mu
      rw [← hz] at hh1 mz
      rw [← hy] at hb1
      have HU := hide hu
      have HZ := hide hz
      have HY := hide hy
      clear hz hy hu
      have hlt' : (k : Int) < (n : Int) := by omega
      by_cases u28 : u.size ≤ 28
      case neg =>
        have e0 := hide (gk_no1 HG.out (fun h => u28 (by rw [HU.out]; exact h.2.2.2.1 k (by rw [← LP.out]; exact hlt))))
        have u1 : (28 : Int) < (u.size : Int) := by omega
        clear hh1 hb1 c1 c2
        go_wp2
        go_ret
        exact ⟨ret_bool e0.out.symm, B0.out⟩
      have u1 : ¬ (28 : Int) < (u.size : Int) := by omega
      have u2 : decide ((28 : Int) < (u.size : Int)) = false := decide_eq_false u1
      by_cases z28 : z.size ≤ 28
      case neg =>
        have e0 := hide (gk_no1 HG.out (fun h => z28 (by rw [HZ.out]; exact h.2.2.2.2.1 k (by rw [← LP.out]; exact hlt))))
        have z1 : (28 : Int) < (z.size : Int) := by omega
        clear hb1 c2
        go_wp2
        go_ret
        exact ⟨ret_bool e0.out.symm, B0.out⟩
      have z1 : ¬ (28 : Int) < (z.size : Int) := by omega
      have z2 : decide ((28 : Int) < (z.size : Int)) = false := decide_eq_false z1
      have S28 := hide (And.intro u28 z28)
      clear u28 z28
      cases y with
      | false =>
        go_wp2
        go_round
        case rel =>
          refine ⟨k + 1, by omega, by go_num, fun i hi => ?_⟩
          by_cases e : i = k
          · subst e; rw [← HY.out, ← HU.out, ← HZ.out]; exact ⟨S28.out, fun h => by simp at h⟩
          · exact HA.out i (by omega)
        case measure => simp [intOf]; omega
      | true =>
        by_cases hz0 : z = ⟨#[]⟩
        · subst hz0
          go_wp2
          go_round
          case rel =>
            refine ⟨k + 1, by omega, by go_num, fun i hi => ?_⟩
            by_cases e : i = k
            · subst e; rw [← HU.out, ← HZ.out]; exact ⟨S28.out, fun _ => rfl⟩
            · exact HA.out i (by omega)
          case measure => simp [intOf]; omega
        · obtain ⟨zz1, zz2⟩ := toList_ne hz0
          have e0 := hide (gk_no1 HG.out (fun h => hz0 (HZ.out.trans (h.2.2.2.2.2 k (by rw [← LP.out]; exact hlt) HY.out.symm))))
          clear hz0
          go_wp2
          go_ret
          exact ⟨ret_bool e0.out.symm, B0.out⟩
    · obtain rfl : k = n := by omega
      clear c0 c1 c2
      go_wp2
      go_ret
      refine ⟨ret_bool ?_, B0.out⟩
      exact (HG.out.2 ⟨by rw [← LP.out]; exact h1, by rw [← LP.out, LH.out], by rw [← LP.out, LB.out], fun i hi => (HA.out i (by rw [LP.out]; exact hi)).1.1, fun i hi => (HA.out i (by rw [LP.out]; exact hi)).1.2, fun i hi => (HA.out i (by rw [LP.out]; exact hi)).2⟩).symm
end Go.Proofs.Ytpgmocogffolaaa

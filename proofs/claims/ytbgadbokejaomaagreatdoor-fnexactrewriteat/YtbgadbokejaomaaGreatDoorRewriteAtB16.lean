/-
  A good scrub: isStripeCount, allAre over Epochs, GoodScrub of the program and of the model, call by call. Each contract says what it asks. Numbers appended to a row of the call's own. Each theorem says what it asks. A scrub copied: copyScrub of the program, l16Own of the model, call by call. Each contract says what it asks. A frame is written to its sector, and a disk synced, in the disk's own lists: the program's holdFrame, syncDisk. Each contract says what it asks.
-/
import Derived.Test.YtbgadbokejaomaaGreatDoorRewriteAtB15
import Derived.Test.YtbgadbokejaomaaGreatDoorRewriteAtB8
import Derived.Test.YtbgadbokejaomaaGreatDoorRewriteAtB2
import Derived.Test.YtbgadbokejaomaaGreatDoorRewriteAtB7
import Derived.Maps.AppendAt
import Derived.Test.YtbgadbokejaomaaGreatDoorRewriteAtB11
import Derived.Test.YtbgadbokejaomaaGreatDoorRewriteAtB10
import Derived.Deep.DeepCutAuto
import Derived.Test.YtbgadbokejaomaaGreatDoorRewriteAtB3
import Derived.Test.YtbgadbokejaomaaGreatDoorRewriteAtB13
namespace Go.Proofs.YtbgadbokejaomaaGreatDoor
open Go.RowKit
set_option linter.unusedVariables false
set_option linter.unusedSimpArgs false

def epAll (es : List Int) : Prop := ∀ i, i < es.length → 0 ≤ es.getD i 0 ∧ es.getD i 0 ≤ 60000
/-- A good scrub. -/
def scOk (P H : List ByteArray) (B : List Bool) (es : List Int) (cu me : Int) : Prop :=
  (1 ≤ es.length ∧ es.length ≤ 4) ∧ epAll es ∧ P.length = 5 * es.length ∧ gkP P H B ∧ (0 ≤ cu ∧ cu < (es.length : Int)) ∧ 0 ≤ me ∧ me ≤ 10000

set_option maxRecDepth 100000 in
theorem lIn_calls (x a b : Int) (t : Bool) (w : World) (ht : t = true ↔ (a ≤ x ∧ x ≤ b)) :
    Calls Tryz.prog 57 #[.int .i64 x, .int .i64 a, .int .i64 b] w fun e w' => e = .returned (.bool t) ∧ w = w' := by
  go_enter Tryz.func57, Tryz.ntmps57
  go_wp2
  all_goals
    go_ret
    refine ⟨ret_bool ?_, rfl⟩
    rw [Bool.eq_iff_iff, ht]
    simp
    try omega

set_option maxRecDepth 100000 in
theorem isStripeCount_calls (n : Int) (t : Bool) (w : World) (ht : t = true ↔ (1 ≤ n ∧ n ≤ 4)) :
    Calls Tryz.prog 62 #[.int .i64 n] w fun e w' => e = .returned (.bool t) ∧ w = w' := by
  go_enter Tryz.func62, Tryz.ntmps62
  go_wp2
  all_goals
    go_ret
    refine ⟨ret_bool ?_, rfl⟩
    rw [Bool.eq_iff_iff, ht]
    simp
    try omega

set_option maxRecDepth 100000 in
set_option maxHeartbeats 1600000 in
theorem allEpochs_calls (v : Value) (ks : List Int) (y : Bool) (w : World) (hv : Rd w v ks) (hy : y = true ↔ epAll ks) :
    Calls Tryz.prog 113 #[v, .func (.func 114) #[] #[]] w fun e w' => e = .returned (.bool y) ∧ w = w' := by
  have R := hide hv
  have HY := hide hy
  obtain ⟨a, cap, rfl, mh, hcm, _⟩ := hv
  have hm := hcm.1
  unfold maxLen at hm
  clear hy hcm
  go_enter Tryz.func113, Tryz.ntmps113
  go_wp2
  go_loop [9] (fun vi => ∃ k : Nat, k ≤ ks.length ∧ vi = .int .i64 k ∧ ∀ i, i < k → 0 ≤ ks.getD i 0 ∧ ks.getD i 0 ≤ 60000) (fun vi => ks.length - (intOf vi).toNat)
  case atStart => exact ⟨0, Nat.zero_le _, rfl, fun i hi => by omega⟩
  case round =>
    obtain ⟨k, hk, rfl, hall⟩ := hrel
    have A := hide hall
    clear hall
    by_cases hlt : k < ks.length
    · have hlt' : (k : Int) < (ks.length : Int) := by omega
      obtain ⟨b, off, rfl, hc1⟩ := R.out.cellS k hlt
      have X0 := hide (fun h : epAll ks => h k hlt)
      have X1 := hide (fun (h : 0 ≤ ks.getD k 0 ∧ ks.getD k 0 ≤ 60000) i (hi : i < k + 1) => if e : i = k then (by rw [e]; exact h : 0 ≤ ks.getD i 0 ∧ ks.getD i 0 ≤ 60000) else A.out i (by omega))
      generalize ks.getD k 0 = x at hc1 X0 X1
      by_cases hx : 0 ≤ x ∧ x ≤ 60000
      · have IE := hide (isEpoch_calls x)
        rw [decide_eq_true hx] at IE
        have HQ := hide hx
        clear hx
        go_wp2_with fail
        refine (IE.out _).mono ?_
        rintro e w' ⟨rfl, rfl⟩
        go_wp2
        go_round
        case rel =>
          exact ⟨k + 1, by omega, by go_num, X1.out HQ.out⟩
        case measure => simp [intOf]; omega
      · have IE := hide (isEpoch_calls x)
        rw [decide_eq_false hx] at IE
        have HQ := hide hx
        clear hx
        go_wp2_with fail
        refine (IE.out _).mono ?_
        rintro e w' ⟨rfl, rfl⟩
        go_wp2
        go_ret
        obtain rfl : y = false := by
          cases y with
          | false => rfl
          | true => exact absurd (X0.out (HY.out.1 rfl)) HQ.out
        exact ⟨rfl, rfl⟩
    · obtain rfl : k = ks.length := by omega
      go_wp2
      go_ret
      obtain rfl : y = true := HY.out.2 A.out
      exact ⟨rfl, rfl⟩

theorem wrapS (x : Int) (h0 : -1000000 ≤ x) (h1 : x ≤ 1000000) : wrap64 x = x := by unfold wrap64; omega
theorem wrapS2 (x : Int) (h0 : -1000000 ≤ x) (h1 : x ≤ 1000000) : IntKind.i64.wrap x = x := by
  simp [IntKind.wrap, IntKind.bits, IntKind.signed]
  omega
set_option maxRecDepth 100000 in
set_option maxHeartbeats 6400000 in
theorem goodScrub_calls (p h b e : Value) (cu me : Int) (P H : List ByteArray) (B : List Bool) (es : List Int) (t : Bool) (w : World) (d : RdSc w p h b e P H B es) (ht : t = true ↔ scOk P H B es cu me) :
    Calls Tryz.prog 70 #[.agg (scC p h b e cu me)] w fun x w' => x = .returned (.bool t) ∧ Below w.heap.size w w' := by
  obtain ⟨ap, cp, ah, ch, ab, cb, ae, ce, rfl, rfl, rfl, rfl⟩ := d.sl
  obtain ⟨_, _, _, _, hcm, _⟩ := d.re
  have hme := hcm.1
  unfold maxLen at hme
  clear hcm
  have A0 := hide ((Hand.start w).box (scC (.slice ap P.length cp) (.slice ah H.length ch) (.slice ab B.length cb) (.slice ae es.length ce) cu me) 29)
  have D0 := hide (d.below A0.out.below)
  have HT := hide ht
  obtain ⟨c1, hc1⟩ := bol_exS (1 ≤ (es.length : Int) ∧ (es.length : Int) ≤ 4)
  obtain ⟨c2, hc2⟩ := bol_exS (epAll es)
  obtain ⟨c4, hc4⟩ := bol_exS (gkP P H B)
  have C1 := hide (fun W => isStripeCount_calls (es.length : Int) c1 W hc1)
  have C2 := hide (fun W q => allEpochs_calls (.slice ae es.length ce) es c2 W q hc2)
  have C4 := hide (fun W q1 q2 q3 => goodDisk_calls (.slice ap P.length cp) (.slice ah H.length ch) (.slice ab B.length cb) P H B c4 W hc4 q1 q2 q3)
  have H1 := hide hc1
  have H2 := hide hc2
  have H4 := hide hc4
  clear ht hc1 hc2 hc4 d
  obtain ⟨x0, x1, x2, x3, x4, x5⟩ := (A0.out.atBox 0 rfl).c6
  go_enter Tryz.func70, Tryz.ntmps70
  go_wp2_with fail
  refine (C1.out _).mono ?_
  rintro x w1 ⟨rfl, rfl⟩
  cases c1 with
  | false =>
    obtain rfl : t = false := by cases t with | false => rfl | true => have := (HT.out.1 rfl).1; have := H1.out.2 (by omega); simp at this
    go_wp2
    go_ret
    exact ⟨by first | rfl | simp, A0.out.below⟩
  | true =>
  have n14 := H1.out.1 rfl
  go_wp2_with fail
  refine (C2.out _ D0.out.re).mono ?_
  rintro x w1 ⟨rfl, rfl⟩
  cases c2 with
  | false =>
    obtain rfl : t = false := by cases t with | false => rfl | true => have := H2.out.2 (HT.out.1 rfl).2.1; simp at this
    go_wp2
    go_ret
    exact ⟨by first | rfl | simp, A0.out.below⟩
  | true =>
  have E2 := hide (H2.out.1 rfl)
  have hw1 : wrap64 ((es.length : Int) * 5) = (es.length : Int) * 5 := wrapS _ (by omega) (by omega)
  have hw2 : IntKind.i64.wrap ((es.length : Int) * 5) = (es.length : Int) * 5 := wrapS2 _ (by omega) (by omega)
  by_cases h5 : P.length = 5 * es.length
  case neg =>
    have h5' : ¬ (P.length : Int) = (es.length : Int) * 5 := by omega
    have h5b : ((P.length : Int) == (es.length : Int) * 5) = false := by simpa using h5'
    obtain rfl : t = false := by cases t with | false => rfl | true => exact absurd (HT.out.1 rfl).2.2.1 h5
    clear h5
    go_wp2
    go_ret
    exact ⟨by first | rfl | simp, A0.out.below⟩
  case pos =>
  have h5' : (P.length : Int) = (es.length : Int) * 5 := by omega
  have h5b : ((P.length : Int) == (es.length : Int) * 5) = true := by simpa using h5'
  have H5 := hide h5
  clear h5
  go_wp2_with fail
  refine (C4.out _ D0.out.rp D0.out.rh D0.out.rb).mono ?_
  rintro x w2 ⟨rfl, q⟩
  have A1 := hide (A0.out.step q)
  clear q A0 D0 x0 x1 x2 x3 x4 x5
  obtain ⟨x0, x1, x2, x3, x4, x5⟩ := (A1.out.atBox 0 rfl).c6
  cases c4 with
  | false =>
    obtain rfl : t = false := by cases t with | false => rfl | true => have := H4.out.2 (HT.out.1 rfl).2.2.2.1; simp at this
    go_wp2
    go_ret
    exact ⟨by first | rfl | simp, A1.out.below⟩
  | true =>
  have E4 := hide (H4.out.1 rfl)
  have EQ : Hid (t = true ↔ ((0 ≤ cu ∧ cu < (es.length : Int)) ∧ 0 ≤ me ∧ me ≤ 10000)) :=
    ⟨fun h => (HT.out.1 h).2.2.2.2, fun h => HT.out.2 ⟨by omega, E2.out, H5.out, E4.out, h⟩⟩
  clear h5' h5b hw1 hw2 C1 C2 C4
  go_wp2
  all_goals
    go_ret
    refine ⟨ret_bool ?_, A1.out.below⟩
    rw [Bool.eq_iff_iff, EQ.out]
    simp
    try omega

set_option maxRecDepth 100000 in
set_option maxHeartbeats 6400000 in
theorem sGoodScrub_calls (p h b e : Value) (cu me : Int) (P H : List ByteArray) (B : List Bool) (es : List Int) (t : Bool) (w : World) (d : RdSc w p h b e P H B es) (ht : t = true ↔ scOk P H B es cu me) :
    Calls Tryz.prog 66 #[.agg (scC p h b e cu me)] w fun x w' => x = .returned (.bool t) ∧ Below w.heap.size w w' := by
  obtain ⟨ap, cp, ah, ch, ab, cb, ae, ce, rfl, rfl, rfl, rfl⟩ := d.sl
  obtain ⟨_, _, _, _, hcm, _⟩ := d.re
  have hme := hcm.1
  unfold maxLen at hme
  clear hcm
  have A0 := hide ((Hand.start w).box (scC (.slice ap P.length cp) (.slice ah H.length ch) (.slice ab B.length cb) (.slice ae es.length ce) cu me) 29)
  have D0 := hide (d.below A0.out.below)
  have HT := hide ht
  obtain ⟨c1, hc1⟩ := bol_exS (1 ≤ (es.length : Int) ∧ (es.length : Int) ≤ 4)
  obtain ⟨c4, hc4⟩ := bol_exS (gkP P H B)
  obtain ⟨c5, hc5⟩ := bol_exS (0 ≤ cu ∧ cu ≤ (es.length : Int) - 1)
  obtain ⟨c6, hc6⟩ := bol_exS (0 ≤ me ∧ me ≤ 10000)
  have C1 := hide (fun W => lIn_calls (es.length : Int) 1 4 c1 W hc1)
  have C4 := hide (fun W q1 q2 q3 => sGoodDisk_calls (.slice ap P.length cp) (.slice ah H.length ch) (.slice ab B.length cb) P H B c4 W hc4 q1 q2 q3)
  have C5 := hide (fun W => lIn_calls cu 0 ((es.length : Int) - 1) c5 W hc5)
  have C6 := hide (fun W => lIn_calls me 0 10000 c6 W hc6)
  have H1 := hide hc1
  have H4 := hide hc4
  have H5 := hide hc5
  have H6 := hide hc6
  clear ht hc1 hc4 hc5 hc6 d
  obtain ⟨x0, x1, x2, x3, x4, x5⟩ := (A0.out.atBox 0 rfl).c6
  go_enter Tryz.func66, Tryz.ntmps66
  go_wp2
  go_loop [12] (fun vi => ∃ k : Nat, k ≤ es.length ∧ vi = .int .i64 k ∧ ∀ i, i < k → 0 ≤ es.getD i 0 ∧ es.getD i 0 ≤ 60000) (fun vi => es.length - (intOf vi).toNat)
  case atStart => exact ⟨0, Nat.zero_le _, rfl, fun i hi => by omega⟩
  case round =>
    obtain ⟨k, hk, rfl, hall⟩ := hrel
    have A := hide hall
    clear hall
    by_cases hlt : k < es.length
    · have hlt' : (k : Int) < (es.length : Int) := by omega
      obtain ⟨gb, off, rfl, hce⟩ := D0.out.re.cellS k hlt
      have X0 := hide (fun h : epAll es => h k hlt)
      have X1 := hide (fun (h : 0 ≤ es.getD k 0 ∧ es.getD k 0 ≤ 60000) i (hi : i < k + 1) => if e : i = k then (by rw [e]; exact h : 0 ≤ es.getD i 0 ∧ es.getD i 0 ≤ 60000) else A.out i (by omega))
      generalize es.getD k 0 = x at hce X0 X1
      obtain ⟨c2, hc2⟩ := bol_exS (0 ≤ x ∧ x ≤ 60000)
      have C2 := hide (fun W => lIn_calls x 0 60000 c2 W hc2)
      have H2 := hide hc2
      clear hc2
      cases c2 with
      | true =>
        have E2 := hide (H2.out.1 rfl)
        go_wp2_with fail
        refine (C2.out _).mono ?_
        rintro e w' ⟨rfl, rfl⟩
        go_wp2
        go_round
        case rel =>
          exact ⟨k + 1, by omega, by go_num, X1.out E2.out⟩
        case measure => simp [intOf]; omega
      | false =>
        obtain rfl : t = false := by cases t with | false => rfl | true => have := H2.out.2 (X0.out (HT.out.1 rfl).2.1); simp at this
        go_wp2_with fail
        refine (C2.out _).mono ?_
        rintro e w' ⟨rfl, rfl⟩
        go_wp2
        go_ret
        exact ⟨by first | rfl | simp, A0.out.below⟩
    · obtain rfl : k = es.length := by omega
      have H2 : Hid (epAll es) := A.out
      clear A
      go_wp2_with fail
      refine (C1.out _).mono ?_
      rintro x w1 ⟨rfl, rfl⟩
      cases c1 with
      | false =>
        obtain rfl : t = false := by cases t with | false => rfl | true => have := (HT.out.1 rfl).1; have := H1.out.2 (by omega); simp at this
        go_wp2
        go_ret
        exact ⟨by first | rfl | simp, A0.out.below⟩
      | true =>
      have n14 := H1.out.1 rfl
      go_wp2_with fail
      refine (C4.out _ D0.out.rp D0.out.rh D0.out.rb).mono ?_
      rintro x w2 ⟨rfl, q⟩
      have A1 := hide (A0.out.step q)
      clear q A0 D0 x0 x1 x2 x3 x4 x5
      obtain ⟨x0, x1, x2, x3, x4, x5⟩ := (A1.out.atBox 0 rfl).c6
      cases c4 with
      | false =>
        obtain rfl : t = false := by cases t with | false => rfl | true => have := H4.out.2 (HT.out.1 rfl).2.2.2.1; simp at this
        go_wp2
        go_ret
        exact ⟨by first | rfl | simp, A1.out.below⟩
      | true =>
      have E4 := hide (H4.out.1 rfl)
      have hw1 : wrap64 (5 * (es.length : Int)) = 5 * (es.length : Int) := wrapS _ (by omega) (by omega)
      have hw2 : IntKind.i64.wrap (5 * (es.length : Int)) = 5 * (es.length : Int) := wrapS2 _ (by omega) (by omega)
      have hw3 : wrap64 ((es.length : Int) - 1) = (es.length : Int) - 1 := wrapS _ (by omega) (by omega)
      have hw4 : IntKind.i64.wrap ((es.length : Int) - 1) = (es.length : Int) - 1 := wrapS2 _ (by omega) (by omega)
      by_cases h5 : P.length = 5 * es.length
      case neg =>
        have h5' : ¬ (P.length : Int) = 5 * (es.length : Int) := by omega
        have h5b : ((P.length : Int) == 5 * (es.length : Int)) = false := by simpa using h5'
        obtain rfl : t = false := by cases t with | false => rfl | true => exact absurd (HT.out.1 rfl).2.2.1 h5
        clear h5
        go_wp2
        go_ret
        exact ⟨by first | rfl | simp, A1.out.below⟩
      case pos =>
      have h5' : (P.length : Int) = 5 * (es.length : Int) := by omega
      have h5b : ((P.length : Int) == 5 * (es.length : Int)) = true := by simpa using h5'
      have HL := hide h5
      clear h5
      go_wp2_with fail
      refine (C5.out _).mono ?_
      rintro x w1 ⟨rfl, rfl⟩
      cases c5 with
      | false =>
        obtain rfl : t = false := by cases t with | false => rfl | true => have := (HT.out.1 rfl).2.2.2.2.1; have := H5.out.2 (by omega); simp at this
        go_wp2
        go_ret
        exact ⟨by first | rfl | simp, A1.out.below⟩
      | true =>
      have E5 := hide (H5.out.1 rfl)
      go_wp2_with fail
      refine (C6.out _).mono ?_
      rintro x w1 ⟨rfl, rfl⟩
      obtain rfl : t = c6 := by
        rw [Bool.eq_iff_iff]
        exact ⟨fun h => H6.out.2 (HT.out.1 h).2.2.2.2.2, fun h => HT.out.2 ⟨by omega, H2.out, HL.out, E4.out, by have := E5.out; omega, H6.out.1 h⟩⟩
      go_wp2
      go_ret
      exact ⟨by first | rfl | simp, A1.out.below⟩
end Go.Proofs.YtbgadbokejaomaaGreatDoor

namespace Go.Proofs.YtbgadbokejaomaaGreatDoor
open Go.RowKit
set_option linter.unusedVariables false

/-- 'append(out, p...)', out the call's own row of integers, p whatever reads as these (nil too); and where the row lies then. -/
theorem run_app_intS {W : World} (ty : TypeId) (base : Nat) (v : Value) (xs : List Int) (hown : Own W base v xs) (u : Value) (zs : List Int) (hr : Rd W u zs) (hm : xs.length + zs.length ≤ 17179869184) (hbase : base ≤ W.heap.size) :
    ∃ v' w', (Builtin.append_ #[27, 27] ty #[v, u]).run Tryz.prog W = .ok v' w' ∧ Own w' base v' (xs ++ zs) ∧ W.grownBy w' v.ownBlock ∧ (v'.ownBlock = v.ownBlock ∨ v'.ownBlock = some W.heap.size) := by
  obtain ⟨i0, hi, hz0, hz1, hz2⟩ := info_parts infoInt
  obtain ⟨ad, cap, rfl, h1, ⟨h2, h2'⟩, h3⟩ := hr
  cases ad with
  | none =>
    have hz : zs = [] := by
      rcases h3 with h3 | ⟨b, off, hb, _⟩
      · exact h3
      · cases hb
    subst hz
    obtain rfl := h2' rfl
    have hrun := run_append_owned_none (P := Tryz.prog) (w := W) base 27 ty 3 i0 1 Tryz.underlying27 hi v xs.length _ hown
    refine ⟨v, W, hrun, ?_, World.grownBy.refl _ _, .inl rfl⟩
    rw [List.append_nil]
    exact hown
  | some ad =>
    have hnews : ∀ j y, (zs.map (Value.int .i64))[j]? = some y → W.cell? (ad.add j) = some y := by
      intro j y hj
      have hjl : j < zs.length := by simpa using (List.getElem?_eq_some_iff.1 hj).1
      rcases h3 with h3 | ⟨b, off, hb, _, hc⟩
      · subst h3; simp at hjl
      obtain rfl := Option.some.inj hb
      have hadd : (⟨b, off, none⟩ : Addr).add j = ⟨b, off + j, none⟩ := by unfold Addr.add; split <;> simp_all
      rw [hadd, hc j hjl]
      rw [List.getElem?_map, List.getElem?_eq_getElem hjl] at hj
      simp only [Option.map_some, Option.some.injEq] at hj
      rw [← hj, List.getD_eq_getElem?_getD, List.getElem?_eq_getElem hjl, Option.getD_some]
    obtain ⟨v', w', hrun, ho', hg', _, hat⟩ := run_append_own_at (P := Tryz.prog) W base 27 ty 3 i0 (.int .i64 0) 1 8 Tryz.underlying27 hi hz0 hz1 hz2 rfl (by decide) v xs.length _ hown ad zs.length cap (zs.map (Value.int .i64)) (by simp) hnews (ints_oneCell _ _) (by unfold maxLen; omega) (by omega) hbase
    refine ⟨v', w', hrun, ?_, hg', hat⟩
    show World.ownsRow _ _ _ _ _ (xs ++ zs).length _
    rw [List.map_append, List.length_append]
    exact ho'
theorem wpList_app_intS {W : World} {ops : Array Oper} {rest : List Oper} {o : Oper} {a : Act} {Q : Exit → Act → World → Prop} (hgd : o.guard = none) (s x : Operand)
    (ho : o.op = .call { callee := .builtin .append, args := #[s, x], argTypes := #[27, 27] }) (base : Nat) (v : Value) (hs : a.eval s = v) (xs : List Int) (hown : Own W base v xs) (u : Value) (hx : a.eval x = u) (zs : List Int) (hr : Rd W u zs) (hm : xs.length + zs.length ≤ 17179869184) (hbase : base ≤ W.heap.size)
    (h : ∀ v' w', Own w' base v' (xs ++ zs) → W.grownBy w' v.ownBlock → (v'.ownBlock = v.ownBlock ∨ v'.ownBlock = some W.heap.size) → wpList Tryz.prog ops Q rest (a.put o.dst v') w') : wpList Tryz.prog ops Q (o :: rest) a W := by
  refine wpList_plain hgd fun K hK => ?_
  obtain ⟨v', w', hrun, h1, h2, h3⟩ := run_app_intS (W := W) o.type base v xs hown u zs hr hm hbase
  unfold Oper.wp execOp
  simp only [ho, resolve, invoke, builtin, Sem.run_bind, Sem.run_pure, Result.andThen_ok, List.map_toArray, List.map_cons, List.map_nil, hs, hx, hrun]
  exact hK _ _ (h v' w' h1 h2 h3)

end Go.Proofs.YtbgadbokejaomaaGreatDoor

namespace Go.Proofs.YtbgadbokejaomaaGreatDoor
open Go.RowKit
set_option linter.unusedVariables false
set_option linter.unusedSimpArgs false

set_option maxRecDepth 100000 in
set_option maxHeartbeats 1600000 in
theorem copyListS_calls (v : Value) (xs : List Int) (w : World) (h : Rd w v xs) (hn : xs.length ≤ 1048576) :
    Calls Tryz.prog 118 #[v] w fun e w' => ∃ v', e = .returned v' ∧ Own w' w.heap.size v' xs ∧ Below w.heap.size w w' := by
  have R := hide h
  obtain ⟨a, cap, rfl, h1, h2, h3⟩ := h
  clear h3 h2 h1
  go_enter Tryz.func118, Tryz.ntmps118
  go_wp2_with (at_make; refine wpList_make_ints rfl _ _ rfl w.heap.size _ _ xs.length rfl rfl (by omega) (by omega) (by omega) (Nat.le_refl _) ?_)
  intro w0 hown0 hg0
  have hb0 : Below w.heap.size w w0 := (Below.refl _ _).grown hg0 (Nat.le_refl _) (fun k h => by cases h)
  have O0 := hide hown0
  have B0 := hide hb0
  clear hown0 hg0 hb0
  go_wp2_with (refine wpList_copy_fresh rfl _ _ rfl w.heap.size w.heap.size xs.length (List.replicate xs.length 0) rfl O0.out _ rfl xs (R.out.below B0.out) (Nat.le_refl _) (Nat.le_refl _) (by unfold maxLen; omega) w.heap.size w B0.out (Nat.le_refl _) ?_)
  intro w1 ho hb _
  have O1 := hide ho
  have B1 := hide hb
  clear ho hb
  go_wp2
  go_ret
  exact ⟨_, rfl, by simpa using O1.out, B1.out⟩



set_option maxRecDepth 100000 in
set_option maxHeartbeats 3200000 in
theorem copyScrub_calls (p h b e : Value) (cu me : Int) (P H : List ByteArray) (B : List Bool) (es : List Int) (w : World) (d : RdSc w p h b e P H B es) (gk : gkP P H B) (hes : es.length ≤ 1048576) :
    Calls Tryz.prog 77 #[.agg (scC p h b e cu me)] w fun x w' => ∃ p' h' b' e', x = .returned (.agg (scC p' h' b' e' cu me)) ∧ SrbV w' w.heap.size w'.heap.size p' h' b' e' P H B es ∧ Below w.heap.size w w' := by
  obtain ⟨ap, cp, ah, ch, ab, cb, ae, ce, rfl, rfl, rfl, rfl⟩ := d.sl
  have A0 := hide (Hand.two w (scC (.slice ap P.length cp) (.slice ah H.length ch) (.slice ab B.length cb) (.slice ae es.length ce) cu me) sc0 29 29)
  have D := hide d
  have n24 := gk.1
  have lH := gk.2.1
  have lB := gk.2.2.1
  have CD := hide (fun W q1 q2 q3 => copyDisk_calls (.slice ap P.length cp) (.slice ah H.length ch) (.slice ab B.length cb) P H B W q1 q2 q3 (by omega) (by omega) (by omega) gk.2.2.2.1 (by rw [lH]; exact gk.2.2.2.2.1))
  have D0 := hide (d.below A0.out.below)
  have HES := hide hes
  clear d gk n24 lH lB hes
  obtain ⟨x0, x1, x2, x3, x4, x5⟩ := (A0.out.atBox 1 rfl).c6
  go_enter Tryz.func77, Tryz.ntmps77
  go_upto_region 1 with fail
  obtain ⟨W0, hW0⟩ : ∃ u, u = (w.alloc (.cells (scC (.slice ap P.length cp) (.slice ah H.length ch) (.slice ab B.length cb) (.slice ae es.length ce) cu me) 29)).alloc (.cells sc0 29) := ⟨_, rfl⟩
  rw [← hW0] at A0 D0 x0 x1 x2 x3 x4 x5 ⊢
  clear hW0
  have A1 := hide (A0.out.step (Below.refl W0.heap.size W0).drew)
  go_region_with (first | (go_at_call 118; refine (copyListS_calls (.slice ae es.length ce) es _ (D.out.below A2.out.below).re HES.out).mono ?_; rintro x' w2 ⟨v2, rfl, o2, q2⟩; obtain ⟨a4, k4, rfl⟩ := row_slice o2; have A3 := hide (A2.out.add q2 (TInts.st _ _) ⟨o2, row_top o2⟩); clear o2 q2; have u6 := (A3.out.atBox 3 rfl).c6; have f0 := (A3.out.atBox 3 rfl).frozen 0; have f1 := (A3.out.atBox 3 rfl).frozen 1; have f2 := (A3.out.atBox 3 rfl).frozen 2; have f3 := (A3.out.atBox 3 rfl).frozen 3; obtain ⟨u60, u61, u62, u63, u64, u65⟩ := u6) | (go_at_call 117; refine (CD.out _ (D.out.below A1.out.below).rp (D.out.below A1.out.below).rh (D.out.below A1.out.below).rb).mono ?_; rintro x' w1 ⟨p1, h1, b1, rfl, dk, q⟩; obtain ⟨a1, k1, a2, k2, a3, k3, rfl, rfl, rfl⟩ := dk.sl; have A2 := hide (A1.out.add q (TDsk.st _ _ _ _ _ _) dk); clear q dk; obtain ⟨t60, t61, t62, t63, t64, t65⟩ := (A2.out.atBox 2 rfl).c6))
  all_goals
    clear u60 u61 u62 u63 u64 u65 t60 t61 t62 t63 t64 t65 f0 f1 f2 f3 A2 A1 x0 x1 x2 x3 x4 x5
    have A4 := hide (A3.out.lay3S 3 rfl (.slice a1 P.length k1) (.slice a2 H.length k2) (.slice a3 B.length k3))
    have A5 := hide (A4.out.layE 3 rfl (.slice a4 es.length k4))
    clear A3 A4
    have xl := A5.out.atBox 3 rfl
    obtain ⟨y0, y1, y2, y3, y4, y5⟩ := xl.c6
    have xr := A5.out.atBox 2 rfl
    obtain ⟨z0, z1, z2, z3, z4, z5⟩ := xr.c6
    have g0 := xr.frozen 0
    have g1 := xr.frozen 1
    have g2 := xr.frozen 2
    have g3 := xr.frozen 3
    have g4 := xr.frozen 4
    have g5 := xr.frozen 5
    have A8 := hide (A5.out.store6 2 rfl (.slice a1 P.length k1) (.slice a2 H.length k2) (.slice a3 B.length k3) (.slice a4 es.length k4) (.int .i64 cu) (.int .i64 me))
    clear xl xr A5
    go_wp2
    exact bodyPost_ret (res_sc rfl _ _ (w.heap.size + 1) _ _ _ _ _ _ (0, 0) rfl (A8.out.atBox 2 rfl)) rfl ⟨_, _, _, _, rfl, A8.out.srb, A8.out.below⟩

set_option maxRecDepth 100000 in
set_option maxHeartbeats 3200000 in
theorem l16Own_calls (p h b e : Value) (cu me : Int) (P H : List ByteArray) (B : List Bool) (es : List Int) (w : World) (d : RdSc w p h b e P H B es) (gk : gkP P H B) (hes : es.length ≤ 1048576) :
    Calls Tryz.prog 68 #[.agg (scC p h b e cu me)] w fun x w' => ∃ p' h' b' e', x = .returned (.agg (scC p' h' b' e' cu me)) ∧ SrbV w' w.heap.size w'.heap.size p' h' b' e' P H B es ∧ Below w.heap.size w w' := by
  obtain ⟨ap, cp, ah, ch, ab, cb, ae, ce, rfl, rfl, rfl, rfl⟩ := d.sl
  have A0 := hide (Hand.two w (scC (.slice ap P.length cp) (.slice ah H.length ch) (.slice ab B.length cb) (.slice ae es.length ce) cu me) sc0 29 29)
  have D := hide d
  have n24 := gk.1
  have lH := gk.2.1
  have lB := gk.2.2.1
  have CD := hide (fun W q1 q2 q3 => l7Own_calls (.slice ap P.length cp) (.slice ah H.length ch) (.slice ab B.length cb) P H B W q1 q2 q3 (by omega) (by omega) (by omega))
  have D0 := hide (d.below A0.out.below)
  have HES := hide hes
  clear d gk n24 lH lB hes
  obtain ⟨x0, x1, x2, x3, x4, x5⟩ := (A0.out.atBox 1 rfl).c6
  go_enter Tryz.func68, Tryz.ntmps68
  go_wp2_with fail
  refine (CD.out _ D0.out.rp D0.out.rh D0.out.rb).mono ?_
  rintro x w1 ⟨p1, h1, b1, rfl, dk, q⟩
  obtain ⟨a1, k1, a2, k2, a3, k3, rfl, rfl, rfl⟩ := dk.sl
  have A1 := hide (A0.out.add q (TDsk.st _ _ _ _ _ _) dk)
  clear q dk A0 D0 CD x0 x1 x2 x3 x4 x5
  obtain ⟨y0, y1, y2, y3, y4, y5⟩ := (A1.out.atBox 2 rfl).c6
  have f0 := (A1.out.atBox 2 rfl).frozen 0
  have f1 := (A1.out.atBox 2 rfl).frozen 1
  have f2 := (A1.out.atBox 2 rfl).frozen 2
  have A2 := hide (A1.out.lay3S 2 rfl (.slice a1 P.length k1) (.slice a2 H.length k2) (.slice a3 B.length k3))
  clear A1
  obtain ⟨W2, hW2⟩ : ∃ u, u = ((w1.setCell ⟨w.heap.size, 0, none⟩ (.slice a1 P.length k1)).setCell ⟨w.heap.size, 1, none⟩ (.slice a2 H.length k2)).setCell ⟨w.heap.size, 2, none⟩ (.slice a3 B.length k3) := ⟨_, rfl⟩
  go_upto_region 2 with fail
  clear y0 y1 y2 y3 y4 y5 f0 f1 f2
  rw [← hW2] at A2 ⊢
  clear hW2
  obtain ⟨y0, y1, y2, y3, y4, y5⟩ := (A2.out.atBox 2 rfl).c6
  have f3 := (A2.out.atBox 2 rfl).frozen 3
  obtain ⟨W3, hW3⟩ : ∃ u, u = W2.alloc (.cells #[] 3) := ⟨_, rfl⟩
  have b3 : Below W2.heap.size W2 W3 := by rw [hW3]; exact below_box _ _
  have o3 : Own W3 W2.heap.size (.slice (some ⟨W2.heap.size, 0, none⟩) 0 0) [] := by
    have := World.ownsRow_lit (base := W2.heap.size) (e := 3) (size := 1) W2 #[] 0 (by simp) (Nat.zero_le _) rfl
    rw [hW3]
    exact this
  have E3 : Hid (W2.alloc (.cells #[] 3) = W3) := hW3.symm
  have U3 := hide (D.out.below (A2.out.step b3).below).re
  have B3 := hide b3
  have O3 := hide o3
  clear hW3 b3 o3
  obtain ⟨v0, v1, v2, v3, v4, v5⟩ := ((A2.out.step (below_box W2 (.cells #[] 3))).atBox 2 rfl).c6
  go_wp2_with (refine wpList_app_intS rfl _ _ rfl W2.heap.size (.slice (some ⟨W2.heap.size, 0, none⟩) 0 0) rfl [] (by rw [E3.out]; exact O3.out) (.slice ae es.length ce) rfl es (by rw [E3.out]; exact U3.out) (by have := HES.out; simp only [List.length_nil]; omega) (by rw [E3.out]; exact B3.out.size) ?_)
  rw [E3.out]
  clear v0 v1 v2 v3 v4 v5
  intro v4 w4 o4 g4 at4
  obtain ⟨a4, k4, rfl⟩ := row_slice o4
  have b4 : Below W2.heap.size W2 w4 := B3.out.grown g4 B3.out.size (fun j hj => by
    have e : W2.heap.size = j := by simpa [Value.ownBlock] using hj
    omega)
  have A4 := hide (A2.out.add b4 (TInts.st _ _) ⟨o4, row_top o4⟩)
  clear o4 g4 at4 b4 E3 U3 B3 O3 A2 y0 y1 y2 y3 y4 y5 f3
  obtain ⟨y0, y1, y2, y3, y4, y5⟩ := (A4.out.atBox 3 rfl).c6
  have f3 := (A4.out.atBox 3 rfl).frozen 3
  have A5 := hide (A4.out.layE 3 rfl (.slice a4 es.length k4))
  clear A4
  have xr := A5.out.atBox 2 rfl
  obtain ⟨z0, z1, z2, z3, z4, z5⟩ := xr.c6
  have g0 := xr.frozen 0
  have g1 := xr.frozen 1
  have g2 := xr.frozen 2
  have g3 := xr.frozen 3
  have g4 := xr.frozen 4
  have g5 := xr.frozen 5
  have A8 := hide (A5.out.store6 2 rfl (.slice a1 P.length k1) (.slice a2 H.length k2) (.slice a3 B.length k3) (.slice a4 es.length k4) (.int .i64 cu) (.int .i64 me))
  clear xr A5
  go_wp2
  exact bodyPost_ret (res_sc rfl _ _ (w.heap.size + 1) _ _ _ _ _ _ (0, 0) rfl (A8.out.atBox 2 rfl)) rfl ⟨_, _, _, _, rfl, A8.out.srb, A8.out.below⟩
end Go.Proofs.YtbgadbokejaomaaGreatDoor

namespace Go.Proofs.YtbgadbokejaomaaGreatDoor
open Go.RowKit
set_option linter.unusedVariables false
set_option linter.unusedSimpArgs false

theorem rd_nilJ (w : World) : Rd w (.slice none 0 0) [] := ⟨none, 0, rfl, Nat.le_refl _, ⟨Nat.zero_le _, fun _ => rfl⟩, .inl rfl⟩
theorem frR_yes {K A E : Int} {b : ByteArray} (h : goodF K A E b.size) : (frR K A E b).2 = true ∧ (frR K A E b).1.size = 28 := by
  have e : frR K A E b = (ofN (frB K.toNat A.toNat E.toNat (bs b)), true) := if_pos h
  rw [e]
  refine ⟨rfl, ?_⟩
  rw [ofN_size, frB_length (by rw [bs_length]; exact h.2.2)]
theorem frR_no {K A E : Int} {b : ByteArray} (h : ¬ goodF K A E b.size) : frR K A E b = (⟨#[]⟩, false) := if_neg h
set_option maxRecDepth 100000 in
set_option maxHeartbeats 1600000 in
theorem holdFrame_calls (p h b : Value) (P H : List ByteArray) (B : List Bool) (K E : Int) (k : Nat) (T : ByteArray) (lo hi n : Nat) (ok : Bool) (w : World) (d : DskV w lo hi p h b P H B) (hhi : hi ≤ w.heap.size) (hP : P.length = n) (hH : H.length = n) (hB : B.length = n) (hn : 0 < n ∧ n ≤ 24) (hk : k < n) (hT : T.size ≤ maxLen)
    (hok : ok = true ↔ (goodF K (k : Int) E T.size ∧ B.getD k false = false)) :
    Calls Tryz.prog 146 #[.agg #[p, h, b], .agg #[.int .i64 K, .int .i64 (k : Int), .int .i64 E, .string T]] w fun e w' => e = .returned (.bool ok) ∧ (ok = true → DskV w' lo hi p h b P (H.set k (frR K (k : Int) E T).1) B) ∧ Chg lo hi w w' := by
  obtain ⟨ap, cp, ah, ch, ab, cb, rfl, rfl, rfl⟩ := d.sl
  have A0 := hide (Hand.twoR w #[.slice ap P.length cp, .slice ah H.length ch, .slice ab B.length cb] (frC K (k : Int) E T) 26 160)
  have FB := hide (fun W => frameBytes_calls K (k : Int) E T W hT)
  have D := hide d
  have HP := hide hP
  have HH := hide hH
  have HB := hide hB
  by_cases hg : goodF K (k : Int) E T.size
  · obtain ⟨f1, f2⟩ := frR_yes hg
    rw [f1] at FB
    have DS := hide (fun W dd q => doStep_1 (.slice ap P.length cp) (.slice ah H.length ch) (.slice ab B.length cb) (.slice none 0 0) P H B [] lo hi n k (frR K (k : Int) E T).1 ok W dd q HP.out HH.out HB.out hn (fun w' _ => rd_nilJ w') hk (by omega) (hok.trans ⟨fun h => ⟨h.2, by omega, by omega⟩, fun h => ⟨hg, h.1⟩⟩))
    generalize (frR K (k : Int) E T).1 = s at FB DS ⊢
    obtain ⟨x0, x1, x2⟩ := (A0.out.atBox 1 rfl).c3
    obtain ⟨z0, z1, z2, z3⟩ := (A0.out.atBox 0 rfl).c4
    clear d hP hH hB hok hg f1 f2 hT
    go_enter Tryz.func146, Tryz.ntmps146
    go_wp2_with fail
    refine (FB.out _).mono ?_
    rintro e w1 ⟨rfl, q⟩
    have A1 := hide (A0.out.step q)
    have BS : hi ≤ w1.heap.size := Nat.le_trans hhi A1.out.below.size
    clear q A0 x0 x1 x2 z0 z1 z2 z3
    obtain ⟨x0, x1, x2⟩ := (A1.out.atBox 1 rfl).c3
    obtain ⟨z0, z1, z2, z3⟩ := (A1.out.atBox 0 rfl).c4
    go_wp2_with (go_at_call 84; refine (DS.out _ (D.out.below A1.out.below) BS).mono ?_; rintro e w2 ⟨rfl, d2, c2⟩)
    go_ret
    exact ⟨by simp, d2, (Chg.ofBelow A1.out.below).trans c2⟩
  · rw [frR_no hg] at FB
    obtain rfl : ok = false := by cases ok with | false => rfl | true => exact absurd (hok.1 rfl).1 hg
    obtain ⟨x0, x1, x2⟩ := (A0.out.atBox 1 rfl).c3
    obtain ⟨z0, z1, z2, z3⟩ := (A0.out.atBox 0 rfl).c4
    clear d hP hH hB hok hg hT
    go_enter Tryz.func146, Tryz.ntmps146
    go_wp2_with fail
    refine (FB.out _).mono ?_
    rintro e w1 ⟨rfl, q⟩
    have A1 := hide (A0.out.step q)
    clear q A0 x0 x1 x2 z0 z1 z2 z3
    go_wp2
    go_ret
    exact ⟨rfl, fun h => by simp at h, Chg.ofBelow A1.out.below⟩

set_option maxRecDepth 100000 in
set_option maxHeartbeats 1600000 in
theorem syncDisk_calls (p h b : Value) (P H : List ByteArray) (B : List Bool) (lo hi n : Nat) (w : World) (d : DskV w lo hi p h b P H B) (hhi : hi ≤ w.heap.size) (hP : P.length = n) (hH : H.length = n) (hB : B.length = n) (hn : 0 < n ∧ n ≤ 24) :
    Calls Tryz.prog 78 #[.agg #[p, h, b]] w fun x w' => x = .returned (.tuple #[]) ∧ DskV w' lo hi p h b (crP P H (hpl H n)) (crH H) B ∧ Chg lo hi w w' := by
  obtain ⟨ap, cp, ah, ch, ab, cb, rfl, rfl, rfl⟩ := d.sl
  have A0 := hide ((Hand.start w).box #[.slice ap P.length cp, .slice ah H.length ch, .slice ab B.length cb] 26)
  have HF := hide (fun W dd q => doStep_sync (.slice ap P.length cp) (.slice ah H.length ch) (.slice ab B.length cb) (.slice none 0 0) P H B [] lo hi n W dd q hP hH hB hn (fun w' _ => rd_nilJ w'))
  have D := hide d
  have BS : hi ≤ (w.alloc (.cells #[.slice ap P.length cp, .slice ah H.length ch, .slice ab B.length cb] 26)).heap.size := Nat.le_trans hhi A0.out.below.size
  obtain ⟨x0, x1, x2⟩ := (A0.out.atBox 0 rfl).c3
  clear d hP hH hB
  go_enter Tryz.func78, Tryz.ntmps78
  go_wp2_with fail
  refine (HF.out _ (D.out.below A0.out.below) BS).mono ?_
  rintro x w1 ⟨rfl, d1, c1⟩
  have D1 := hide (d1 trivial)
  clear d1
  go_wp2
  go_end0
  exact ⟨rfl, D1.out, (Chg.ofBelow A0.out.below).trans c1⟩
end Go.Proofs.YtbgadbokejaomaaGreatDoor

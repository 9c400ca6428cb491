/-
  A good journal: the program's fitsPhase and GoodJournal, call by call. Each contract says what it asks. A good journal: the model's GoodJournal, call by call. Each contract says what it asks. The law that holds the program's RecoverFrom against its model's: at every disk the call returns true, and nothing that was there is written. No condition.
-/
import Derived.Test.YtpgmocogffolaaaRecoverFromB18
import Derived.Test.YtpgmocogffolaaaRecoverFromB27
namespace Go.Proofs.Ytpgmocogffolaaa
open Go.RowKit
set_option linter.unusedVariables false
set_option linter.unusedSimpArgs false

/-- What is on its way fits the Phase. -/
def phP (ph : Int) (cm : List Int) : Prop := (0 ≤ ph ∧ ph ≤ 3) ∧ (ph = 0 → cm = []) ∧ (ph ≠ 0 → jsP cm)
/-- A journal is good. -/
def jgP (P H : List ByteArray) (B : List Bool) (e ph : Int) (ak cm : List Int) : Prop :=
  (gkP P H B ∧ P.length = 5) ∧ (¬ ∃ i, i < B.length ∧ B.getD i false = true) ∧ phP ph cm ∧ rcv P (crH H) B = some (ak, e)
theorem kp_nil (H : List ByteArray) : kpOk H [] := ⟨fun i hi => by simp at hi, fun i hi => by simp at hi⟩
theorem gk_cr {P H : List ByteArray} {B : List Bool} (g : gkP P H B) : gkP P (crH H) B := by
  obtain ⟨h1, h2, h3, h4, h5, h6⟩ := g
  have e : ∀ i, (crH H).getD i ⟨#[]⟩ = (⟨#[]⟩ : ByteArray) := by
    intro i
    simp only [crH, List.getD_eq_getElem?_getD, List.getElem?_replicate]
    split <;> rfl
  refine ⟨h1, by simp [crH, h2], h3, h4, fun i hi => ?_, fun i hi _ => e i⟩
  rw [e]
  exact Nat.zero_le _
theorem jg_js {P H : List ByteArray} {B : List Bool} {e ph : Int} {ak cm : List Int} (h : jgP P H B e ph ak cm) : jsP ak ∧ 0 ≤ e ∧ e ≤ 60000 := rcv_ok h.2.2.2

set_option maxRecDepth 100000 in
set_option maxHeartbeats 1600000 in
theorem fitsPhase_calls (p h b a c : Value) (e ph : Int) (cm : List Int) (t : Bool) (w : World) (hc : Rd w c cm) (ht : t = true ↔ phP ph cm) :
    Calls Try.prog 79 #[.agg (jrC p h b e ph a c)] w fun x w' => x = .returned (.bool t) ∧ Below w.heap.size w w' := by
  have R := hide hc
  obtain ⟨ac, cc, rfl, mh, hcm, _⟩ := hc
  have hm := hcm.1
  unfold maxLen at hm
  clear hcm
  have A0 := hide ((Hand.start w).box (jrC p h b e ph a (.slice ac cm.length cc)) 42)
  have R0 := hide (R.out.below A0.out.below)
  have HT := hide ht
  clear ht
  obtain ⟨x0, x1, x2, x3, x4, x5, x6⟩ := (A0.out.atBox 0 rfl).c7
  by_cases h0 : ph = 0
  · subst h0
    by_cases hn : cm.length = 0
    · have hn' : (cm.length : Int) = 0 := by omega
      have hnb : ((cm.length : Int) == 0) = true := beq_iff_eq.2 hn'
      obtain rfl : t = true := HT.out.2 ⟨by omega, fun _ => List.length_eq_zero_iff.1 hn, fun h => absurd rfl h⟩
      clear hn
      go_enter Try.func79, Try.ntmps79
      go_wp2
      go_ret
      exact ⟨by first | rfl | simp [hnb], A0.out.below⟩
    · have hn' : ¬ (cm.length : Int) = 0 := by omega
      have hnb : ((cm.length : Int) == 0) = false := beq_eq_false_iff_ne.2 hn'
      obtain rfl : t = false := by
        cases t with
        | false => rfl
        | true => exact absurd (by rw [(HT.out.1 rfl).2.1 rfl]; rfl) hn
      clear hn
      go_enter Try.func79, Try.ntmps79
      go_wp2
      go_ret
      exact ⟨by first | rfl | simp [hnb], A0.out.below⟩
  · have h0b : (ph == 0) = false := by simpa using h0
    by_cases h1 : 1 ≤ ph
    · by_cases h3 : ph ≤ 3
      · have IS := hide (fun W r => isState_calls (.slice ac cm.length cc) cm t W r (HT.out.trans ⟨fun h => h.2.2 h0, fun h => ⟨⟨by omega, h3⟩, fun h' => absurd h' h0, fun _ => h⟩⟩))
        go_enter Try.func79, Try.ntmps79
        go_wp2_with (go_at_call 119; refine (IS.out _ R0.out).mono ?_; rintro e w' ⟨rfl, rfl⟩)
        go_ret
        exact ⟨by first | rfl | simp, A0.out.below⟩
      · obtain rfl : t = false := by
          cases t with
          | false => rfl
          | true => exact absurd (HT.out.1 rfl).1.2 h3
        go_enter Try.func79, Try.ntmps79
        go_wp2
        go_ret
        exact ⟨by first | rfl | simp, A0.out.below⟩
    · obtain rfl : t = false := by
        cases t with
        | false => rfl
        | true => have := (HT.out.1 rfl).1.1; omega
      go_enter Try.func79, Try.ntmps79
      go_wp2
      go_ret
      exact ⟨by first | rfl | simp, A0.out.below⟩

set_option maxRecDepth 100000 in
set_option maxHeartbeats 3200000 in
theorem goodJournal_calls (p h b a c : Value) (e ph : Int) (P H : List ByteArray) (B : List Bool) (ak cm : List Int) (t : Bool) (w : World) (d : RdJ w p h b a c P H B ak cm) (hm : B.length ≤ 1048576) (ht : t = true ↔ jgP P H B e ph ak cm) :
    Calls Try.prog 27 #[.agg (jrC p h b e ph a c)] w fun x w' => x = .returned (.bool t) ∧ Below w.heap.size w w' := by
  have A0 := hide ((Hand.start w).box (jrC p h b e ph a c) 42)
  have D0 := hide (d.below A0.out.below)
  have HT := hide ht
  have HM := hide hm
  obtain ⟨t1, h1⟩ := bol_exJ (phP ph cm)
  have FP := hide (fun W (r : Rd W c cm) => fitsPhase_calls p h b a c e ph cm t1 W r h1)
  clear ht hm d
  obtain ⟨x0, x1, x2, x3, x4, x5, x6⟩ := (A0.out.atBox 0 rfl).c7
  cases t1 with
  | false =>
    obtain rfl : t = false := by cases t with | false => rfl | true => exact absurd (h1.2 (HT.out.1 rfl).2.2.1) (by simp)
    clear h1
    go_enter Try.func27, Try.ntmps27
    go_wp2_with fail
    refine (FP.out _ D0.out.rc).mono ?_
    rintro x w1 ⟨rfl, q⟩
    have A1 := hide (A0.out.step q)
    clear q
    go_wp2
    go_ret
    exact ⟨rfl, A1.out.below⟩
  | true =>
  have PH := hide (h1.1 rfl)
  clear h1
  obtain ⟨t2, h2⟩ := bol_exJ (∃ i, i < B.length ∧ B.getD i false = true)
  have CZ := hide (fun W (r : RdZ W b B) => containsZ_calls b B t2 W r HM.out h2)
  cases t2 with
  | true =>
    obtain rfl : t = false := by cases t with | false => rfl | true => exact absurd (h2.1 rfl) (HT.out.1 rfl).2.1
    clear h2
    go_enter Try.func27, Try.ntmps27
    go_wp2_with fail
    refine (FP.out _ D0.out.rc).mono ?_
    rintro x w1 ⟨rfl, q⟩
    have A1 := hide (A0.out.step q)
    have D1 := hide (D0.out.below q)
    clear q A0 D0 x0 x1 x2 x3 x4 x5 x6
    obtain ⟨x0, x1, x2, x3, x4, x5, x6⟩ := (A1.out.atBox 0 rfl).c7
    go_wp2_with fail
    refine (CZ.out _ D1.out.rb).mono ?_
    rintro x w2 ⟨rfl, rfl⟩
    go_wp2
    go_ret
    exact ⟨rfl, A1.out.below⟩
  | false =>
  have NB : Hid (¬ ∃ i, i < B.length ∧ B.getD i false = true) := fun h => by have := h2.2 h; simp at this
  clear h2
  obtain ⟨g, hg⟩ := bol_exJ (gkP P H B)
  have AC := hide (fun W r1 r2 r3 => afterCrash_calls p h b (.slice none 0 0) P H B [] g W (hg.trans ⟨fun h => ⟨h, kp_nil H⟩, fun h => h.1⟩) r1 r2 r3 (rd_nilJ W) (by simp))
  cases g with
  | false =>
    obtain rfl : t = false := by cases t with | false => rfl | true => exact absurd (hg.2 (HT.out.1 rfl).1.1) (by simp)
    clear hg
    go_enter Try.func27, Try.ntmps27
    go_wp2_with fail
    refine (FP.out _ D0.out.rc).mono ?_
    rintro x w1 ⟨rfl, q⟩
    have A1 := hide (A0.out.step q)
    have D1 := hide (D0.out.below q)
    clear q A0 D0 x0 x1 x2 x3 x4 x5 x6
    obtain ⟨x0, x1, x2, x3, x4, x5, x6⟩ := (A1.out.atBox 0 rfl).c7
    go_wp2_with fail
    refine (CZ.out _ D1.out.rb).mono ?_
    rintro x w2 ⟨rfl, rfl⟩
    go_wp2_with fail
    refine (AC.out _ D1.out.rp D1.out.rh D1.out.rb).mono ?_
    rintro x w3 ⟨p3, h3, b3, rfl, dk, q⟩
    obtain ⟨a3, c3, a4, c4, a5, c5, rfl, rfl, rfl⟩ := dk.sl
    have A3 := hide ((A1.out.step q).box #[.slice a3 (acP false P H []).length c3, .slice a4 (acH false H).length c4, .slice a5 (acB false B).length c5] 30)
    clear q dk
    go_wp2
    go_ret
    exact ⟨rfl, A3.out.below⟩
  | true =>
  have GK := hide (hg.1 rfl)
  clear hg
  have eP : acP true P H [] = P := by simp only [acP, if_true]; exact crP_nil P H
  have eH : acH true H = crH H := by simp only [acH, if_true]
  have eB : acB true B = B := by simp only [acB, if_true]
  rw [eP, eH, eB] at AC
  clear eP eH eB
  obtain ⟨g5, hg5⟩ := bol_exJ (gkP P (crH H) B ∧ P.length = 5)
  have RF := hide (fun p3 h3 b3 W r1 r2 r3 => recoverFrom_calls p3 h3 b3 P (crH H) B g5 W hg5 r1 r2 r3)
  have EQ : Hid (t = true ↔ rcG g5 P (crH H) B = some (ak, e)) := by
    refine HT.out.trans ⟨fun h => ?_, fun h => ?_⟩
    · obtain rfl : g5 = true := hg5.2 ⟨gk_cr h.1.1, h.1.2⟩
      exact h.2.2.2
    · cases g5 with
      | false => simp [rcG] at h
      | true => exact ⟨⟨GK.out, (hg5.1 rfl).2⟩, NB.out, PH.out, h⟩
  clear hg5
  generalize rcG g5 P (crH H) B = oo at RF EQ
  cases oo with
  | none =>
    obtain rfl : t = false := by cases t with | false => rfl | true => have := EQ.out.1 rfl; simp at this
    change Hid (∀ (p3 h3 b3 : Value) (W : World), _ → _ → _ → Calls _ _ _ _ fun x w' => ∃ v', x = .returned (.tuple #[v', .int .i64 0, .bool false]) ∧ Own w' W.heap.size v' [] ∧ _) at RF
    go_enter Try.func27, Try.ntmps27
    go_wp2_with fail
    refine (FP.out _ D0.out.rc).mono ?_
    rintro x w1 ⟨rfl, q⟩
    have A1 := hide (A0.out.step q)
    have D1 := hide (D0.out.below q)
    clear q A0 D0 x0 x1 x2 x3 x4 x5 x6
    obtain ⟨x0, x1, x2, x3, x4, x5, x6⟩ := (A1.out.atBox 0 rfl).c7
    go_wp2_with fail
    refine (CZ.out _ D1.out.rb).mono ?_
    rintro x w2 ⟨rfl, rfl⟩
    go_wp2_with fail
    refine (AC.out _ D1.out.rp D1.out.rh D1.out.rb).mono ?_
    rintro x w3 ⟨p3, h3, b3, rfl, dk, q⟩
    obtain ⟨a3, c3, a4, c4, a5, c5, rfl, rfl, rfl⟩ := dk.sl
    have bb := below_box w3 (.cells #[.slice a3 P.length c3, .slice a4 (crH H).length c4, .slice a5 B.length c5] 30)
    have DK := hide (dk.below bb)
    have A3 := hide ((A1.out.step q).box #[.slice a3 P.length c3, .slice a4 (crH H).length c4, .slice a5 B.length c5] 30)
    clear q dk bb A1 x0 x1 x2 x3 x4 x5 x6
    obtain ⟨y0, y1, y2⟩ := (A3.out.atBox 0 rfl).c3
    obtain ⟨x0, x1, x2, x3, x4, x5, x6⟩ := (A3.out.atBox 1 rfl).c7
    go_wp2_with fail
    refine (RF.out _ _ _ _ DK.out.rp DK.out.rh DK.out.rb).mono ?_
    rintro x w4 ⟨v4, rfl, o4, q⟩
    have A4 := hide (A3.out.step q)
    clear q o4 A3 y0 y1 y2 x0 x1 x2 x3 x4 x5 x6
    obtain ⟨x0, x1, x2, x3, x4, x5, x6⟩ := (A4.out.atBox 1 rfl).c7
    go_wp2
    go_ret
    exact ⟨by first | rfl | simp, A4.out.below⟩
  | some r =>
  obtain ⟨vs, E⟩ := r
  change Hid (∀ (p3 h3 b3 : Value) (W : World), _ → _ → _ → Calls _ _ _ _ fun x w' => ∃ v', x = .returned (.tuple #[v', .int .i64 E, .bool true]) ∧ Own w' W.heap.size v' vs ∧ _) at RF
  by_cases hE : E = e
  · subst hE
    obtain rfl : t = decide (vs = ak) := by
      rw [Bool.eq_iff_iff, EQ.out]
      simp
    go_enter Try.func27, Try.ntmps27
    go_wp2_with fail
    refine (FP.out _ D0.out.rc).mono ?_
    rintro x w1 ⟨rfl, q⟩
    have A1 := hide (A0.out.step q)
    have D1 := hide (D0.out.below q)
    clear q A0 D0 x0 x1 x2 x3 x4 x5 x6
    obtain ⟨x0, x1, x2, x3, x4, x5, x6⟩ := (A1.out.atBox 0 rfl).c7
    go_wp2_with fail
    refine (CZ.out _ D1.out.rb).mono ?_
    rintro x w2 ⟨rfl, rfl⟩
    go_wp2_with fail
    refine (AC.out _ D1.out.rp D1.out.rh D1.out.rb).mono ?_
    rintro x w3 ⟨p3, h3, b3, rfl, dk, q⟩
    obtain ⟨a3, c3, a4, c4, a5, c5, rfl, rfl, rfl⟩ := dk.sl
    have bb := below_box w3 (.cells #[.slice a3 P.length c3, .slice a4 (crH H).length c4, .slice a5 B.length c5] 30)
    have DK := hide (dk.below bb)
    have D3 := hide (D1.out.below (q.trans (bb.mono q.size)))
    have A3 := hide ((A1.out.step q).box #[.slice a3 P.length c3, .slice a4 (crH H).length c4, .slice a5 B.length c5] 30)
    clear q dk bb A1 D1 x0 x1 x2 x3 x4 x5 x6
    obtain ⟨y0, y1, y2⟩ := (A3.out.atBox 0 rfl).c3
    obtain ⟨x0, x1, x2, x3, x4, x5, x6⟩ := (A3.out.atBox 1 rfl).c7
    go_wp2_with fail
    refine (RF.out _ _ _ _ DK.out.rp DK.out.rh DK.out.rb).mono ?_
    rintro x w4 ⟨v4, rfl, o4, q⟩
    have A4 := hide (A3.out.step q)
    have D4 := hide (D3.out.below q)
    have R4 := hide (Own.rd o4)
    clear q o4 A3 D3 y0 y1 y2 x0 x1 x2 x3 x4 x5 x6
    obtain ⟨x0, x1, x2, x3, x4, x5, x6⟩ := (A4.out.atBox 1 rfl).c7
    go_wp2_with fail
    refine (jEq_is _ _ vs ak _ R4.out D4.out.ra).mono ?_
    rintro x w5 ⟨rfl, q⟩
    have A5 := hide (A4.out.step q)
    clear q
    go_wp2
    go_ret
    exact ⟨by first | rfl | simp, A5.out.below⟩
  · have hEb : (E == e) = false := by simpa using hE
    obtain rfl : t = false := by cases t with | false => rfl | true => have := EQ.out.1 rfl; simp at this; exact absurd this.2 hE
    go_enter Try.func27, Try.ntmps27
    go_wp2_with fail
    refine (FP.out _ D0.out.rc).mono ?_
    rintro x w1 ⟨rfl, q⟩
    have A1 := hide (A0.out.step q)
    have D1 := hide (D0.out.below q)
    clear q A0 D0 x0 x1 x2 x3 x4 x5 x6
    obtain ⟨x0, x1, x2, x3, x4, x5, x6⟩ := (A1.out.atBox 0 rfl).c7
    go_wp2_with fail
    refine (CZ.out _ D1.out.rb).mono ?_
    rintro x w2 ⟨rfl, rfl⟩
    go_wp2_with fail
    refine (AC.out _ D1.out.rp D1.out.rh D1.out.rb).mono ?_
    rintro x w3 ⟨p3, h3, b3, rfl, dk, q⟩
    obtain ⟨a3, c3, a4, c4, a5, c5, rfl, rfl, rfl⟩ := dk.sl
    have bb := below_box w3 (.cells #[.slice a3 P.length c3, .slice a4 (crH H).length c4, .slice a5 B.length c5] 30)
    have DK := hide (dk.below bb)
    have A3 := hide ((A1.out.step q).box #[.slice a3 P.length c3, .slice a4 (crH H).length c4, .slice a5 B.length c5] 30)
    clear q dk bb A1 x0 x1 x2 x3 x4 x5 x6
    obtain ⟨y0, y1, y2⟩ := (A3.out.atBox 0 rfl).c3
    obtain ⟨x0, x1, x2, x3, x4, x5, x6⟩ := (A3.out.atBox 1 rfl).c7
    go_wp2_with fail
    refine (RF.out _ _ _ _ DK.out.rp DK.out.rh DK.out.rb).mono ?_
    rintro x w4 ⟨v4, rfl, o4, q⟩
    have A4 := hide (A3.out.step q)
    clear q o4 A3 y0 y1 y2 x0 x1 x2 x3 x4 x5 x6
    obtain ⟨x0, x1, x2, x3, x4, x5, x6⟩ := (A4.out.atBox 1 rfl).c7
    go_wp2
    go_ret
    exact ⟨by first | rfl | simp, A4.out.below⟩
end Go.Proofs.Ytpgmocogffolaaa

namespace Go.Proofs.Ytpgmocogffolaaa
open Go.RowKit
set_option linter.unusedVariables false
set_option linter.unusedSimpArgs false

set_option maxRecDepth 100000 in
set_option maxHeartbeats 6400000 in
theorem sGoodJournal_calls (p h b a c : Value) (e ph : Int) (P H : List ByteArray) (B : List Bool) (ak cm : List Int) (t : Bool) (w : World) (d : RdJ w p h b a c P H B ak cm) (hm : B.length ≤ 1048576) (ht : t = true ↔ jgP P H B e ph ak cm) :
    Calls Try.prog 25 #[.agg (jrC p h b e ph a c)] w fun x w' => x = .returned (.bool t) ∧ Below w.heap.size w w' := by
  have hra := d.ra
  have hrc := d.rc
  obtain ⟨ap, cp, rfl, mp, _⟩ := d.rp.sl
  obtain ⟨ah, ch, rfl, _, _⟩ := d.rh.sl
  obtain ⟨ab, cb, rfl, mb, _⟩ := d.rb.sl
  obtain ⟨aa, ca, rfl, _, _, _⟩ := hra
  obtain ⟨ac, cc, rfl, _, hcm, _⟩ := hrc
  have hmc := hcm.1
  unfold maxLen at hmc
  clear hcm
  have A0 := hide ((Hand.start w).box (jrC (.slice ap P.length cp) (.slice ah H.length ch) (.slice ab B.length cb) e ph (.slice aa ak.length ca) (.slice ac cm.length cc)) 42)
  have D := hide d
  have D0 := hide (d.below A0.out.below)
  have HT := hide ht
  obtain ⟨y, hy⟩ := gk_bool' P H B
  have HY := hide hy
  have GD := hide (fun W q1 q2 q3 => sGoodDisk_calls (.slice ap P.length cp) (.slice ah H.length ch) (.slice ab B.length cb) P H B y W hy q1 q2 q3)
  obtain ⟨s1, hs1⟩ := bol_exJ (jsP ak)
  have HS1 := hide hs1
  have S1 := hide (fun W r => l15State_calls (.slice aa ak.length ca) ak s1 W r hs1)
  obtain ⟨i1, hi1⟩ := bol_exJ (0 ≤ ph ∧ ph ≤ 3)
  have HI1 := hide hi1
  have I1 := hide (fun W => jIn_calls ph 0 3 i1 W hi1)
  obtain ⟨s2, hs2⟩ := bol_exJ (jsP cm)
  have HS2 := hide hs2
  have S2 := hide (fun W r => l15State_calls (.slice ac cm.length cc) cm s2 W r hs2)
  clear d ht hy hs1 hi1 hs2
  obtain ⟨x0, x1, x2, x3, x4, x5, x6⟩ := (A0.out.atBox 0 rfl).c7
  go_enter Try.func25, Try.ntmps25
  go_wp2_with fail
  refine (GD.out _ D0.out.rp D0.out.rh D0.out.rb).mono ?_
  rintro x w1 ⟨rfl, q⟩
  have A1 := hide (A0.out.step q)
  have R1 := hide (D0.out.below q)
  clear q A0 D0 GD x0 x1 x2 x3 x4 x5 x6
  obtain ⟨x0, x1, x2, x3, x4, x5, x6⟩ := (A1.out.atBox 0 rfl).c7
  cases y with
  | false =>
    obtain rfl : t = false := by cases t with | false => rfl | true => exact absurd (HY.out.2 (HT.out.1 rfl).1.1) (by simp)
    go_wp2
    go_ret
    exact ⟨by first | rfl | simp, A1.out.below⟩
  | true =>
  have GK := hide (HY.out.1 rfl)
  by_cases h5 : P.length = 5
  case neg =>
    have h5' : ¬ (P.length : Int) = 5 := by omega
    have h5b : ((P.length : Int) != 5) = true := by simp; omega
    obtain rfl : t = false := by cases t with | false => rfl | true => exact absurd (HT.out.1 rfl).1.2 h5
    clear h5
    go_wp2
    go_ret
    exact ⟨by first | rfl | simp, A1.out.below⟩
  case pos =>
  have h5' : (P.length : Int) = 5 := by omega
  have h5b : ((P.length : Int) != 5) = false := by simp; omega
  have H5 := hide h5
  have eH : H.length = 5 := GK.out.2.1.trans h5
  have eB : B.length = 5 := GK.out.2.2.1.trans h5
  have OW := hide (fun W q1 q2 q3 => l7Own_calls (.slice ap P.length cp) (.slice ah H.length ch) (.slice ab B.length cb) P H B W q1 q2 q3 (by omega) (by omega) (by omega))
  have LC := hide (fun p2 h2 b2 lo hi W (d2 : DskV W lo hi p2 h2 b2 P H B) (hh : hi ≤ W.heap.size) => l7Crash_calls p2 h2 b2 (.slice none 0 0) P H B [] lo hi 5 W d2 hh h5 eH eB (by omega) (fun w' _ => rd_nilJ w'))
  have ecr := crP_nil P H
  rw [ecr] at LC
  have LR := hide (fun p2 h2 b2 W q1 q2 q3 => l15Recover_calls p2 h2 b2 P (crH H) B W (gk_cr GK.out) h5 q1 q2 q3)
  clear h5 ecr eH eB
  go_wp2_with fail
  refine (S1.out _ R1.out.ra).mono ?_
  rintro x w2 ⟨rfl, rfl⟩
  cases s1 with
  | false =>
    obtain rfl : t = false := by cases t with | false => rfl | true => exact absurd (HS1.out.2 (jg_js (HT.out.1 rfl)).1) (by simp)
    go_wp2
    go_ret
    exact ⟨by first | rfl | simp, A1.out.below⟩
  | true =>
  go_wp2_with fail
  refine (I1.out _).mono ?_
  rintro x w2 ⟨rfl, rfl⟩
  cases i1 with
  | false =>
    obtain rfl : t = false := by cases t with | false => rfl | true => exact absurd (HI1.out.2 (HT.out.1 rfl).2.2.1.1) (by simp)
    go_wp2
    go_ret
    exact ⟨by first | rfl | simp, A1.out.below⟩
  | true =>
  have IN := hide (HI1.out.1 rfl)
  by_cases h0 : ph = 0
  · subst h0
    by_cases hn : cm.length = 0
    case neg =>
      have hn' : (0 : Int) < (cm.length : Int) := by omega
      have hn2 : 0 < cm.length := by omega
      obtain rfl : t = false := by
        cases t with
        | false => rfl
        | true => exact absurd (by rw [(HT.out.1 rfl).2.2.1.2.1 rfl]; rfl) hn
      clear hn
      go_wp2
      go_ret
      exact ⟨by first | rfl | simp, A1.out.below⟩
    case pos =>
    have hn' : ¬ (0 : Int) < (cm.length : Int) := by omega
    have hn2 : ¬ 0 < cm.length := by omega
    have PH : Hid (phP 0 cm) := ⟨by omega, fun _ => List.length_eq_zero_iff.1 hn, fun h => absurd rfl h⟩
    clear hn
    go_wp2
    go_loop [56] (fun vi => ∃ k : Nat, k ≤ B.length ∧ vi = .int .i64 k ∧ ∀ i, i < k → B.getD i false = false) (fun vi => B.length - (intOf vi).toNat)
    case atStart => exact ⟨0, Nat.zero_le _, rfl, fun i hi => by omega⟩
    case round =>
      obtain ⟨k, hk, rfl, hall⟩ := hrel
      have A := hide hall
      clear hall
      by_cases hlt : k < B.length
      · have hlt' : (k : Int) < (B.length : Int) := by omega
        obtain ⟨gb, ob, rfl, hb1, _⟩ := R1.out.rb.cell k hlt
        obtain ⟨z, hz⟩ : ∃ z, z = B.getD k false := ⟨_, rfl⟩
        rw [← hz] at hb1
        have HZ := hide hz
        clear hz
        cases z with
        | false =>
          go_wp2
          go_round
          case rel =>
            refine ⟨k + 1, by omega, by go_num, fun i hi => ?_⟩
            by_cases ei : i = k
            · rw [ei]; exact HZ.out.symm
            · exact A.out i (by omega)
          case measure => simp [intOf]; omega
        | true =>
          obtain rfl : t = false := by cases t with | false => rfl | true => exact absurd ⟨k, hlt, HZ.out.symm⟩ (HT.out.1 rfl).2.1
          go_wp2
          go_ret
          exact ⟨rfl, A1.out.below⟩
      · obtain rfl : k = B.length := by omega
        have NB : Hid (¬ ∃ i, i < B.length ∧ B.getD i false = true) := fun ⟨i, hi, ei⟩ => by rw [A.out i hi] at ei; cases ei
        have EQ : Hid (t = true ↔ rcv P (crH H) B = some (ak, e)) := ⟨fun h => (HT.out.1 h).2.2.2, fun h => HT.out.2 ⟨⟨GK.out, H5.out⟩, NB.out, PH.out, h⟩⟩
        have E0 : Hid (∀ vs E, rcv P (crH H) B = some (vs, E) → 0 ≤ E) := fun vs E h => (rcv_ok h).2.1
        go_wp2_with fail
        refine (OW.out _ R1.out.rp R1.out.rh R1.out.rb).mono ?_
        rintro x w3 ⟨p2, h2, b2, rfl, dk, q⟩
        have A3 := hide (A1.out.add q (TDsk.st _ _ _ _ _ _) dk)
        clear q dk A1 x0 x1 x2 x3 x4 x5 x6
        obtain ⟨lo, hi, d2, lw, hw, put⟩ := A3.out.open 0 rfl
        have D2 : Hid (DskV _ lo hi _ _ _ P H B) := d2
        have PUT := hide put
        clear d2 put
        go_wp2_with fail
        refine (LC.out _ _ _ lo hi _ D2.out hw).mono ?_
        rintro x w4 ⟨rfl, d4, c4⟩
        have A4 := hide (PUT.out w4 (TDsk _ _ _ _ _ _) (TDsk.st _ _ _ _ _ _) d4 c4)
        clear d4 c4 A3 D2 PUT lw hw
        have W4 := hide (A4.out.wide 0 rfl)
        go_wp2_with fail
        refine (LR.out _ _ _ _ W4.out.rp W4.out.rh W4.out.rb).mono ?_
        rintro x w5 ⟨v5, rfl, o5, q⟩
        have A5 := hide (A4.out.step q)
        have R5 := hide (Own.rd o5)
        have D5 := hide (D.out.below A5.out.below)
        clear q o5 A4 W4
        obtain ⟨x0, x1, x2, x3, x4, x5, x6⟩ := (A5.out.atBox 1 rfl).c7
        clear LR
        generalize rcv P (crH H) B = oo at R5 EQ E0 ⊢
        cases oo with
        | none =>
          obtain rfl : t = false := by cases t with | false => rfl | true => have := EQ.out.1 rfl; simp at this
          simp only [rcI]
          clear R5
          by_cases he : (-1 : Int) = e
          · subst he
            go_wp2
            go_ret
            exact ⟨by first | rfl | simp, A5.out.below⟩
          · have heb : ((-1 : Int) == e) = false := by simpa using he
            go_wp2
            go_ret
            exact ⟨by first | rfl | simp, A5.out.below⟩
        | some r =>
          obtain ⟨vs, E⟩ := r
          simp only [rcI]
          have he0 : 0 ≤ E := E0.out vs E rfl
          change Hid (Rd w5 v5 vs) at R5
          by_cases hE : E = e
          · subst hE
            obtain rfl : t = decide (vs = ak) := by
              rw [Bool.eq_iff_iff, EQ.out]
              simp
            go_wp2_with fail
            refine (jSame_is _ _ vs ak _ R5.out D5.out.ra).mono ?_
            rintro x w6 ⟨rfl, q⟩
            have A6 := hide (A5.out.step q)
            clear q
            go_wp2
            go_ret
            exact ⟨by first | rfl | simp, A6.out.below⟩
          · have hEb : (E == e) = false := by simpa using hE
            obtain rfl : t = false := by cases t with | false => rfl | true => have := EQ.out.1 rfl; simp at this; exact absurd this.2 hE
            go_wp2
            go_ret
            exact ⟨by first | rfl | simp, A5.out.below⟩
  · have h0b : (ph == 0) = false := by simpa using h0
    have hp : 0 < ph := by have := IN.out; omega
    go_wp2_with fail
    refine (S2.out _ R1.out.rc).mono ?_
    rintro x w2 ⟨rfl, rfl⟩
    cases s2 with
    | false =>
      obtain rfl : t = false := by cases t with | false => rfl | true => exact absurd (HS2.out.2 ((HT.out.1 rfl).2.2.1.2.2 h0)) (by simp)
      go_wp2
      go_ret
      exact ⟨by first | rfl | simp, A1.out.below⟩
    | true =>
    have PH : Hid (phP ph cm) := ⟨IN.out, fun h => absurd h h0, fun _ => HS2.out.1 rfl⟩
    go_wp2
    go_loop [56] (fun vi => ∃ k : Nat, k ≤ B.length ∧ vi = .int .i64 k ∧ ∀ i, i < k → B.getD i false = false) (fun vi => B.length - (intOf vi).toNat)
    case atStart => exact ⟨0, Nat.zero_le _, rfl, fun i hi => by omega⟩
    case round =>
      obtain ⟨k, hk, rfl, hall⟩ := hrel
      have A := hide hall
      clear hall
      by_cases hlt : k < B.length
      · have hlt' : (k : Int) < (B.length : Int) := by omega
        obtain ⟨gb, ob, rfl, hb1, _⟩ := R1.out.rb.cell k hlt
        obtain ⟨z, hz⟩ : ∃ z, z = B.getD k false := ⟨_, rfl⟩
        rw [← hz] at hb1
        have HZ := hide hz
        clear hz
        cases z with
        | false =>
          go_wp2
          go_round
          case rel =>
            refine ⟨k + 1, by omega, by go_num, fun i hi => ?_⟩
            by_cases ei : i = k
            · rw [ei]; exact HZ.out.symm
            · exact A.out i (by omega)
          case measure => simp [intOf]; omega
        | true =>
          obtain rfl : t = false := by cases t with | false => rfl | true => exact absurd ⟨k, hlt, HZ.out.symm⟩ (HT.out.1 rfl).2.1
          go_wp2
          go_ret
          exact ⟨rfl, A1.out.below⟩
      · obtain rfl : k = B.length := by omega
        have NB : Hid (¬ ∃ i, i < B.length ∧ B.getD i false = true) := fun ⟨i, hi, ei⟩ => by rw [A.out i hi] at ei; cases ei
        have EQ : Hid (t = true ↔ rcv P (crH H) B = some (ak, e)) := ⟨fun h => (HT.out.1 h).2.2.2, fun h => HT.out.2 ⟨⟨GK.out, H5.out⟩, NB.out, PH.out, h⟩⟩
        have E0 : Hid (∀ vs E, rcv P (crH H) B = some (vs, E) → 0 ≤ E) := fun vs E h => (rcv_ok h).2.1
        go_wp2_with fail
        refine (OW.out _ R1.out.rp R1.out.rh R1.out.rb).mono ?_
        rintro x w3 ⟨p2, h2, b2, rfl, dk, q⟩
        have A3 := hide (A1.out.add q (TDsk.st _ _ _ _ _ _) dk)
        clear q dk A1 x0 x1 x2 x3 x4 x5 x6
        obtain ⟨lo, hi, d2, lw, hw, put⟩ := A3.out.open 0 rfl
        have D2 : Hid (DskV _ lo hi _ _ _ P H B) := d2
        have PUT := hide put
        clear d2 put
        go_wp2_with fail
        refine (LC.out _ _ _ lo hi _ D2.out hw).mono ?_
        rintro x w4 ⟨rfl, d4, c4⟩
        have A4 := hide (PUT.out w4 (TDsk _ _ _ _ _ _) (TDsk.st _ _ _ _ _ _) d4 c4)
        clear d4 c4 A3 D2 PUT lw hw
        have W4 := hide (A4.out.wide 0 rfl)
        go_wp2_with fail
        refine (LR.out _ _ _ _ W4.out.rp W4.out.rh W4.out.rb).mono ?_
        rintro x w5 ⟨v5, rfl, o5, q⟩
        have A5 := hide (A4.out.step q)
        have R5 := hide (Own.rd o5)
        have D5 := hide (D.out.below A5.out.below)
        clear q o5 A4 W4
        obtain ⟨x0, x1, x2, x3, x4, x5, x6⟩ := (A5.out.atBox 1 rfl).c7
        clear LR
        generalize rcv P (crH H) B = oo at R5 EQ E0 ⊢
        cases oo with
        | none =>
          obtain rfl : t = false := by cases t with | false => rfl | true => have := EQ.out.1 rfl; simp at this
          simp only [rcI]
          clear R5
          by_cases he : (-1 : Int) = e
          · subst he
            go_wp2
            go_ret
            exact ⟨by first | rfl | simp, A5.out.below⟩
          · have heb : ((-1 : Int) == e) = false := by simpa using he
            go_wp2
            go_ret
            exact ⟨by first | rfl | simp, A5.out.below⟩
        | some r =>
          obtain ⟨vs, E⟩ := r
          simp only [rcI]
          have he0 : 0 ≤ E := E0.out vs E rfl
          change Hid (Rd w5 v5 vs) at R5
          by_cases hE : E = e
          · subst hE
            obtain rfl : t = decide (vs = ak) := by
              rw [Bool.eq_iff_iff, EQ.out]
              simp
            go_wp2_with fail
            refine (jSame_is _ _ vs ak _ R5.out D5.out.ra).mono ?_
            rintro x w6 ⟨rfl, q⟩
            have A6 := hide (A5.out.step q)
            clear q
            go_wp2
            go_ret
            exact ⟨by first | rfl | simp, A6.out.below⟩
          · have hEb : (E == e) = false := by simpa using hE
            obtain rfl : t = false := by cases t with | false => rfl | true => have := EQ.out.1 rfl; simp at this; exact absurd this.2 hE
            go_wp2
            go_ret
            exact ⟨by first | rfl | simp, A5.out.below⟩
end Go.Proofs.Ytpgmocogffolaaa

namespace Go.Proofs.Ytpgmocogffolaaa
open Go.RowKit
set_option linter.unusedVariables false

theorem rcV_len (g : Bool) (P H : List ByteArray) (B : List Bool) : (rcV (rcG g P H B)).length ≤ 6 := by
  cases g with
  | false => simp [rcG, rcV]
  | true =>
    show (rcV (rcv P H B)).length ≤ 6
    cases h : rcv P H B with
    | none => simp [rcV]
    | some x => exact Nat.le_of_eq (rcv_ok (vs := x.1) (e := x.2) h).1.2
set_option maxRecDepth 100000 in
set_option maxHeartbeats 1600000 in
theorem fnExactRecoverFrom_walk (p h b : Value) (P H : List ByteArray) (B : List Bool) (w : World) (hp : RdT w p P) (hh : RdT w h H) (hb : RdZ w b B) :
    Calls Try.prog 3 #[.agg #[p, h, b]] w fun e w' => e = .returned (.bool true) ∧ Below w.heap.size w w' := by
  have RP := hide hp
  have RH := hide hh
  have RB := hide hb
  obtain ⟨g, hg⟩ := bol_exJ (gkP P H B ∧ P.length = 5)
  have C1 := hide (fun V p h b h1 h2 h3 => sRecoverFrom_calls p h b P H B g V hg h1 h2 h3)
  have C2 := hide (fun V p h b h1 h2 h3 => recoverFrom_calls p h b P H B g V hg h1 h2 h3)
  have xl := rcV_len g P H B
  generalize rcV (rcG g P H B) = X at C1 C2 xl
  generalize rcE (rcG g P H B) = E at C1 C2
  generalize rcB (rcG g P H B) = ok at C1 C2
  have e1 : (E != E) = false := by simp
  have e2 : (ok != ok) = false := by simp
  clear hp hh hb hg
  have A0 := hide ((Hand.start w).box #[p, h, b] 25)
  go_enter Try.func3, Try.ntmps3
  go_wp2_with fail
  refine (szDisk_calls p h b P H B _ (RP.out.below A0.out.below) (RH.out.below A0.out.below) (RB.out.below A0.out.below)).mono ?_
  rintro e w1 ⟨⟨r, rfl, hr⟩, q⟩
  have A1 := hide (A0.out.step q)
  clear A0 q
  by_cases r0 : r < 0
  · go_wp2
    go_ret
    exact ⟨rfl, A1.out.below⟩
  have SZ := hide (hr.resolve_left r0).2.2
  have r1 := (hr.resolve_left r0).2.1
  clear hr
  obtain ⟨caD0, caD1, caD2⟩ := (A1.out.atBox 0 rfl).c3
  go_wp2_with fail
  refine (toDisk_calls p h b P H B _ (RP.out.below A1.out.below) (RH.out.below A1.out.below) (RB.out.below A1.out.below) SZ.out).mono ?_
  rintro e w2 ⟨px, hx, bx, rfl, d, q⟩
  obtain ⟨apx, cpx, ahx, chx, abx, cbx, rfl, rfl, rfl⟩ := d.sl
  have ltx := q.size
  (try simp only [World.size_alloc] at ltx)
  have A2 := hide (A1.out.add q (TDsk.st _ _ _ _ _ _) d)
  clear A1 caD0 caD1 caD2 q d
  obtain ⟨lox, hix, dx⟩ := A2.out.get 0 rfl
  have Dx : Hid (DskV _ lox hix _ _ _ P H B) := dx
  clear dx
  go_wp2_with fail
  refine (C1.out _ _ _ _ Dx.out.rp Dx.out.rh Dx.out.rb).mono ?_
  rintro e w3 ⟨vy, rfl, o, q⟩
  obtain ⟨ay, cy, rfl⟩ := row_slice o
  have lty := q.size
  (try simp only [World.size_alloc] at lty)
  have A3 := hide (A2.out.add q (TInts.st _ _) ⟨o, row_top o⟩)
  clear A2 Dx lox hix q o
  obtain ⟨caD0, caD1, caD2⟩ := (A3.out.atBox 2 rfl).c3
  go_wp2_with fail
  refine (toDisk_calls p h b P H B _ (RP.out.below A3.out.below) (RH.out.below A3.out.below) (RB.out.below A3.out.below) SZ.out).mono ?_
  rintro e w4 ⟨pz, hz, bz, rfl, d, q⟩
  obtain ⟨apz, cpz, ahz, chz, abz, cbz, rfl, rfl, rfl⟩ := d.sl
  have ltz := q.size
  (try simp only [World.size_alloc] at ltz)
  have A4 := hide ((A3.out.add q (TDsk.st _ _ _ _ _ _) d).box #[.slice apz P.length cpz, .slice ahz H.length chz, .slice abz B.length cbz] 30)
  clear A3 caD0 caD1 caD2 q d
  obtain ⟨loz, hiz, dz⟩ := A4.out.get 1 rfl
  have Dz : Hid (DskV _ loz hiz _ _ _ P H B) := dz
  clear dz
  go_wp2_with fail
  refine (C2.out _ _ _ _ Dz.out.rp Dz.out.rh Dz.out.rb).mono ?_
  rintro e w5 ⟨vu, rfl, o, q⟩
  obtain ⟨au, cu, rfl⟩ := row_slice o
  have ltu := q.size
  (try simp only [World.size_alloc] at ltu)
  have A5 := hide (A4.out.add q (TInts.st _ _) ⟨o, row_top o⟩)
  clear A4 Dz loz hiz q o
  obtain ⟨lou, hiu, du⟩ := A5.out.get 0 rfl
  have Du : Hid (Own _ lou _ X) := du.1
  clear du
  obtain ⟨loy, hiy, dy⟩ := A5.out.get 3 rfl
  have Dy : Hid (Own _ loy _ X) := dy.1
  clear dy
  go_wp2_with fail
  refine (eqIntS_same _ _ X _ Du.out.rd Dy.out.rd).mono ?_
  rintro e w6 ⟨rfl, q⟩
  have A6 := hide (A5.out.step q)
  clear A5 Du lou hiu Dy loy hiy q
  go_wp2
  obtain ⟨lo, hi, dd⟩ := A6.out.get 2 rfl
  have D5 : Hid (DskV _ lo hi _ _ _ P H B) := dd
  clear dd
  have F : Hid (∀ w', Below w6.heap.size w6 w' → (w'.cell? ⟨w.heap.size, 0, none⟩ = some p ∧ w'.cell? ⟨w.heap.size, 1, none⟩ = some h ∧ w'.cell? ⟨w.heap.size, 2, none⟩ = some b) ∧ (w'.cell? ⟨w4.heap.size, 0, none⟩ = some (.slice apz P.length cpz) ∧ w'.cell? ⟨w4.heap.size, 1, none⟩ = some (.slice ahz H.length chz) ∧ w'.cell? ⟨w4.heap.size, 2, none⟩ = some (.slice abz B.length cbz))) :=
    fun w' hb => ⟨((A6.out.step hb).atBox 5 rfl).c3, ((A6.out.step hb).atBox 1 rfl).c3⟩
  go_region_held3 (fun w' => (w'.cell? ⟨w.heap.size, 0, none⟩ = some p ∧ w'.cell? ⟨w.heap.size, 1, none⟩ = some h ∧ w'.cell? ⟨w.heap.size, 2, none⟩ = some b) ∧ (w'.cell? ⟨w4.heap.size, 0, none⟩ = some (.slice apz P.length cpz) ∧ w'.cell? ⟨w4.heap.size, 1, none⟩ = some (.slice ahz H.length chz) ∧ w'.cell? ⟨w4.heap.size, 2, none⟩ = some (.slice abz B.length cbz))) (first | exact F.out _ (Below.refl _ _).drew | exact F.out _ B2.out | exact F.out _ B1.out)
    ((first | (go_at_call 20; refine (eqDisk_same _ _ _ _ _ _ P H B _ (D5.out.below B1.out).rp (D5.out.below B1.out).rh (D5.out.below B1.out).rb D6.out.rp D6.out.rh D6.out.rb).mono ?_; rintro e' wr7 ⟨rfl, b7⟩; have B2 := hide (B1.out.trans (b7.mono B1.out.size)); clear b7) | (go_at_call 17; refine (toDisk_calls p h b P H B _ (RP.out.below (A6.out.step (Below.refl _ _).drew).below) (RH.out.below (A6.out.step (Below.refl _ _).drew).below) (RB.out.below (A6.out.step (Below.refl _ _).drew).below) SZ.out).mono ?_; rintro e' wr6 ⟨p3, h3, b3, rfl, d6, b6⟩; have D6 := hide d6; have B1 := hide ((Below.refl w6.heap.size w6).drew.trans b6); clear b6 d6)))
  have A7 := hide (A6.out.step B2.out)
  clear A6 F B1 B2 D5 D6 lo hi
  obtain ⟨cx00, cx01, cx02⟩ := (A7.out.atBox 1 rfl).c3
  obtain ⟨loz, hiz, dz, lw, hw, put⟩ := A7.out.open 2 rfl
  have Dz : Hid (DskV _ loz hiz _ _ _ P H B) := dz
  have PUT := hide put
  clear dz put lw
  go_wp2_with fail
  refine (markDisk_calls _ _ _ P H B 1 loz hiz _ Dz.out hw (by omega) (by omega) SZ.out).mono ?_
  rintro e w8 ⟨rfl, d4, q⟩
  have A8 := hide (PUT.out _ (TDsk _ _ _ _ _ _) (TDsk.st _ _ _ _ _ _) d4 q)
  clear A7 cx00 cx01 cx02 Dz loz hiz PUT hw q d4
  have kk : ¬ ((1 + P.length + H.length + B.length : Nat) : Int) < 0 := by omega
  obtain ⟨lou, hiu, du⟩ := A8.out.get 0 rfl
  have Du : Hid (Own _ lou _ X) := du.1
  clear du
  obtain ⟨loy, hiy, dy⟩ := A8.out.get 3 rfl
  have Dy : Hid (Own _ loy _ X) := dy.1
  clear dy
  go_wp2_with fail
  refine (eqIntS_same _ _ X _ Du.out.rd Dy.out.rd).mono ?_
  rintro e w9 ⟨rfl, q⟩
  have A9 := hide (A8.out.step q)
  clear A8 Du lou hiu Dy loy hiy q
  obtain ⟨lou, hiu, du, lw, hw, put⟩ := A9.out.open 0 rfl
  have Du : Hid (Own _ lou _ X) := du.1
  have TDu := hide du.2
  have PUT := hide put
  clear du put lw
  go_wp2_with fail
  refine (markIntS_calls _ X 1 lou _ Du.out (by omega) (by omega) (by omega)).mono ?_
  rintro e w10 ⟨rfl, o4, g4⟩
  have A10 := hide (PUT.out _ (TInts _ _) (TInts.st _ _) ⟨o4, TDu.out⟩ (Chg.ofGrown g4 (fun j hj => ⟨row_low Du.out j hj, TDu.out j hj⟩)))
  clear A9 TDu Du lou hiu PUT hw o4 g4
  obtain ⟨lou, hiu, du⟩ := A10.out.get 0 rfl
  have Du : Hid (Own _ lou _ (marks 1 X.length)) := du.1
  clear du
  go_wp2_with fail
  refine (heldIntS_calls _ X.length 1 _ Du.out.rd (by omega) (by omega) (by omega)).mono ?_
  rintro e w11 ⟨rfl, rfl⟩
  clear Du lou hiu
  obtain ⟨caD0, caD1, caD2⟩ := (A10.out.atBox 5 rfl).c3
  go_wp2_with fail
  refine (toDisk_calls p h b P H B _ (RP.out.below A10.out.below) (RH.out.below A10.out.below) (RB.out.below A10.out.below) SZ.out).mono ?_
  rintro e w12 ⟨pq1, hq1, bq1, rfl, d, q⟩
  obtain ⟨apq1, cpq1, ahq1, chq1, abq1, cbq1, rfl, rfl, rfl⟩ := d.sl
  have ltq1 := q.size
  (try simp only [World.size_alloc] at ltq1)
  have A12 := hide (A10.out.add q (TDsk.st _ _ _ _ _ _) d)
  clear A10 caD0 caD1 caD2 q d
  obtain ⟨loq1, hiq1, dq1⟩ := A12.out.get 0 rfl
  have Dq1 : Hid (DskV _ loq1 hiq1 _ _ _ P H B) := dq1
  clear dq1
  go_wp2_with fail
  refine (C2.out _ _ _ _ Dq1.out.rp Dq1.out.rh Dq1.out.rb).mono ?_
  rintro e w13 ⟨vv, rfl, o, q⟩
  obtain ⟨av, cv, rfl⟩ := row_slice o
  have ltv := q.size
  (try simp only [World.size_alloc] at ltv)
  have A13 := hide (A12.out.add q (TInts.st _ _) ⟨o, row_top o⟩)
  clear A12 Dq1 loq1 hiq1 q o
  obtain ⟨lov, hiv, dv⟩ := A13.out.get 0 rfl
  have Dv : Hid (Own _ lov _ X) := dv.1
  clear dv
  obtain ⟨loy, hiy, dy⟩ := A13.out.get 5 rfl
  have Dy : Hid (Own _ loy _ X) := dy.1
  clear dy
  go_wp2_with fail
  refine (eqIntS_same _ _ X _ Dv.out.rd Dy.out.rd).mono ?_
  rintro e w14 ⟨rfl, q⟩
  have A14 := hide (A13.out.step q)
  clear A13 Dv lov hiv Dy loy hiy q
  obtain ⟨lou, hiu, du⟩ := A14.out.get 2 rfl
  have Du : Hid (Own _ lou _ (marks 1 X.length)) := du.1
  clear du
  go_wp2_with fail
  refine (heldIntS_calls _ X.length 1 _ Du.out.rd (by omega) (by omega) (by omega)).mono ?_
  rintro e w15 ⟨rfl, rfl⟩
  clear Du lou hiu
  go_wp2
  go_ret
  exact ⟨rfl, A14.out.below⟩
end Go.Proofs.Ytpgmocogffolaaa

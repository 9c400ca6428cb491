/-
  A good journal: the program's fitsPhase and GoodJournal, call by call. Each contract says what it asks. A good journal: the model's GoodJournal, call by call. Each contract says what it asks. A step handed over, measured, held against another and marked: call by call. Each contract says what it asks. A journal handed over and measured: call by call. Each contract says what it asks.
-/
import Derived.Test.YtpgmocogffolaaaGoodJournalB27
import Derived.Test.YtpgmocogffolaaaGoodJournalB25
import Derived.Test.YtpgmocogffolaaaGoodJournalB21
namespace Go.Proofs.Ytpgmocogffolaaa
open Go.RowKit
set_option linter.unusedVariables false
set_option linter.unusedSimpArgs false

/-- What is on its way fits the Phase. -/
def phP (ph : Int) (cm : List Int) : Prop := (0 ≤ ph ∧ ph ≤ 3) ∧ (ph = 0 → cm = []) ∧ (ph ≠ 0 → jsP cm)
/-- A journal is good. -/
def jgP (P H : List ByteArray) (B : List Bool) (e ph : Int) (ak cm : List Int) : Prop :=
  (gkP P H B ∧ P.length = 5) ∧ (¬ ∃ i, i < B.length ∧ B.getD i false = true) ∧ phP ph cm ∧ rcv P (crH H) B = some (ak, e)
theorem kp_nil (H : List ByteArray) : kpOk H [] := ⟨fun i hi => by simp at hi, fun i hi => by simp at hi⟩
theorem gk_cr {P H : List ByteArray} {B : List Bool} (g : gkP P H B) : gkP P (crH H) B := by
  obtain ⟨h1, h2, h3, h4, h5, h6⟩ := g
  have e : ∀ i, (crH H).getD i ⟨#[]⟩ = (⟨#[]⟩ : ByteArray) := by
    intro i
    simp only [crH, List.getD_eq_getElem?_getD, List.getElem?_replicate]
    split <;> rfl
  refine ⟨h1, by simp [crH, h2], h3, h4, fun i hi => ?_, fun i hi _ => e i⟩
  rw [e]
  exact Nat.zero_le _
theorem jg_js {P H : List ByteArray} {B : List Bool} {e ph : Int} {ak cm : List Int} (h : jgP P H B e ph ak cm) : jsP ak ∧ 0 ≤ e ∧ e ≤ 60000 := rcv_ok h.2.2.2

set_option maxRecDepth 100000 in
set_option maxHeartbeats 1600000 in
theorem fitsPhase_calls (p h b a c : Value) (e ph : Int) (cm : List Int) (t : Bool) (w : World) (hc : Rd w c cm) (ht : t = true ↔ phP ph cm) :
    Calls Try.prog 79 #[.agg (jrC p h b e ph a c)] w fun x w' => x = .returned (.bool t) ∧ Below w.heap.size w w' := by
  have R := hide hc
  obtain ⟨ac, cc, rfl, mh, hcm, _⟩ := hc
  have hm := hcm.1
  unfold maxLen at hm
  clear hcm
  have A0 := hide ((Hand.start w).box (jrC p h b e ph a (.slice ac cm.length cc)) 42)
  have R0 := hide (R.out.below A0.out.below)
  have HT := hide ht
  clear ht
  obtain ⟨x0, x1, x2, x3, x4, x5, x6⟩ := (A0.out.atBox 0 rfl).c7
  by_cases h0 : ph = 0
  · subst h0
    by_cases hn : cm.length = 0
    · have hn' : (cm.length : Int) = 0 := by omega
      have hnb : ((cm.length : Int) == 0) = true := beq_iff_eq.2 hn'
      obtain rfl : t = true := HT.out.2 ⟨by omega, fun _ => List.length_eq_zero_iff.1 hn, fun h => absurd rfl h⟩
      clear hn
      go_enter Try.func79, Try.ntmps79
      go_wp2
      go_ret
      exact ⟨by first | rfl | simp [hnb], A0.out.below⟩
    · have hn' : ¬ (cm.length : Int) = 0 := by omega
      have hnb : ((cm.length : Int) == 0) = false := beq_eq_false_iff_ne.2 hn'
      obtain rfl : t = false := by
        cases t with
        | false => rfl
        | true => exact absurd (by rw [(HT.out.1 rfl).2.1 rfl]; rfl) hn
      clear hn
      go_enter Try.func79, Try.ntmps79
      go_wp2
      go_ret
      exact ⟨by first | rfl | simp [hnb], A0.out.below⟩
  · have h0b : (ph == 0) = false := by simpa using h0
    by_cases h1 : 1 ≤ ph
    · by_cases h3 : ph ≤ 3
      · have IS := hide (fun W r => isState_calls (.slice ac cm.length cc) cm t W r (HT.out.trans ⟨fun h => h.2.2 h0, fun h => ⟨⟨by omega, h3⟩, fun h' => absurd h' h0, fun _ => h⟩⟩))
        go_enter Try.func79, Try.ntmps79
        go_wp2_with (go_at_call 119; refine (IS.out _ R0.out).mono ?_; rintro e w' ⟨rfl, rfl⟩)
        go_ret
        exact ⟨by first | rfl | simp, A0.out.below⟩
      · obtain rfl : t = false := by
          cases t with
          | false => rfl
          | true => exact absurd (HT.out.1 rfl).1.2 h3
        go_enter Try.func79, Try.ntmps79
        go_wp2
        go_ret
        exact ⟨by first | rfl | simp, A0.out.below⟩
    · obtain rfl : t = false := by
        cases t with
        | false => rfl
        | true => have := (HT.out.1 rfl).1.1; omega
      go_enter Try.func79, Try.ntmps79
      go_wp2
      go_ret
      exact ⟨by first | rfl | simp, A0.out.below⟩

set_option maxRecDepth 100000 in
set_option maxHeartbeats 3200000 in
theorem goodJournal_calls (p h b a c : Value) (e ph : Int) (P H : List ByteArray) (B : List Bool) (ak cm : List Int) (t : Bool) (w : World) (d : RdJ w p h b a c P H B ak cm) (hm : B.length ≤ 1048576) (ht : t = true ↔ jgP P H B e ph ak cm) :
    Calls Try.prog 27 #[.agg (jrC p h b e ph a c)] w fun x w' => x = .returned (.bool t) ∧ Below w.heap.size w w' := by
  have A0 := hide ((Hand.start w).box (jrC p h b e ph a c) 42)
  have D0 := hide (d.below A0.out.below)
  have HT := hide ht
  have HM := hide hm
  obtain ⟨t1, h1⟩ := bol_exJ (phP ph cm)
  have FP := hide (fun W (r : Rd W c cm) => fitsPhase_calls p h b a c e ph cm t1 W r h1)
  clear ht hm d
  obtain ⟨x0, x1, x2, x3, x4, x5, x6⟩ := (A0.out.atBox 0 rfl).c7
  cases t1 with
  | false =>
    obtain rfl : t = false := by cases t with | false => rfl | true => exact absurd (h1.2 (HT.out.1 rfl).2.2.1) (by simp)
    clear h1
    go_enter Try.func27, Try.ntmps27
    go_wp2_with fail
    refine (FP.out _ D0.out.rc).mono ?_
    rintro x w1 ⟨rfl, q⟩
    have A1 := hide (A0.out.step q)
    clear q
    go_wp2
    go_ret
    exact ⟨rfl, A1.out.below⟩
  | true =>
  have PH := hide (h1.1 rfl)
  clear h1
  obtain ⟨t2, h2⟩ := bol_exJ (∃ i, i < B.length ∧ B.getD i false = true)
  have CZ := hide (fun W (r : RdZ W b B) => containsZ_calls b B t2 W r HM.out h2)
  cases t2 with
  | true =>
    obtain rfl : t = false := by cases t with | false => rfl | true => exact absurd (h2.1 rfl) (HT.out.1 rfl).2.1
    clear h2
    go_enter Try.func27, Try.ntmps27
    go_wp2_with fail
    refine (FP.out _ D0.out.rc).mono ?_
    rintro x w1 ⟨rfl, q⟩
    have A1 := hide (A0.out.step q)
    have D1 := hide (D0.out.below q)
    clear q A0 D0 x0 x1 x2 x3 x4 x5 x6
    obtain ⟨x0, x1, x2, x3, x4, x5, x6⟩ := (A1.out.atBox 0 rfl).c7
    go_wp2_with fail
    refine (CZ.out _ D1.out.rb).mono ?_
    rintro x w2 ⟨rfl, rfl⟩
    go_wp2
    go_ret
    exact ⟨rfl, A1.out.below⟩
  | false =>
  have NB : Hid (¬ ∃ i, i < B.length ∧ B.getD i false = true) := fun h => by have := h2.2 h; simp at this
  clear h2
  obtain ⟨g, hg⟩ := bol_exJ (gkP P H B)
  have AC := hide (fun W r1 r2 r3 => afterCrash_calls p h b (.slice none 0 0) P H B [] g W (hg.trans ⟨fun h => ⟨h, kp_nil H⟩, fun h => h.1⟩) r1 r2 r3 (rd_nilJ W) (by simp))
  cases g with
  | false =>
    obtain rfl : t = false := by cases t with | false => rfl | true => exact absurd (hg.2 (HT.out.1 rfl).1.1) (by simp)
    clear hg
    go_enter Try.func27, Try.ntmps27
    go_wp2_with fail
    refine (FP.out _ D0.out.rc).mono ?_
    rintro x w1 ⟨rfl, q⟩
    have A1 := hide (A0.out.step q)
    have D1 := hide (D0.out.below q)
    clear q A0 D0 x0 x1 x2 x3 x4 x5 x6
    obtain ⟨x0, x1, x2, x3, x4, x5, x6⟩ := (A1.out.atBox 0 rfl).c7
    go_wp2_with fail
    refine (CZ.out _ D1.out.rb).mono ?_
    rintro x w2 ⟨rfl, rfl⟩
    go_wp2_with fail
    refine (AC.out _ D1.out.rp D1.out.rh D1.out.rb).mono ?_
    rintro x w3 ⟨p3, h3, b3, rfl, dk, q⟩
    obtain ⟨a3, c3, a4, c4, a5, c5, rfl, rfl, rfl⟩ := dk.sl
    have A3 := hide ((A1.out.step q).box #[.slice a3 (acP false P H []).length c3, .slice a4 (acH false H).length c4, .slice a5 (acB false B).length c5] 30)
    clear q dk
    go_wp2
    go_ret
    exact ⟨rfl, A3.out.below⟩
  | true =>
  have GK := hide (hg.1 rfl)
  clear hg
  have eP : acP true P H [] = P := by simp only [acP, if_true]; exact crP_nil P H
  have eH : acH true H = crH H := by simp only [acH, if_true]
  have eB : acB true B = B := by simp only [acB, if_true]
  rw [eP, eH, eB] at AC
  clear eP eH eB
  obtain ⟨g5, hg5⟩ := bol_exJ (gkP P (crH H) B ∧ P.length = 5)
  have RF := hide (fun p3 h3 b3 W r1 r2 r3 => recoverFrom_calls p3 h3 b3 P (crH H) B g5 W hg5 r1 r2 r3)
  have EQ : Hid (t = true ↔ rcG g5 P (crH H) B = some (ak, e)) := by
    refine HT.out.trans ⟨fun h => ?_, fun h => ?_⟩
    · obtain rfl : g5 = true := hg5.2 ⟨gk_cr h.1.1, h.1.2⟩
      exact h.2.2.2
    · cases g5 with
      | false => simp [rcG] at h
      | true => exact ⟨⟨GK.out, (hg5.1 rfl).2⟩, NB.out, PH.out, h⟩
  clear hg5
  generalize rcG g5 P (crH H) B = oo at RF EQ
  cases oo with
  | none =>
    obtain rfl : t = false := by cases t with | false => rfl | true => have := EQ.out.1 rfl; simp at this
    change Hid (∀ (p3 h3 b3 : Value) (W : World), _ → _ → _ → Calls _ _ _ _ fun x w' => ∃ v', x = .returned (.tuple #[v', .int .i64 0, .bool false]) ∧ Own w' W.heap.size v' [] ∧ _) at RF
    go_enter Try.func27, Try.ntmps27
    go_wp2_with fail
    refine (FP.out _ D0.out.rc).mono ?_
    rintro x w1 ⟨rfl, q⟩
    have A1 := hide (A0.out.step q)
    have D1 := hide (D0.out.below q)
    clear q A0 D0 x0 x1 x2 x3 x4 x5 x6
    obtain ⟨x0, x1, x2, x3, x4, x5, x6⟩ := (A1.out.atBox 0 rfl).c7
    go_wp2_with fail
    refine (CZ.out _ D1.out.rb).mono ?_
    rintro x w2 ⟨rfl, rfl⟩
    go_wp2_with fail
    refine (AC.out _ D1.out.rp D1.out.rh D1.out.rb).mono ?_
    rintro x w3 ⟨p3, h3, b3, rfl, dk, q⟩
    obtain ⟨a3, c3, a4, c4, a5, c5, rfl, rfl, rfl⟩ := dk.sl
    have bb := below_box w3 (.cells #[.slice a3 P.length c3, .slice a4 (crH H).length c4, .slice a5 B.length c5] 30)
    have DK := hide (dk.below bb)
    have A3 := hide ((A1.out.step q).box #[.slice a3 P.length c3, .slice a4 (crH H).length c4, .slice a5 B.length c5] 30)
    clear q dk bb A1 x0 x1 x2 x3 x4 x5 x6
    obtain ⟨y0, y1, y2⟩ := (A3.out.atBox 0 rfl).c3
    obtain ⟨x0, x1, x2, x3, x4, x5, x6⟩ := (A3.out.atBox 1 rfl).c7
    go_wp2_with fail
    refine (RF.out _ _ _ _ DK.out.rp DK.out.rh DK.out.rb).mono ?_
    rintro x w4 ⟨v4, rfl, o4, q⟩
    have A4 := hide (A3.out.step q)
    clear q o4 A3 y0 y1 y2 x0 x1 x2 x3 x4 x5 x6
    obtain ⟨x0, x1, x2, x3, x4, x5, x6⟩ := (A4.out.atBox 1 rfl).c7
    go_wp2
    go_ret
    exact ⟨by first | rfl | simp, A4.out.below⟩
  | some r =>
  obtain ⟨vs, E⟩ := r
  change Hid (∀ (p3 h3 b3 : Value) (W : World), _ → _ → _ → Calls _ _ _ _ fun x w' => ∃ v', x = .returned (.tuple #[v', .int .i64 E, .bool true]) ∧ Own w' W.heap.size v' vs ∧ _) at RF
  by_cases hE : E = e
  · subst hE
    obtain rfl : t = decide (vs = ak) := by
      rw [Bool.eq_iff_iff, EQ.out]
      simp
    go_enter Try.func27, Try.ntmps27
    go_wp2_with fail
    refine (FP.out _ D0.out.rc).mono ?_
    rintro x w1 ⟨rfl, q⟩
    have A1 := hide (A0.out.step q)
    have D1 := hide (D0.out.below q)
    clear q A0 D0 x0 x1 x2 x3 x4 x5 x6
    obtain ⟨x0, x1, x2, x3, x4, x5, x6⟩ := (A1.out.atBox 0 rfl).c7
    go_wp2_with fail
    refine (CZ.out _ D1.out.rb).mono ?_
    rintro x w2 ⟨rfl, rfl⟩
    go_wp2_with fail
    refine (AC.out _ D1.out.rp D1.out.rh D1.out.rb).mono ?_
    rintro x w3 ⟨p3, h3, b3, rfl, dk, q⟩
    obtain ⟨a3, c3, a4, c4, a5, c5, rfl, rfl, rfl⟩ := dk.sl
    have bb := below_box w3 (.cells #[.slice a3 P.length c3, .slice a4 (crH H).length c4, .slice a5 B.length c5] 30)
    have DK := hide (dk.below bb)
    have D3 := hide (D1.out.below (q.trans (bb.mono q.size)))
    have A3 := hide ((A1.out.step q).box #[.slice a3 P.length c3, .slice a4 (crH H).length c4, .slice a5 B.length c5] 30)
    clear q dk bb A1 D1 x0 x1 x2 x3 x4 x5 x6
    obtain ⟨y0, y1, y2⟩ := (A3.out.atBox 0 rfl).c3
    obtain ⟨x0, x1, x2, x3, x4, x5, x6⟩ := (A3.out.atBox 1 rfl).c7
    go_wp2_with fail
    refine (RF.out _ _ _ _ DK.out.rp DK.out.rh DK.out.rb).mono ?_
    rintro x w4 ⟨v4, rfl, o4, q⟩
    have A4 := hide (A3.out.step q)
    have D4 := hide (D3.out.below q)
    have R4 := hide (Own.rd o4)
    clear q o4 A3 D3 y0 y1 y2 x0 x1 x2 x3 x4 x5 x6
    obtain ⟨x0, x1, x2, x3, x4, x5, x6⟩ := (A4.out.atBox 1 rfl).c7
    go_wp2_with fail
    refine (jEq_is _ _ vs ak _ R4.out D4.out.ra).mono ?_
    rintro x w5 ⟨rfl, q⟩
    have A5 := hide (A4.out.step q)
    clear q
    go_wp2
    go_ret
    exact ⟨by first | rfl | simp, A5.out.below⟩
  · have hEb : (E == e) = false := by simpa using hE
    obtain rfl : t = false := by cases t with | false => rfl | true => have := EQ.out.1 rfl; simp at this; exact absurd this.2 hE
    go_enter Try.func27, Try.ntmps27
    go_wp2_with fail
    refine (FP.out _ D0.out.rc).mono ?_
    rintro x w1 ⟨rfl, q⟩
    have A1 := hide (A0.out.step q)
    have D1 := hide (D0.out.below q)
    clear q A0 D0 x0 x1 x2 x3 x4 x5 x6
    obtain ⟨x0, x1, x2, x3, x4, x5, x6⟩ := (A1.out.atBox 0 rfl).c7
    go_wp2_with fail
    refine (CZ.out _ D1.out.rb).mono ?_
    rintro x w2 ⟨rfl, rfl⟩
    go_wp2_with fail
    refine (AC.out _ D1.out.rp D1.out.rh D1.out.rb).mono ?_
    rintro x w3 ⟨p3, h3, b3, rfl, dk, q⟩
    obtain ⟨a3, c3, a4, c4, a5, c5, rfl, rfl, rfl⟩ := dk.sl
    have bb := below_box w3 (.cells #[.slice a3 P.length c3, .slice a4 (crH H).length c4, .slice a5 B.length c5] 30)
    have DK := hide (dk.below bb)
    have A3 := hide ((A1.out.step q).box #[.slice a3 P.length c3, .slice a4 (crH H).length c4, .slice a5 B.length c5] 30)
    clear q dk bb A1 x0 x1 x2 x3 x4 x5 x6
    obtain ⟨y0, y1, y2⟩ := (A3.out.atBox 0 rfl).c3
    obtain ⟨x0, x1, x2, x3, x4, x5, x6⟩ := (A3.out.atBox 1 rfl).c7
    go_wp2_with fail
    refine (RF.out _ _ _ _ DK.out.rp DK.out.rh DK.out.rb).mono ?_
    rintro x w4 ⟨v4, rfl, o4, q⟩
    have A4 := hide (A3.out.step q)
    clear q o4 A3 y0 y1 y2 x0 x1 x2 x3 x4 x5 x6
    obtain ⟨x0, x1, x2, x3, x4, x5, x6⟩ := (A4.out.atBox 1 rfl).c7
    go_wp2
    go_ret
    exact ⟨by first | rfl | simp, A4.out.below⟩
end Go.Proofs.Ytpgmocogffolaaa

namespace Go.Proofs.Ytpgmocogffolaaa
open Go.RowKit
set_option linter.unusedVariables false
set_option linter.unusedSimpArgs false

set_option maxRecDepth 100000 in
set_option maxHeartbeats 6400000 in
theorem sGoodJournal_calls (p h b a c : Value) (e ph : Int) (P H : List ByteArray) (B : List Bool) (ak cm : List Int) (t : Bool) (w : World) (d : RdJ w p h b a c P H B ak cm) (hm : B.length ≤ 1048576) (ht : t = true ↔ jgP P H B e ph ak cm) :
    Calls Try.prog 25 #[.agg (jrC p h b e ph a c)] w fun x w' => x = .returned (.bool t) ∧ Below w.heap.size w w' := by
  have hra := d.ra
  have hrc := d.rc
  obtain ⟨ap, cp, rfl, mp, _⟩ := d.rp.sl
  obtain ⟨ah, ch, rfl, _, _⟩ := d.rh.sl
  obtain ⟨ab, cb, rfl, mb, _⟩ := d.rb.sl
  obtain ⟨aa, ca, rfl, _, _, _⟩ := hra
  obtain ⟨ac, cc, rfl, _, hcm, _⟩ := hrc
  have hmc := hcm.1
  unfold maxLen at hmc
  clear hcm
  have A0 := hide ((Hand.start w).box (jrC (.slice ap P.length cp) (.slice ah H.length ch) (.slice ab B.length cb) e ph (.slice aa ak.length ca) (.slice ac cm.length cc)) 42)
  have D := hide d
  have D0 := hide (d.below A0.out.below)
  have HT := hide ht
  obtain ⟨y, hy⟩ := gk_bool' P H B
  have HY := hide hy
  have GD := hide (fun W q1 q2 q3 => sGoodDisk_calls (.slice ap P.length cp) (.slice ah H.length ch) (.slice ab B.length cb) P H B y W hy q1 q2 q3)
  obtain ⟨s1, hs1⟩ := bol_exJ (jsP ak)
  have HS1 := hide hs1
  have S1 := hide (fun W r => l15State_calls (.slice aa ak.length ca) ak s1 W r hs1)
  obtain ⟨i1, hi1⟩ := bol_exJ (0 ≤ ph ∧ ph ≤ 3)
  have HI1 := hide hi1
  have I1 := hide (fun W => jIn_calls ph 0 3 i1 W hi1)
  obtain ⟨s2, hs2⟩ := bol_exJ (jsP cm)
  have HS2 := hide hs2
  have S2 := hide (fun W r => l15State_calls (.slice ac cm.length cc) cm s2 W r hs2)
  clear d ht hy hs1 hi1 hs2
  obtain ⟨x0, x1, x2, x3, x4, x5, x6⟩ := (A0.out.atBox 0 rfl).c7
  go_enter Try.func25, Try.ntmps25
  go_wp2_with fail
  refine (GD.out _ D0.out.rp D0.out.rh D0.out.rb).mono ?_
  rintro x w1 ⟨rfl, q⟩
  have A1 := hide (A0.out.step q)
  have R1 := hide (D0.out.below q)
  clear q A0 D0 GD x0 x1 x2 x3 x4 x5 x6
  obtain ⟨x0, x1, x2, x3, x4, x5, x6⟩ := (A1.out.atBox 0 rfl).c7
  cases y with
  | false =>
    obtain rfl : t = false := by cases t with | false => rfl | true => exact absurd (HY.out.2 (HT.out.1 rfl).1.1) (by simp)
    go_wp2
    go_ret
    exact ⟨by first | rfl | simp, A1.out.below⟩
  | true =>
  have GK := hide (HY.out.1 rfl)
  by_cases h5 : P.length = 5
  case neg =>
    have h5' : ¬ (P.length : Int) = 5 := by omega
    have h5b : ((P.length : Int) != 5) = true := by simp; omega
    obtain rfl : t = false := by cases t with | false => rfl | true => exact absurd (HT.out.1 rfl).1.2 h5
    clear h5
    go_wp2
    go_ret
    exact ⟨by first | rfl | simp, A1.out.below⟩
  case pos =>
  have h5' : (P.length : Int) = 5 := by omega
  have h5b : ((P.length : Int) != 5) = false := by simp; omega
  have H5 := hide h5
  have eH : H.length = 5 := GK.out.2.1.trans h5
  have eB : B.length = 5 := GK.out.2.2.1.trans h5
  have OW := hide (fun W q1 q2 q3 => l7Own_calls (.slice ap P.length cp) (.slice ah H.length ch) (.slice ab B.length cb) P H B W q1 q2 q3 (by omega) (by omega) (by omega))
  have LC := hide (fun p2 h2 b2 lo hi W (d2 : DskV W lo hi p2 h2 b2 P H B) (hh : hi ≤ W.heap.size) => l7Crash_calls p2 h2 b2 (.slice none 0 0) P H B [] lo hi 5 W d2 hh h5 eH eB (by omega) (fun w' _ => rd_nilJ w'))
  have ecr := crP_nil P H
  rw [ecr] at LC
  have LR := hide (fun p2 h2 b2 W q1 q2 q3 => l15Recover_calls p2 h2 b2 P (crH H) B W (gk_cr GK.out) h5 q1 q2 q3)
  clear h5 ecr eH eB
  go_wp2_with fail
  refine (S1.out _ R1.out.ra).mono ?_
  rintro x w2 ⟨rfl, rfl⟩
  cases s1 with
  | false =>
    obtain rfl : t = false := by cases t with | false => rfl | true => exact absurd (HS1.out.2 (jg_js (HT.out.1 rfl)).1) (by simp)
    go_wp2
    go_ret
    exact ⟨by first | rfl | simp, A1.out.below⟩
  | true =>
  go_wp2_with fail
  refine (I1.out _).mono ?_
  rintro x w2 ⟨rfl, rfl⟩
  cases i1 with
  | false =>
    obtain rfl : t = false := by cases t with | false => rfl | true => exact absurd (HI1.out.2 (HT.out.1 rfl).2.2.1.1) (by simp)
    go_wp2
    go_ret
    exact ⟨by first | rfl | simp, A1.out.below⟩
  | true =>
  have IN := hide (HI1.out.1 rfl)
  by_cases h0 : ph = 0
  · subst h0
    by_cases hn : cm.length = 0
    case neg =>
      have hn' : (0 : Int) < (cm.length : Int) := by omega
      have hn2 : 0 < cm.length := by omega
      obtain rfl : t = false := by
        cases t with
        | false => rfl
        | true => exact absurd (by rw [(HT.out.1 rfl).2.2.1.2.1 rfl]; rfl) hn
      clear hn
      go_wp2
      go_ret
      exact ⟨by first | rfl | simp, A1.out.below⟩
    case pos =>
    have hn' : ¬ (0 : Int) < (cm.length : Int) := by omega
    have hn2 : ¬ 0 < cm.length := by omega
    have PH : Hid (phP 0 cm) := ⟨by omega, fun _ => List.length_eq_zero_iff.1 hn, fun h => absurd rfl h⟩
    clear hn
    go_wp2
    go_loop [56] (fun vi => ∃ k : Nat, k ≤ B.length ∧ vi = .int .i64 k ∧ ∀ i, i < k → B.getD i false = false) (fun vi => B.length - (intOf vi).toNat)
    case atStart => exact ⟨0, Nat.zero_le _, rfl, fun i hi => by omega⟩
    case round =>
      obtain ⟨k, hk, rfl, hall⟩ := hrel
      have A := hide hall
      clear hall
      by_cases hlt : k < B.length
      · have hlt' : (k : Int) < (B.length : Int) := by omega
        obtain ⟨gb, ob, rfl, hb1, _⟩ := R1.out.rb.cell k hlt
        obtain ⟨z, hz⟩ : ∃ z, z = B.getD k false := ⟨_, rfl⟩
        rw [← hz] at hb1
        have HZ := hide hz
        clear hz
        cases z with
        | false =>
          go_wp2
          go_round
          case rel =>
            refine ⟨k + 1, by omega, by go_num, fun i hi => ?_⟩
            by_cases ei : i = k
            · rw [ei]; exact HZ.out.symm
            · exact A.out i (by omega)
          case measure => simp [intOf]; omega
        | true =>
          obtain rfl : t = false := by cases t with | false => rfl | true => exact absurd ⟨k, hlt, HZ.out.symm⟩ (HT.out.1 rfl).2.1
          go_wp2
          go_ret
          exact ⟨rfl, A1.out.below⟩
      · obtain rfl : k = B.length := by omega
        have NB : Hid (¬ ∃ i, i < B.length ∧ B.getD i false = true) := fun ⟨i, hi, ei⟩ => by rw [A.out i hi] at ei; cases ei
        have EQ : Hid (t = true ↔ rcv P (crH H) B = some (ak, e)) := ⟨fun h => (HT.out.1 h).2.2.2, fun h => HT.out.2 ⟨⟨GK.out, H5.out⟩, NB.out, PH.out, h⟩⟩
        have E0 : Hid (∀ vs E, rcv P (crH H) B = some (vs, E) → 0 ≤ E) := fun vs E h => (rcv_ok h).2.1
        go_wp2_with fail
        refine (OW.out _ R1.out.rp R1.out.rh R1.out.rb).mono ?_
        rintro x w3 ⟨p2, h2, b2, rfl, dk, q⟩
        have A3 := hide (A1.out.add q (TDsk.st _ _ _ _ _ _) dk)
        clear q dk A1 x0 x1 x2 x3 x4 x5 x6
        obtain ⟨lo, hi, d2, lw, hw, put⟩ := A3.out.open 0 rfl
        have D2 : Hid (DskV _ lo hi _ _ _ P H B) := d2
        have PUT := hide put
        clear d2 put
        go_wp2_with fail
        refine (LC.out _ _ _ lo hi _ D2.out hw).mono ?_
        rintro x w4 ⟨rfl, d4, c4⟩
        have A4 := hide (PUT.out w4 (TDsk _ _ _ _ _ _) (TDsk.st _ _ _ _ _ _) d4 c4)
        clear d4 c4 A3 D2 PUT lw hw
        have W4 := hide (A4.out.wide 0 rfl)
        go_wp2_with fail
        refine (LR.out _ _ _ _ W4.out.rp W4.out.rh W4.out.rb).mono ?_
        rintro x w5 ⟨v5, rfl, o5, q⟩
        have A5 := hide (A4.out.step q)
        have R5 := hide (Own.rd o5)
        have D5 := hide (D.out.below A5.out.below)
        clear q o5 A4 W4
        obtain ⟨x0, x1, x2, x3, x4, x5, x6⟩ := (A5.out.atBox 1 rfl).c7
        clear LR
        generalize rcv P (crH H) B = oo at R5 EQ E0 ⊢
        cases oo with
        | none =>
          obtain rfl : t = false := by cases t with | false => rfl | true => have := EQ.out.1 rfl; simp at this
          simp only [rcI]
          clear R5
          by_cases he : (-1 : Int) = e
          · subst he
            go_wp2
            go_ret
            exact ⟨by first | rfl | simp, A5.out.below⟩
          · have heb : ((-1 : Int) == e) = false := by simpa using he
            go_wp2
            go_ret
            exact ⟨by first | rfl | simp, A5.out.below⟩
        | some r =>
          obtain ⟨vs, E⟩ := r
          simp only [rcI]
          have he0 : 0 ≤ E := E0.out vs E rfl
          change Hid (Rd w5 v5 vs) at R5
          by_cases hE : E = e
          · subst hE
            obtain rfl : t = decide (vs = ak) := by
              rw [Bool.eq_iff_iff, EQ.out]
              simp
            go_wp2_with fail
            refine (jSame_is _ _ vs ak _ R5.out D5.out.ra).mono ?_
            rintro x w6 ⟨rfl, q⟩
            have A6 := hide (A5.out.step q)
            clear q
            go_wp2
            go_ret
            exact ⟨by first | rfl | simp, A6.out.below⟩
          · have hEb : (E == e) = false := by simpa using hE
            obtain rfl : t = false := by cases t with | false => rfl | true => have := EQ.out.1 rfl; simp at this; exact absurd this.2 hE
            go_wp2
            go_ret
            exact ⟨by first | rfl | simp, A5.out.below⟩
  · have h0b : (ph == 0) = false := by simpa using h0
    have hp : 0 < ph := by have := IN.out; omega
    go_wp2_with fail
    refine (S2.out _ R1.out.rc).mono ?_
    rintro x w2 ⟨rfl, rfl⟩
    cases s2 with
    | false =>
      obtain rfl : t = false := by cases t with | false => rfl | true => exact absurd (HS2.out.2 ((HT.out.1 rfl).2.2.1.2.2 h0)) (by simp)
      go_wp2
      go_ret
      exact ⟨by first | rfl | simp, A1.out.below⟩
    | true =>
    have PH : Hid (phP ph cm) := ⟨IN.out, fun h => absurd h h0, fun _ => HS2.out.1 rfl⟩
    go_wp2
    go_loop [56] (fun vi => ∃ k : Nat, k ≤ B.length ∧ vi = .int .i64 k ∧ ∀ i, i < k → B.getD i false = false) (fun vi => B.length - (intOf vi).toNat)
    case atStart => exact ⟨0, Nat.zero_le _, rfl, fun i hi => by omega⟩
    case round =>
      obtain ⟨k, hk, rfl, hall⟩ := hrel
      have A := hide hall
      clear hall
      by_cases hlt : k < B.length
      · have hlt' : (k : Int) < (B.length : Int) := by omega
        obtain ⟨gb, ob, rfl, hb1, _⟩ := R1.out.rb.cell k hlt
        obtain ⟨z, hz⟩ : ∃ z, z = B.getD k false := ⟨_, rfl⟩
        rw [← hz] at hb1
        have HZ := hide hz
        clear hz
        cases z with
        | false =>
          go_wp2
          go_round
          case rel =>
            refine ⟨k + 1, by omega, by go_num, fun i hi => ?_⟩
            by_cases ei : i = k
            · rw [ei]; exact HZ.out.symm
            · exact A.out i (by omega)
          case measure => simp [intOf]; omega
        | true =>
          obtain rfl : t = false := by cases t with | false => rfl | true => exact absurd ⟨k, hlt, HZ.out.symm⟩ (HT.out.1 rfl).2.1
          go_wp2
          go_ret
          exact ⟨rfl, A1.out.below⟩
      · obtain rfl : k = B.length := by omega
        have NB : Hid (¬ ∃ i, i < B.length ∧ B.getD i false = true) := fun ⟨i, hi, ei⟩ => by rw [A.out i hi] at ei; cases ei
        have EQ : Hid (t = true ↔ rcv P (crH H) B = some (ak, e)) := ⟨fun h => (HT.out.1 h).2.2.2, fun h => HT.out.2 ⟨⟨GK.out, H5.out⟩, NB.out, PH.out, h⟩⟩
        have E0 : Hid (∀ vs E, rcv P (crH H) B = some (vs, E) → 0 ≤ E) := fun vs E h => (rcv_ok h).2.1
        go_wp2_with fail
        refine (OW.out _ R1.out.rp R1.out.rh R1.out.rb).mono ?_
        rintro x w3 ⟨p2, h2, b2, rfl, dk, q⟩
        have A3 := hide (A1.out.add q (TDsk.st _ _ _ _ _ _) dk)
        clear q dk A1 x0 x1 x2 x3 x4 x5 x6
        obtain ⟨lo, hi, d2, lw, hw, put⟩ := A3.out.open 0 rfl
        have D2 : Hid (DskV _ lo hi _ _ _ P H B) := d2
        have PUT := hide put
        clear d2 put
        go_wp2_with fail
        refine (LC.out _ _ _ lo hi _ D2.out hw).mono ?_
        rintro x w4 ⟨rfl, d4, c4⟩
        have A4 := hide (PUT.out w4 (TDsk _ _ _ _ _ _) (TDsk.st _ _ _ _ _ _) d4 c4)
        clear d4 c4 A3 D2 PUT lw hw
        have W4 := hide (A4.out.wide 0 rfl)
        go_wp2_with fail
        refine (LR.out _ _ _ _ W4.out.rp W4.out.rh W4.out.rb).mono ?_
        rintro x w5 ⟨v5, rfl, o5, q⟩
        have A5 := hide (A4.out.step q)
        have R5 := hide (Own.rd o5)
        have D5 := hide (D.out.below A5.out.below)
        clear q o5 A4 W4
        obtain ⟨x0, x1, x2, x3, x4, x5, x6⟩ := (A5.out.atBox 1 rfl).c7
        clear LR
        generalize rcv P (crH H) B = oo at R5 EQ E0 ⊢
        cases oo with
        | none =>
          obtain rfl : t = false := by cases t with | false => rfl | true => have := EQ.out.1 rfl; simp at this
          simp only [rcI]
          clear R5
          by_cases he : (-1 : Int) = e
          · subst he
            go_wp2
            go_ret
            exact ⟨by first | rfl | simp, A5.out.below⟩
          · have heb : ((-1 : Int) == e) = false := by simpa using he
            go_wp2
            go_ret
            exact ⟨by first | rfl | simp, A5.out.below⟩
        | some r =>
          obtain ⟨vs, E⟩ := r
          simp only [rcI]
          have he0 : 0 ≤ E := E0.out vs E rfl
          change Hid (Rd w5 v5 vs) at R5
          by_cases hE : E = e
          · subst hE
            obtain rfl : t = decide (vs = ak) := by
              rw [Bool.eq_iff_iff, EQ.out]
              simp
            go_wp2_with fail
            refine (jSame_is _ _ vs ak _ R5.out D5.out.ra).mono ?_
            rintro x w6 ⟨rfl, q⟩
            have A6 := hide (A5.out.step q)
            clear q
            go_wp2
            go_ret
            exact ⟨by first | rfl | simp, A6.out.below⟩
          · have hEb : (E == e) = false := by simpa using hE
            obtain rfl : t = false := by cases t with | false => rfl | true => have := EQ.out.1 rfl; simp at this; exact absurd this.2 hE
            go_wp2
            go_ret
            exact ⟨by first | rfl | simp, A5.out.below⟩
end Go.Proofs.Ytpgmocogffolaaa

namespace Go.Proofs.Ytpgmocogffolaaa
open Go.RowKit
set_option linter.unusedVariables false

theorem stpInfo : (Try.prog.info? 118).map (·.size) = some 4 := by kernel_rfl
theorem res_stp {fn : Func} {x : Tmp} (hf : fn.results = #[.cell x 118]) (tmps : Array Value) (w : World) (g : Nat) (a b c d : Value) (fr : Nat × Nat) (hp : tmps.getD x undef = .pointer (some ⟨g, 0, none⟩))
    (hg : w.heap[g]? = some (.cells #[a, b, c, d] 118 fr)) : (results fn tmps).run Try.prog w = .ok (.agg #[a, b, c, d]) w :=
  results_cell_row hf tmps w g _ _ fr _ hp hg Try.underlying118 rfl stpInfo

set_option maxRecDepth 100000 in
set_option maxHeartbeats 400000 in
theorem szIntS_any (v : Value) (xs : List Int) (l : Int) (w : World) (h : Rd w v xs) (h0 : 0 ≤ l) (hl : l ≤ 1048576) :
    Calls Try.prog 72 #[v, .int .i64 l] w fun e w' => (∃ r : Int, e = .returned (.int .i64 r) ∧ (r < 0 ∨ (0 ≤ r ∧ r ≤ 1048576 ∧ xs.length ≤ 1048576))) ∧ w = w' := by
  obtain ⟨a, cap, rfl, h1, h2, h3⟩ := h
  have hm : xs.length ≤ maxLen := by omega
  unfold maxLen at hm
  clear h3 h2 h1
  by_cases hc : (xs.length : Int) ≤ l
  · have e : ¬ (l - (xs.length : Int) < 0) := by omega
    go_enter Try.func72, Try.ntmps72
    go_wp2
    go_ret
    exact ⟨⟨_, rfl, .inr ⟨by omega, by omega, by omega⟩⟩, rfl⟩
  · have e : l - (xs.length : Int) < 0 := by omega
    go_enter Try.func72, Try.ntmps72
    go_wp2
    go_ret
    exact ⟨⟨_, rfl, .inl (by decide)⟩, rfl⟩

theorem Hand.store4 {W w : World} {L : List Tg} {g : Nat} {a b c d : Value} {T : TypeId} (A : Hand W w L) (i : Nat) (hi : L[i]? = some (TBox g #[a, b, c, d] T)) (v0 v1 v2 v3 : Value) :
    Hand W ((((w.setCell ⟨g, 0, none⟩ v0).setCell ⟨g, 1, none⟩ v1).setCell ⟨g, 2, none⟩ v2).setCell ⟨g, 3, none⟩ v3) (L.set i (TBox g #[v0, v1, v2, v3] T)) := by
  obtain ⟨lo, hi', ⟨b1, b2, b3⟩, _, _, put⟩ := A.open i hi
  exact put _ (TBox g #[v0, v1, v2, v3] T) (TBox.st _ _ _) ⟨b1, b2, b3.store4 v0 v1 v2 v3⟩ (Chg.store4 w g v0 v1 v2 v3 b1 b2)
theorem Hand.last4 {W w : World} {L : List Tg} {g : Nat} {a b c d : Value} {T : TypeId} (A : Hand W w L) (i : Nat) (hi : L[i]? = some (TBox g #[a, b, c, d] T)) (v : Value) :
    Hand W (w.setCell ⟨g, 3, none⟩ v) (L.set i (TBox g #[a, b, c, v] T)) := by
  obtain ⟨lo, hi', ⟨b1, b2, b3⟩, _, _, put⟩ := A.open i hi
  exact put _ (TBox g #[a, b, c, v] T) (TBox.st _ _ _) ⟨b1, b2, by simpa using b3.set 3 v⟩ (Chg.ofSetCell w g 3 v b1 b2)
theorem Hand.wideI {W w : World} {L : List Tg} {v : Value} {xs : List Int} (A : Hand W w L) (i : Nat) (hi : L[i]? = some (TInts v xs)) : Own w W.heap.size v xs := by
  obtain ⟨lo, hi', d, h1, h2, _⟩ := A.open i hi
  exact ownsRow_mono d.1 h1

end Go.Proofs.Ytpgmocogffolaaa

namespace Go.Proofs.Ytpgmocogffolaaa
open Go.RowKit
set_option linter.unusedVariables false
set_option linter.unusedSimpArgs false

theorem Hand.jrn {W w : World} {L : List Tg} {p h b a c : Value} {P H : List ByteArray} {B : List Bool} {ak cm : List Int} (A : Hand W w (TInts c cm :: TInts a ak :: TDsk p h b P H B :: L)) : JrnV w W.heap.size w.heap.size p h b a c P H B ak cm := by
  obtain ⟨lo1, hi1, ⟨_, o1, t1⟩, l1, l2, lo2, hi2, ⟨_, o2, t2⟩, l3, l4, lo3, hi3, ⟨_, d⟩, l5, l6, rest⟩ := A.held
  have hb := HeldG.base rest
  refine ⟨⟨lo3, hi3, ⟨hb, by omega⟩, d, fun k hk => .inr (by have := row_low o2 k hk; omega), fun k hk => .inr (by have := row_low o1 k hk; omega)⟩, ownsRow_mono o2 (by omega), ownsRow_mono o1 (by omega), fun k hk => by have := t2 k hk; omega, fun k hk => by have := t1 k hk; omega, ?_⟩
  cases e : a.ownBlock with
  | none => exact .inl rfl
  | some k =>
    refine .inr (fun e2 => ?_)
    have h1 := row_low o1 k e2.symm
    have h2 := t2 k e
    omega
theorem Hand.lay5 {W w : World} {L : List Tg} {g : Nat} {a b c d e f i : Value} {T : TypeId} (A : Hand W w L) (j : Nat) (hj : L[j]? = some (TBox g #[a, b, c, d, e, f, i] T)) (v0 v1 v2 v3 v4 : Value) :
    Hand W (((((w.setCell ⟨g, 0, none⟩ v0).setCell ⟨g, 1, none⟩ v1).setCell ⟨g, 2, none⟩ v2).setCell ⟨g, 3, none⟩ v3).setCell ⟨g, 4, none⟩ v4) (L.set j (TBox g #[v0, v1, v2, v3, v4, f, i] T)) := by
  obtain ⟨lo, hi', ⟨b1, b2, b3⟩, _, _, put⟩ := A.open j hj
  exact put _ (TBox g #[v0, v1, v2, v3, v4, f, i] T) (TBox.st _ _ _) ⟨b1, b2, by simpa using ((((b3.set 0 v0).set 1 v1).set 2 v2).set 3 v3).set 4 v4⟩ ((Chg.store4 w g v0 v1 v2 v3 b1 b2).trans (Chg.ofSetCell _ g 4 v4 b1 b2))
theorem Hand.lay6 {W w : World} {L : List Tg} {g : Nat} {a b c d e f i : Value} {T : TypeId} (A : Hand W w L) (j : Nat) (hj : L[j]? = some (TBox g #[a, b, c, d, e, f, i] T)) (v : Value) :
    Hand W (w.setCell ⟨g, 5, none⟩ v) (L.set j (TBox g #[a, b, c, d, e, v, i] T)) := by
  obtain ⟨lo, hi', ⟨b1, b2, b3⟩, _, _, put⟩ := A.open j hj
  exact put _ (TBox g #[a, b, c, d, e, v, i] T) (TBox.st _ _ _) ⟨b1, b2, by simpa using b3.set 5 v⟩ (Chg.ofSetCell w g 5 v b1 b2)
theorem Hand.lay7 {W w : World} {L : List Tg} {g : Nat} {a b c d e f i : Value} {T : TypeId} (A : Hand W w L) (j : Nat) (hj : L[j]? = some (TBox g #[a, b, c, d, e, f, i] T)) (v : Value) :
    Hand W (w.setCell ⟨g, 6, none⟩ v) (L.set j (TBox g #[a, b, c, d, e, f, v] T)) := by
  obtain ⟨lo, hi', ⟨b1, b2, b3⟩, _, _, put⟩ := A.open j hj
  exact put _ (TBox g #[a, b, c, d, e, f, v] T) (TBox.st _ _ _) ⟨b1, b2, by simpa using b3.set 6 v⟩ (Chg.ofSetCell w g 6 v b1 b2)
theorem Hand.all7 {W w : World} {L : List Tg} {g : Nat} {a b c d e f i : Value} {T : TypeId} (A : Hand W w L) (j : Nat) (hj : L[j]? = some (TBox g #[a, b, c, d, e, f, i] T)) (v0 v1 v2 v3 v4 v5 v6 : Value) :
    Hand W (((((((w.setCell ⟨g, 0, none⟩ v0).setCell ⟨g, 1, none⟩ v1).setCell ⟨g, 2, none⟩ v2).setCell ⟨g, 3, none⟩ v3).setCell ⟨g, 4, none⟩ v4).setCell ⟨g, 5, none⟩ v5).setCell ⟨g, 6, none⟩ v6) (L.set j (TBox g #[v0, v1, v2, v3, v4, v5, v6] T)) := by
  obtain ⟨lo, hi', ⟨b1, b2, b3⟩, _, _, put⟩ := A.open j hj
  exact put _ (TBox g #[v0, v1, v2, v3, v4, v5, v6] T) (TBox.st _ _ _) ⟨b1, b2, b3.store7 v0 v1 v2 v3 v4 v5 v6⟩ (Chg.store7 w g v0 v1 v2 v3 v4 v5 v6 b1 b2)

/-- A journal's lists fit the measure. -/
def SzJ (P H : List ByteArray) (B : List Bool) (ak cm : List Int) : Prop := SzD P H B ∧ ak.length ≤ 1048576 ∧ cm.length ≤ 1048576
set_option maxRecDepth 100000 in
set_option maxHeartbeats 1600000 in
theorem szJournal_calls (p h b a c : Value) (e ph : Int) (P H : List ByteArray) (B : List Bool) (ak cm : List Int) (w : World) (d : RdJ w p h b a c P H B ak cm) :
    Calls Try.prog 24 #[.agg (jrC p h b e ph a c), .int .i64 1048576] w fun x w' => (∃ r : Int, x = .returned (.int .i64 r) ∧ (r < 0 ∨ (0 ≤ r ∧ r ≤ 1048576 ∧ SzJ P H B ak cm))) ∧ Below w.heap.size w w' := by
  have A0 := hide ((Hand.start w).box (jrC p h b e ph a c) 38)
  have D0 := hide (d.below A0.out.below)
  clear d
  obtain ⟨x0, x1, x2, x3, x4, x5, x6⟩ := (A0.out.atBox 0 rfl).c7
  go_enter Try.func24, Try.ntmps24
  go_wp2_with fail
  refine (szDisk_calls p h b P H B _ D0.out.rp D0.out.rh D0.out.rb).mono ?_
  rintro x w1 ⟨⟨r, rfl, hr⟩, q⟩
  have A1 := hide (A0.out.step q)
  have D1 := hide (D0.out.below q)
  clear q A0 D0 x0 x1 x2 x3 x4 x5 x6
  obtain ⟨x0, x1, x2, x3, x4, x5, x6⟩ := (A1.out.atBox 0 rfl).c7
  by_cases r0 : r < 0
  · go_wp2
    go_ret
    exact ⟨⟨-1, rfl, .inl (by decide)⟩, A1.out.below⟩
  have HR := hide (hr.resolve_left r0)
  have r1 := HR.out.2.1
  clear hr
  go_wp2_with fail
  refine (szIntS_any a ak _ _ D1.out.ra (by omega) (by omega)).mono ?_
  rintro x w2 ⟨⟨r2, rfl, hr⟩, rfl⟩
  clear r0 r1
  by_cases r0 : r2 < 0
  · go_wp2
    go_ret
    exact ⟨⟨-1, rfl, .inl (by decide)⟩, A1.out.below⟩
  have HR2 := hide (hr.resolve_left r0)
  have r1 := HR2.out.2.1
  clear hr
  go_wp2_with fail
  refine (szIntS_any c cm _ _ D1.out.rc (by omega) (by omega)).mono ?_
  rintro x w2 ⟨⟨r3, rfl, hr⟩, rfl⟩
  clear r0 r1
  by_cases r0 : r3 < 0
  · go_wp2
    go_ret
    exact ⟨⟨-1, rfl, .inl (by decide)⟩, A1.out.below⟩
  have HR3 := hide (hr.resolve_left r0)
  clear hr
  go_wp2
  go_ret
  exact ⟨⟨r3, rfl, .inr ⟨HR3.out.1, HR3.out.2.1, HR.out.2.2, HR2.out.2.2, HR3.out.2.2⟩⟩, A1.out.below⟩

set_option maxRecDepth 100000 in
set_option maxHeartbeats 3200000 in
theorem toJournal_calls (p h b a c : Value) (e ph : Int) (P H : List ByteArray) (B : List Bool) (ak cm : List Int) (w : World) (d : RdJ w p h b a c P H B ak cm) (hz : SzJ P H B ak cm) :
    Calls Try.prog 26 #[.agg (jrC p h b e ph a c)] w fun x w' => ∃ p' h' b' a' c', x = .returned (.agg (jrC p' h' b' e ph a' c')) ∧ JrnV w' w.heap.size w'.heap.size p' h' b' a' c' P H B ak cm ∧ Below w.heap.size w w' := by
  have A0 := hide (Hand.three w (jrC p h b e ph a c) jr0 jr0 38 42 42)
  have D := hide d
  have D0 := hide (d.below A0.out.below)
  have SZ := hide hz
  clear d hz
  obtain ⟨x0, x1, x2, x3, x4, x5, x6⟩ := (A0.out.atBox 2 rfl).c7
  go_enter Try.func26, Try.ntmps26
  go_wp2_with fail
  refine (toDisk_calls p h b P H B _ D0.out.rp D0.out.rh D0.out.rb SZ.out.1).mono ?_
  rintro x w1 ⟨p1, h1, b1, rfl, dk, q⟩
  obtain ⟨a1, k1, a2, k2, a3, k3, rfl, rfl, rfl⟩ := dk.sl
  have A1 := hide (A0.out.add q (TDsk.st _ _ _ _ _ _) dk)
  clear q dk A0 D0 x0 x1 x2 x3 x4 x5 x6
  obtain ⟨x0, x1, x2, x3, x4, x5, x6⟩ := (A1.out.atBox 3 rfl).c7
  have xr := A1.out.atBox 1 rfl
  obtain ⟨y0, y1, y2, y3, y4, y5, y6⟩ := xr.c7
  have f0 := xr.frozen 0
  have f1 := xr.frozen 1
  have f2 := xr.frozen 2
  have f3 := xr.frozen 3
  have f4 := xr.frozen 4
  have A2 := hide (A1.out.lay5 1 rfl (.slice a1 P.length k1) (.slice a2 H.length k2) (.slice a3 B.length k3) (.int .i64 e) (.int .i64 ph))
  clear xr A1
  go_wp2_with fail
  clear x0 x1 x2 x3 x4 x5 x6 y0 y1 y2 y3 y4 y5 y6 f0 f1 f2 f3 f4
  refine (toIntS_calls a ak _ (D.out.below A2.out.below).ra SZ.out.2.1).mono ?_
  rintro x w2 ⟨a', rfl, o, q⟩
  obtain ⟨a4, k4, rfl⟩ := row_slice o
  have A3 := hide (A2.out.add q (TInts.st _ _) ⟨o, row_top o⟩)
  clear o q A2
  obtain ⟨x0, x1, x2, x3, x4, x5, x6⟩ := (A3.out.atBox 4 rfl).c7
  have xr := A3.out.atBox 2 rfl
  obtain ⟨y0, y1, y2, y3, y4, y5, y6⟩ := xr.c7
  have f5 := xr.frozen 5
  have A4 := hide (A3.out.lay6 2 rfl (.slice a4 ak.length k4))
  clear xr A3
  go_wp2_with fail
  clear x0 x1 x2 x3 x4 x5 x6 y0 y1 y2 y3 y4 y5 y6 f5
  refine (toIntS_calls c cm _ (D.out.below A4.out.below).rc SZ.out.2.2).mono ?_
  rintro x w3 ⟨c', rfl, o, q⟩
  obtain ⟨a5, k5, rfl⟩ := row_slice o
  have A5 := hide (A4.out.add q (TInts.st _ _) ⟨o, row_top o⟩)
  clear o q A4
  have xl := A5.out.atBox 3 rfl
  obtain ⟨y0, y1, y2, y3, y4, y5, y6⟩ := xl.c7
  have f6 := xl.frozen 6
  have xr := A5.out.atBox 4 rfl
  obtain ⟨z0, z1, z2, z3, z4, z5, z6⟩ := xr.c7
  have g0 := xr.frozen 0
  have g1 := xr.frozen 1
  have g2 := xr.frozen 2
  have g3 := xr.frozen 3
  have g4 := xr.frozen 4
  have g5 := xr.frozen 5
  have g6 := xr.frozen 6
  have A6 := hide (A5.out.lay7 3 rfl (.slice a5 cm.length k5))
  have A7 := hide (A6.out.all7 4 rfl (.slice a1 P.length k1) (.slice a2 H.length k2) (.slice a3 B.length k3) (.int .i64 e) (.int .i64 ph) (.slice a4 ak.length k4) (.slice a5 cm.length k5))
  clear xl xr A5 A6
  go_wp2
  exact bodyPost_ret (res_jr rfl _ _ (w.heap.size + 1) _ _ _ _ _ _ _ (0, 0) rfl (A7.out.atBox 4 rfl)) rfl ⟨_, _, _, _, _, rfl, A7.out.jrn, A7.out.below⟩
end Go.Proofs.Ytpgmocogffolaaa

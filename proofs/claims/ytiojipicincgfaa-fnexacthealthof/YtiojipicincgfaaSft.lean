/-
  Where a stripe fits: the program's FitsStripe and its model's, at every disk and number. No condition but that the number is one of 64 bits.
-/
import Derived.Test.YtiojipicincgfaaDge
namespace Go.Proofs.Ytiojipicincgfaa
open Go.RowKit
set_option linter.unusedVariables false

/-- A stripe fits from A on. -/
def ftP (P : List ByteArray) (A : Int) : Prop := 0 ≤ A ∧ A ≤ (P.length : Int) - 5
theorem ft_bool (P H : List ByteArray) (B : List Bool) (A : Int) : ∃ f : Bool, f = true ↔ (gkP P H B ∧ ftP P A) := by
  by_cases h : gkP P H B ∧ ftP P A
  · exact ⟨true, by simp [h]⟩
  · exact ⟨false, by simp [h]⟩

set_option maxRecDepth 100000 in
set_option maxHeartbeats 1600000 in
theorem fitsStripe_calls (p h b : Value) (P H : List ByteArray) (B : List Bool) (A : Int) (g f : Bool) (w : World) (hg : g = true ↔ gkP P H B) (hf : f = true ↔ (gkP P H B ∧ ftP P A)) (hwf : (Lit.int .i64 A).wf = true) (hp : RdT w p P) (hh : RdT w h H) (hb : RdZ w b B) :
    Calls Try.prog 15 #[.agg #[p, h, b], .int .i64 A] w fun e w' => e = .returned (.tuple #[.bool f, .bool g]) ∧ Below w.heap.size w w' := by
  have HG := hide hg
  have HF := hide hf
  have RP := hide hp
  have RH := hide hh
  have RB := hide hb
  have A0 := hide ((Hand.start w).box #[p, h, b] 32)
  have C := hide (fun W (h1 : RdT W p P) (h2 : RdT W h H) (h3 : RdZ W b B) => goodDisk_calls p h b P H B g W hg h1 h2 h3)
  obtain ⟨ap, cp, rfl, mp, _⟩ := hp.sl
  obtain ⟨ah, ch, rfl, mh, _⟩ := hh.sl
  obtain ⟨ab, cb, rfl, mb, _⟩ := hb.sl
  clear hg hf hp hh hb mp mh mb
  cases g with
  | false =>
    have ng : Hid (¬ gkP P H B) := fun h => by have := HG.out.2 h; simp at this
    have ff : f = false := by
      cases f with
      | false => rfl
      | true => exact absurd (HF.out.1 rfl).1 ng.out
    subst ff
    go_enter Try.func15, Try.ntmps15
    go_wp2_with fail
    refine (C.out _ (RP.out.below A0.out.below) (RH.out.below A0.out.below) (RB.out.below A0.out.below)).mono ?_
    rintro e w1 ⟨rfl, q⟩
    have A1 := hide (A0.out.step q)
    clear q A0
    go_wp2
    go_ret2
    exact ⟨rfl, A1.out.below⟩
  | true =>
  have GK := hide (HG.out.1 rfl)
  have n24 : P.length ≤ 24 := GK.out.1.2
  have HF2 : Hid (f = true ↔ ftP P A) := ⟨fun h => (HF.out.1 h).2, fun h => HF.out.2 ⟨GK.out, h⟩⟩
  clear HG HF
  unfold ftP at HF2
  by_cases h0 : 0 ≤ A
  case neg =>
    have ff : f = false := by
      cases f with
      | false => rfl
      | true => exact absurd (HF2.out.1 rfl).1 h0
    subst ff
    go_enter Try.func15, Try.ntmps15
    go_wp2_with fail
    refine (C.out _ (RP.out.below A0.out.below) (RH.out.below A0.out.below) (RB.out.below A0.out.below)).mono ?_
    rintro e w1 ⟨rfl, q⟩
    have A1 := hide (A0.out.step q)
    clear q A0
    obtain ⟨c0, c1, c2⟩ := (A1.out.atBox 0 rfl).c3
    go_wp2
    go_ret2
    exact ⟨rfl, A1.out.below⟩
  have ff : f = decide (A ≤ (P.length : Int) - 5) := by
    cases f with
    | false => exact (decide_eq_false (fun h => by have := HF2.out.2 ⟨h0, h⟩; simp at this)).symm
    | true => exact (decide_eq_true (HF2.out.1 rfl).2).symm
  by_cases h5 : A ≤ (P.length : Int) - 5
  · rw [decide_eq_true h5] at ff
    subst ff
    go_enter Try.func15, Try.ntmps15
    go_wp2_with fail
    refine (C.out _ (RP.out.below A0.out.below) (RH.out.below A0.out.below) (RB.out.below A0.out.below)).mono ?_
    rintro e w1 ⟨rfl, q⟩
    have A1 := hide (A0.out.step q)
    clear q A0
    obtain ⟨c0, c1, c2⟩ := (A1.out.atBox 0 rfl).c3
    go_wp2
    go_ret2
    exact ⟨rfl, A1.out.below⟩
  · rw [decide_eq_false h5] at ff
    subst ff
    have hd : decide (A ≤ (P.length : Int) - 5) = false := decide_eq_false h5
    go_enter Try.func15, Try.ntmps15
    go_wp2_with fail
    refine (C.out _ (RP.out.below A0.out.below) (RH.out.below A0.out.below) (RB.out.below A0.out.below)).mono ?_
    rintro e w1 ⟨rfl, q⟩
    have A1 := hide (A0.out.step q)
    clear q A0
    obtain ⟨c0, c1, c2⟩ := (A1.out.atBox 0 rfl).c3
    go_wp2
    go_ret2
    exact ⟨rfl, A1.out.below⟩


set_option maxRecDepth 100000 in
set_option maxHeartbeats 400000 in
theorem l8Fits_calls (ap : Option Addr) (cp : Nat) (h b : Value) (P : List ByteArray) (A : Int) (f : Bool) (w : World) (hf : f = true ↔ ftP P A) (h24 : P.length ≤ 24) :
    Calls Try.prog 19 #[.agg #[.slice ap P.length cp, h, b], .int .i64 A] w fun e w' => e = .returned (.bool f) ∧ Below w.heap.size w w' := by
  unfold ftP at hf
  have HF2 := hide hf
  have HB := hide (below_box w (.cells #[.slice ap P.length cp, h, b] 32))
  clear hf
  by_cases h0 : 0 ≤ A
  case neg =>
    have ff : f = false := by
      cases f with
      | false => rfl
      | true => exact absurd (HF2.out.1 rfl).1 h0
    subst ff
    go_enter Try.func19, Try.ntmps19
    go_wp2
    go_ret
    exact ⟨rfl, HB.out⟩
  have ff : f = decide (A ≤ (P.length : Int) - 5) := by
    cases f with
    | false => exact (decide_eq_false (fun h => by have := HF2.out.2 ⟨h0, h⟩; simp at this)).symm
    | true => exact (decide_eq_true (HF2.out.1 rfl).2).symm
  by_cases h5 : A ≤ (P.length : Int) - 5
  · rw [decide_eq_true h5] at ff
    subst ff
    go_enter Try.func19, Try.ntmps19
    go_wp2
    go_ret
    exact ⟨rfl, HB.out⟩
  · rw [decide_eq_false h5] at ff
    subst ff
    have hd : decide (A ≤ (P.length : Int) - 5) = false := decide_eq_false h5
    go_enter Try.func19, Try.ntmps19
    go_wp2
    go_ret
    exact ⟨rfl, HB.out⟩

set_option maxRecDepth 100000 in
set_option maxHeartbeats 1600000 in
theorem sFitsStripe_calls (p h b : Value) (P H : List ByteArray) (B : List Bool) (A : Int) (g f : Bool) (w : World) (hg : g = true ↔ gkP P H B) (hf : f = true ↔ (gkP P H B ∧ ftP P A)) (hwf : (Lit.int .i64 A).wf = true) (hp : RdT w p P) (hh : RdT w h H) (hb : RdZ w b B) :
    Calls Try.prog 14 #[.agg #[p, h, b], .int .i64 A] w fun e w' => e = .returned (.tuple #[.bool f, .bool g]) ∧ Below w.heap.size w w' := by
  have HG := hide hg
  have HF := hide hf
  have RP := hide hp
  have RH := hide hh
  have RB := hide hb
  have A0 := hide ((Hand.start w).box #[p, h, b] 32)
  have C := hide (fun W (h1 : RdT W p P) (h2 : RdT W h H) (h3 : RdZ W b B) => sGoodDisk_calls p h b P H B g W hg h1 h2 h3)
  obtain ⟨ap, cp, rfl, mp, _⟩ := hp.sl
  obtain ⟨ah, ch, rfl, mh, _⟩ := hh.sl
  obtain ⟨ab, cb, rfl, mb, _⟩ := hb.sl
  clear hg hf hp hh hb mp mh mb
  cases g with
  | false =>
    have ng : Hid (¬ gkP P H B) := fun h => by have := HG.out.2 h; simp at this
    have ff : f = false := by
      cases f with
      | false => rfl
      | true => exact absurd (HF.out.1 rfl).1 ng.out
    subst ff
    go_enter Try.func14, Try.ntmps14
    go_wp2_with fail
    refine (C.out _ (RP.out.below A0.out.below) (RH.out.below A0.out.below) (RB.out.below A0.out.below)).mono ?_
    rintro e w1 ⟨rfl, q⟩
    have A1 := hide (A0.out.step q)
    clear q A0
    go_wp2
    go_ret2
    exact ⟨rfl, A1.out.below⟩
  | true =>
  have GK := hide (HG.out.1 rfl)
  have n24 : P.length ≤ 24 := GK.out.1.2
  have HF2 : Hid (f = true ↔ ftP P A) := ⟨fun h => (HF.out.1 h).2, fun h => HF.out.2 ⟨GK.out, h⟩⟩
  clear HG HF
  go_enter Try.func14, Try.ntmps14
  go_wp2_with fail
  refine (C.out _ (RP.out.below A0.out.below) (RH.out.below A0.out.below) (RB.out.below A0.out.below)).mono ?_
  rintro e w1 ⟨rfl, q⟩
  have A1 := hide (A0.out.step q)
  clear q A0
  obtain ⟨c0, c1, c2⟩ := (A1.out.atBox 0 rfl).c3
  go_wp2_with fail
  refine (l8Fits_calls _ _ _ _ P A f _ HF2.out n24).mono ?_
  rintro e w2 ⟨rfl, q⟩
  have A2 := hide (A1.out.step q)
  clear q A1 c0 c1 c2
  go_wp2
  go_ret2
  exact ⟨rfl, A2.out.below⟩

end Go.Proofs.Ytiojipicincgfaa

/-
  A sector read: the model's ReadSector, call by call. The contract says what it asks.
-/
import Derived.Test.YtnjpkfgljabdaaaDrd
namespace Go.Proofs.Ytnjpkfgljabdaaa
open Go.RowKit
set_option linter.unusedVariables false

set_option maxRecDepth 100000 in
set_option maxHeartbeats 1600000 in
theorem sReadSector_calls (p h b : Value) (P H : List ByteArray) (B : List Bool) (A : Int) (T : ByteArray) (ok : Bool) (w : World) (hT : (ok = true ∧ rsOk P H B A ∧ T = rsT P H A.toNat) ∨ (ok = false ∧ ¬ rsOk P H B A ∧ T = ⟨#[]⟩)) (hp : RdT w p P) (hh : RdT w h H) (hb : RdZ w b B) :
    Calls Try.prog 19 #[.agg #[p, h, b], .int .i64 A] w fun e w' => e = .returned (.tuple #[.string T, .bool ok]) ∧ Below w.heap.size w w' := by
  obtain ⟨g, hg⟩ := gk_bool' P H B
  have HG := hide hg
  have HT := hide hT
  have RP := hide hp
  have RH := hide hh
  have RB := hide hb
  have A0 := hide ((Hand.start w).box #[p, h, b] 25)
  have C := hide (fun W (h1 : RdT W p P) (h2 : RdT W h H) (h3 : RdZ W b B) => sGoodDisk_calls p h b P H B g W hg h1 h2 h3)
  obtain ⟨ap, cp, rfl, mp, _⟩ := hp.sl
  obtain ⟨ah, ch, rfl, mh, _⟩ := hh.sl
  obtain ⟨ab, cb, rfl, mb, _⟩ := hb.sl
  clear hT hg hp hh hb
  cases g with
  | false =>
    have ng : Hid (¬ gkP P H B) := fun h => by have := HG.out.2 h; simp at this
    obtain ⟨rfl, _, rfl⟩ := HT.out.resolve_left (fun h => ng.out h.2.1.1)
    go_enter Try.func19, Try.ntmps19
    go_wp2_with fail
    refine (C.out _ (RP.out.below A0.out.below) (RH.out.below A0.out.below) (RB.out.below A0.out.below)).mono ?_
    rintro e w1 ⟨rfl, q⟩
    have A1 := hide (A0.out.step q)
    clear q A0
    go_wp2
    go_ret2
    exact ⟨rfl, A1.out.below⟩
  | true =>
  have hgk := HG.out.1 rfl
  have GK := hide hgk
  have n24 : P.length ≤ 24 := hgk.1.2
  have L2 := hide hgk.2.1
  have L3 := hide hgk.2.2.1
  clear hgk HG
  by_cases hA : 0 ≤ A ∧ A < (P.length : Int)
  case neg =>
    obtain ⟨rfl, _, rfl⟩ := HT.out.resolve_left (fun h => hA h.2.1.2.1)
    go_enter Try.func19, Try.ntmps19
    go_wp2_with fail
    refine (C.out _ (RP.out.below A0.out.below) (RH.out.below A0.out.below) (RB.out.below A0.out.below)).mono ?_
    rintro e w1 ⟨rfl, q⟩
    have A1 := hide (A0.out.step q)
    clear q A0
    obtain ⟨c0, c1, c2⟩ := (A1.out.atBox 0 rfl).c3
    go_wp2_with fail
    refine (l7There_no _ _ _ _ _ _ _ hA (by omega)).mono ?_
    rintro e w2 ⟨rfl, q⟩
    have A2 := hide (A1.out.step q)
    clear q A1 c0 c1 c2
    go_wp2
    go_ret2
    exact ⟨rfl, A2.out.below⟩
  obtain ⟨k, rfl⟩ : ∃ k : Nat, A = (k : Int) := ⟨A.toNat, by omega⟩
  obtain ⟨h0, hlt'⟩ := hA
  have hlt : k < P.length := by omega
  obtain ⟨gb, ob, eb, _, _⟩ := RB.out.cell k (by rw [L3.out]; exact hlt)
  obtain ⟨gh, oh, eh, _, _⟩ := RH.out.cell k (by rw [L2.out]; exact hlt)
  obtain ⟨gp, op, ep, _, _⟩ := RP.out.cell k hlt
  subst eb eh ep
  have hltb : (k : Int) < (B.length : Int) := by rw [L3.out]; omega
  have hlth : (k : Int) < (H.length : Int) := by rw [L2.out]; omega
  have FB : Hid (∀ W, Below w.heap.size w W → W.cell? ⟨gb, ob + k, none⟩ = some (.bool (B.getD k false))) := by
    show ∀ W, _
    intro W hW
    obtain ⟨b', o', e, hc, _⟩ := (RB.out.below hW).cell k (by rw [L3.out]; exact hlt)
    cases e
    exact hc
  have FH : Hid (∀ W, Below w.heap.size w W → W.cell? ⟨gh, oh + k, none⟩ = some (.string (H.getD k ⟨#[]⟩))) := by
    show ∀ W, _
    intro W hW
    obtain ⟨b', o', e, hc, _⟩ := (RH.out.below hW).cell k (by rw [L2.out]; exact hlt)
    cases e
    exact hc
  have FP : Hid (∀ W, Below w.heap.size w W → W.cell? ⟨gp, op + k, none⟩ = some (.string (P.getD k ⟨#[]⟩))) := by
    show ∀ W, _
    intro W hW
    obtain ⟨b', o', e, hc, _⟩ := (RP.out.below hW).cell k hlt
    cases e
    exact hc
  have sH := hide (GK.out.2.2.2.2.1 k hlt)
  have sP := hide (GK.out.2.2.2.1 k hlt)
  have HT2 : Hid ((ok = true ∧ B.getD k false = false ∧ T = rsT P H k) ∨ (ok = false ∧ B.getD k false = true ∧ T = ⟨#[]⟩)) := by
    show _ ∨ _
    rcases HT.out with ⟨h1, h2, h3⟩ | ⟨h1, h2, h3⟩
    · exact .inl ⟨h1, h2.2.2, h3⟩
    · refine .inr ⟨h1, ?_, h3⟩
      cases hB : B.getD k false with
      | true => rfl
      | false => exact absurd ⟨GK.out, ⟨h0, hlt'⟩, hB⟩ h2
  unfold rsT at HT2
  clear HT mp mh mb
  generalize B.getD k false = y at FB HT2
  generalize H.getD k ⟨#[]⟩ = z at FH HT2 sH
  generalize P.getD k ⟨#[]⟩ = u at FP HT2 sP
  have C2 : Hid (∀ W, Below w.heap.size w W → Calls Try.prog 56 #[.agg #[.slice (some ⟨gp, op, none⟩) P.length cp, .slice (some ⟨gh, oh, none⟩) H.length ch, .slice (some ⟨gb, ob, none⟩) B.length cb], .int .i64 (k : Int)] W fun e w' => e = .returned (.tuple #[.string T, .bool ok]) ∧ Below W.heap.size W w') := by
    show ∀ W, _
    intro W hW
    have hbx := below_box W (.cells #[.slice (some ⟨gp, op, none⟩) P.length cp, .slice (some ⟨gh, oh, none⟩) H.length ch, .slice (some ⟨gb, ob, none⟩) B.length cb] 25)
    have hW2 := hW.trans (hbx.mono hW.size)
    have hcb := FB.out _ hW2
    have hch := FH.out _ hW2
    have hcp := FP.out _ hW2
    have HB := hide hbx
    clear hbx hW2 hW C
    cases y with
    | true =>
      obtain ⟨rfl, _, rfl⟩ := HT2.out.resolve_left (fun h => by have := h.2.1; simp at this)
      go_enter Try.func56, Try.ntmps56
      go_wp2
      go_ret2
      exact ⟨rfl, HB.out⟩
    | false =>
      obtain ⟨rfl, _, hT3⟩ := HT2.out.resolve_right (fun h => by have := h.2.1; simp at this)
      by_cases hz : z.size = 0
      · have hzz := size_zero hz
        subst hzz
        rw [if_pos hz] at hT3
        subst hT3
        go_enter Try.func56, Try.ntmps56
        go_wp2
        go_ret2
        exact ⟨rfl, HB.out⟩
      · rw [if_neg hz] at hT3
        subst hT3
        obtain ⟨zz1, zz2⟩ := toList_ne (z := T) (fun e => hz (by rw [e]; rfl))
        clear hz
        go_enter Try.func56, Try.ntmps56
        go_wp2
        go_ret2
        exact ⟨rfl, HB.out⟩
  go_enter Try.func19, Try.ntmps19
  go_wp2_with fail
  refine (C.out _ (RP.out.below A0.out.below) (RH.out.below A0.out.below) (RB.out.below A0.out.below)).mono ?_
  rintro e w1 ⟨rfl, q⟩
  have A1 := hide (A0.out.step q)
  clear q A0
  obtain ⟨c0, c1, c2⟩ := (A1.out.atBox 0 rfl).c3
  go_wp2_with fail
  refine (l7There_yes _ _ _ _ _ _ _ h0 hlt' (by omega)).mono ?_
  rintro e w2 ⟨rfl, q⟩
  have A2 := hide (A1.out.step q)
  clear q A1 c0 c1 c2
  obtain ⟨c0, c1, c2⟩ := (A2.out.atBox 0 rfl).c3
  go_wp2_with fail
  refine (C2.out _ A2.out.below).mono ?_
  rintro e w3 ⟨rfl, q⟩
  have A3 := hide (A2.out.step q)
  clear q A2 c0 c1 c2
  go_wp2
  go_ret2
  exact ⟨rfl, A3.out.below⟩
end Go.Proofs.Ytnjpkfgljabdaaa

/-
  WriteStripe of the model, at every disk, numbers and text. No condition but that a number is one of 64 bits. The law that holds the program's WriteStripe against its model's: at every disk, numbers and text the call returns true, and nothing that was there is written. The program's table of rests must hold its seven numbers.
-/
import Derived.Test.YtbgadbokejaomaaGreatDoorWriteStripeB22
namespace Go.Proofs.YtbgadbokejaomaaGreatDoor
open Go.RowKit
open Gf (ci nat)
set_option linter.unusedVariables false

/-- Rows of the call's own, held. -/
def TMat (v : Value) (m : List (List Int)) : Tg := fun lo hi w => Mat w lo hi v m
theorem TMat.st (v : Value) (m : List (List Int)) : (TMat v m).st := fun lo hi a b w w' h hc hd => by
  obtain ⟨vs, hv⟩ := h
  exact ⟨vs, hv.chg hc hd⟩

set_option maxRecDepth 100000 in
set_option maxHeartbeats 6400000 in
theorem sWriteStripe_calls (p h b : Value) (P H : List ByteArray) (B : List Bool) (A E : Int) (S : ByteArray) (ok : Bool) (w : World) (hok : ok = true ↔ wsOk P H B A E S) (hwf : (Lit.int .i64 A).wf = true) (hS : S.size ≤ maxLen) (hp : RdT w p P) (hh : RdT w h H) (hb : RdZ w b B) :
    Calls Tryz.prog 47 #[.agg #[p, h, b], .int .i64 A, .int .i64 E, .string S] w fun e w' => ∃ p' h' b', e = .returned (.tuple #[.agg #[p', h', b'], .bool ok]) ∧ DskV w' w.heap.size w'.heap.size p' h' b' (ifT ok P) (ifT ok (wsH H A E S)) (ifT ok B) ∧ Below w.heap.size w w' := by
  unfold maxLen at hS
  have RP := hide hp
  have RH := hide hh
  have RB := hide hb
  have HOK := hide hok
  obtain ⟨g, hg⟩ := gk_bool' P H B
  have HG := hide hg
  have C1 := hide (fun W h1 h2 h3 => sGoodDisk_calls p h b P H B g W hg h1 h2 h3)
  have A0 : Hid (Hand w ((w.alloc (.cells #[p, h, b] 26)).alloc (.cells nil3 26)) [TBox (w.heap.size + 1) nil3 26, TBox w.heap.size #[p, h, b] 26]) := by
    show Hand _ _ _
    have := ((Hand.start w).box #[p, h, b] 26).box nil3 26
    simpa using this
  obtain ⟨ap, cp, rfl, mp, _⟩ := hp.sl
  obtain ⟨ah, ch, rfl, mh, _⟩ := hh.sl
  obtain ⟨ab, cb, rfl, mb, _⟩ := hb.sl
  have FALSE : Hid (¬ wsOk P H B A E S → ok = false) := fun h => by
    cases ok with
    | false => rfl
    | true => exact absurd (HOK.out.1 rfl) h
  clear hp hh hb hok hg mp mh mb hwf
  cases g with
  | false =>
    obtain rfl := FALSE.out (fun h' => by have := HG.out.2 h'.2.1.1; simp at this)
    obtain ⟨c0, c1, c2⟩ := (A0.out.atBox 1 rfl).c3
    go_enter Tryz.func47, Tryz.ntmps47
    go_wp2_with fail
    refine (C1.out _ (RP.out.below A0.out.below) (RH.out.below A0.out.below) (RB.out.below A0.out.below)).mono ?_
    rintro e w1 ⟨rfl, q⟩
    have A1 := hide (A0.out.step q)
    clear q A0
    obtain ⟨d0, d1, d2⟩ := (A1.out.atBox 0 rfl).c3
    have g0 := (A1.out.atBox 0 rfl).frozen 0
    have g1 := (A1.out.atBox 0 rfl).frozen 1
    have g2 := (A1.out.atBox 0 rfl).frozen 2
    have AZ := hide (A1.out.store3 0 rfl (.slice none 0 0) (.slice none 0 0) (.slice none 0 0))
    go_wp2
    exact bodyPost_ret (res_dsk2 rfl _ _ (w.heap.size + 1) _ _ _ (0, 0) rfl (AZ.out.atBox 0 rfl)) rfl ⟨_, _, _, rfl, DskV.nil _ _ _, AZ.out.below⟩
  | true =>
  have GK := hide (HG.out.1 rfl)
  have n24 : P.length ≤ 24 := GK.out.1.2
  obtain ⟨f, hf⟩ : ∃ f : Bool, f = true ↔ ftP P A := by
    by_cases hx : ftP P A
    · exact ⟨true, by simp [hx]⟩
    · exact ⟨false, by simp [hx]⟩
  have C2 := hide (fun W x y z t => l8Fits_calls x y z t P A f W hf n24)
  have HF := hide hf
  clear hf
  obtain ⟨c0, c1, c2⟩ := (A0.out.atBox 1 rfl).c3
  cases f with
  | false =>
    obtain rfl := FALSE.out (fun h' => by have := HF.out.2 h'.2.1.2; simp at this)
    go_enter Tryz.func47, Tryz.ntmps47
    go_wp2_with fail
    refine (C1.out _ (RP.out.below A0.out.below) (RH.out.below A0.out.below) (RB.out.below A0.out.below)).mono ?_
    rintro e w1 ⟨rfl, q⟩
    have A1 := hide (A0.out.step q)
    clear q A0
    obtain ⟨c0, c1, c2⟩ := (A1.out.atBox 1 rfl).c3
    go_wp2_with fail
    refine (C2.out _ _ _ _ _).mono ?_
    rintro e w2 ⟨rfl, q⟩
    have A2 := hide (A1.out.step q)
    clear q A1 c0 c1 c2
    obtain ⟨d0, d1, d2⟩ := (A2.out.atBox 0 rfl).c3
    have g0 := (A2.out.atBox 0 rfl).frozen 0
    have g1 := (A2.out.atBox 0 rfl).frozen 1
    have g2 := (A2.out.atBox 0 rfl).frozen 2
    have AZ := hide (A2.out.store3 0 rfl (.slice none 0 0) (.slice none 0 0) (.slice none 0 0))
    go_wp2
    exact bodyPost_ret (res_dsk2 rfl _ _ (w.heap.size + 1) _ _ _ (0, 0) rfl (AZ.out.atBox 0 rfl)) rfl ⟨_, _, _, rfl, DskV.nil _ _ _, AZ.out.below⟩
  | true =>
  have FT := hide (HF.out.1 rfl)
  by_cases hE : 0 ≤ E ∧ E ≤ 60000
  case neg =>
    obtain rfl := FALSE.out (fun h' => hE (h'.2.2 0 (by omega)).1)
    go_enter Tryz.func47, Tryz.ntmps47
    go_wp2_with fail
    refine (C1.out _ (RP.out.below A0.out.below) (RH.out.below A0.out.below) (RB.out.below A0.out.below)).mono ?_
    rintro e w1 ⟨rfl, q⟩
    have A1 := hide (A0.out.step q)
    clear q A0
    obtain ⟨c0, c1, c2⟩ := (A1.out.atBox 1 rfl).c3
    go_wp2_with fail
    refine (C2.out _ _ _ _ _).mono ?_
    rintro e w2 ⟨rfl, q⟩
    have A2 := hide (A1.out.step q)
    clear q A1 c0 c1 c2
    go_wp2_with fail
    refine (l1In_no _ _ _ _ (by omega)).mono ?_
    rintro e w3 ⟨rfl, rfl⟩
    obtain ⟨d0, d1, d2⟩ := (A2.out.atBox 0 rfl).c3
    have g0 := (A2.out.atBox 0 rfl).frozen 0
    have g1 := (A2.out.atBox 0 rfl).frozen 1
    have g2 := (A2.out.atBox 0 rfl).frozen 2
    have AZ := hide (A2.out.store3 0 rfl (.slice none 0 0) (.slice none 0 0) (.slice none 0 0))
    go_wp2
    exact bodyPost_ret (res_dsk2 rfl _ _ (w.heap.size + 1) _ _ _ (0, 0) rfl (AZ.out.atBox 0 rfl)) rfl ⟨_, _, _, rfl, DskV.nil _ _ _, AZ.out.below⟩
  by_cases h47 : S.size ≤ 47
  case neg =>
    obtain rfl := FALSE.out (fun h' => h47 h'.1)
    have h' : (47 : Int) < (S.size : Int) := by omega
    go_enter Tryz.func47, Tryz.ntmps47
    go_wp2_with fail
    refine (C1.out _ (RP.out.below A0.out.below) (RH.out.below A0.out.below) (RB.out.below A0.out.below)).mono ?_
    rintro e w1 ⟨rfl, q⟩
    have A1 := hide (A0.out.step q)
    clear q A0
    obtain ⟨c0, c1, c2⟩ := (A1.out.atBox 1 rfl).c3
    go_wp2_with fail
    refine (C2.out _ _ _ _ _).mono ?_
    rintro e w2 ⟨rfl, q⟩
    have A2 := hide (A1.out.step q)
    clear q A1 c0 c1 c2
    go_wp2_with fail
    refine (l1In_yes _ _ _ _ (by omega) (by omega)).mono ?_
    rintro e w3 ⟨rfl, rfl⟩
    obtain ⟨d0, d1, d2⟩ := (A2.out.atBox 0 rfl).c3
    have g0 := (A2.out.atBox 0 rfl).frozen 0
    have g1 := (A2.out.atBox 0 rfl).frozen 1
    have g2 := (A2.out.atBox 0 rfl).frozen 2
    have AZ := hide (A2.out.store3 0 rfl (.slice none 0 0) (.slice none 0 0) (.slice none 0 0))
    go_wp2
    exact bodyPost_ret (res_dsk2 rfl _ _ (w.heap.size + 1) _ _ _ (0, 0) rfl (AZ.out.atBox 0 rfl)) rfl ⟨_, _, _, rfl, DskV.nil _ _ _, AZ.out.below⟩
  obtain ⟨a, rfl⟩ : ∃ a : Nat, A = (a : Int) := ⟨A.toNat, by have := FT.out.1; omega⟩
  have ha5 : a + 5 ≤ P.length := by have := FT.out.2; omega
  have OK3 : Hid (ok = true ↔ wOk B a E ks5 5) := by
    show _ ↔ _
    rw [HOK.out]
    unfold wsOk
    rw [Int.toNat_natCast]
    exact ⟨fun h => h.2.2, fun h => ⟨h47, ⟨GK.out, FT.out⟩, h⟩⟩
  have C3 := hide (fun W h1 h2 h3 => l7Own_calls (.slice ap P.length cp) (.slice ah H.length ch) (.slice ab B.length cb) P H B W h1 h2 h3 ⟨by omega, n24⟩ (by rw [GK.out.2.1]; omega) (by rw [GK.out.2.2.1]; omega))
  have C4 := hide (fun W => l8Pieces_calls S W h47)
  have PC := hide (pcN_ci h47)
  have PO := hide (pcN_ok h47)
  have PL := hide (pcN_length S)
  have EH : Hid (wsH H (a : Int) E S = wrTo H a E (pcN S) ks5 5) := by show wrTo H (a : Int).toNat E (pcN S) ks5 5 = _; rw [Int.toNat_natCast]
  rw [EH.out]
  have S28 := hide GK.out.2.2.2.1
  have LH := hide GK.out.2.1
  have LB := hide GK.out.2.2.1
  generalize pcN S = m at *
  have h47' : ¬ (47 : Int) < (S.size : Int) := by omega
  have WL : Hid (∀ k, (wrTo H a E m ks5 k).length = P.length) := fun k => by rw [wrTo_length]; exact LH.out
  generalize hnp : P.length = np at *
  generalize hnh : H.length = nh at *
  generalize hnb : B.length = nb at *
  have NP := hide hnp
  have NB := hide hnb
  clear HOK HF FT EH FALSE HG hnp hnh hnb
  go_enter Tryz.func47, Tryz.ntmps47
  go_wp2_with fail
  refine (C1.out _ (RP.out.below A0.out.below) (RH.out.below A0.out.below) (RB.out.below A0.out.below)).mono ?_
  rintro e w1 ⟨rfl, q⟩
  have A1 := hide (A0.out.step q)
  clear q A0
  obtain ⟨c0, c1, c2⟩ := (A1.out.atBox 1 rfl).c3
  go_wp2_with fail
  refine (C2.out _ _ _ _ _).mono ?_
  rintro e w2 ⟨rfl, q⟩
  have A2 := hide (A1.out.step q)
  clear q A1 c0 c1 c2
  go_wp2_with fail
  refine (l1In_yes _ _ _ _ (by omega) (by omega)).mono ?_
  rintro e w3 ⟨rfl, rfl⟩
  obtain ⟨c0, c1, c2⟩ := (A2.out.atBox 1 rfl).c3
  go_wp2_with fail
  refine (C3.out _ (RP.out.below A2.out.below) (RH.out.below A2.out.below) (RB.out.below A2.out.below)).mono ?_
  rintro e w4 ⟨p4, h4, b4, rfl, d4, q⟩
  obtain ⟨ap4, cp4, ah4, ch4, ab4, cb4, e1, e2, e3⟩ := d4.sl
  rw [NP.out] at e1
  rw [show H.length = np by have := WL.out 0; exact this] at e2
  rw [NB.out, LB.out] at e3
  subst e1
  subst e2
  subst e3
  have A3 := hide ((A2.out.add q (TDsk.st _ _ _ _ _ _) d4).box #[.slice ap4 np cp4, .slice ah4 np ch4, .slice ab4 np cb4] 26)
  clear q d4 A2 c0 c1 c2
  obtain ⟨go, hgo⟩ : ∃ g, g = w4.heap.size := ⟨_, rfl⟩
  rw [← hgo] at A3
  have HGO := hide hgo
  clear hgo
  go_wp2_with fail
  refine (C4.out _).mono ?_
  rintro e w5 ⟨v5, rfl, m5, q⟩
  rw [← PC.out] at m5
  have A4 := hide (A3.out.add q (TMat.st v5 (m.map ci)) m5)
  have RM := m5.rd
  obtain ⟨am, cm, hvm, _⟩ := RM
  rw [List.length_map, PL.out] at hvm
  subst hvm
  clear q m5 A3
  go_wp2
  rw [← HGO.out]
  go_loopw [11, 12, 13, 14, 40] (fun _ _ _ _ vi wr => ∃ k : Nat, k ≤ 5 ∧ vi = .int .i64 k ∧ Hand w wr [TMat (.slice am 5 cm) (m.map ci), TBox go #[.slice ap4 np cp4, .slice ah4 np ch4, .slice ab4 np cb4] 26, TDsk (.slice ap4 np cp4) (.slice ah4 np ch4) (.slice ab4 np cb4) P (wrTo H a E m ks5 k) B, TBox (w.heap.size + 1) nil3 26, TBox w.heap.size #[.slice ap np cp, .slice ah nh ch, .slice ab nb cb] 26] ∧ wOk B a E ks5 k) (fun _ _ _ _ vi _ => 5 - (intOf vi).toNat)
  case atStart => exact ⟨0, Nat.zero_le _, rfl, A4.out, fun j hj => by omega⟩
  case round =>
    clear A4
    obtain ⟨k, hk, rfl, hH, hw⟩ := hrel
    have AH := hide hH
    have WO := hide hw
    clear hH hw
    by_cases hlt : k < 5
    · have hlt' : (k : Int) < 5 := by omega
      obtain ⟨y1, y2, mm⟩ := AH.out.get 0 rfl
      obtain ⟨mb, mo, u, hma, _, hmc, hu⟩ := mm.rd.rowAt k (by rw [List.length_map, PL.out]; exact hlt)
      subst hma
      obtain ⟨r1, r2⟩ := PO.out k hlt
      have hmg : (m.map ci).getD k [] = ci (m.getD k []) := by
        simp only [List.getD_eq_getElem?_getD]
        rw [List.getElem?_map, List.getElem?_eq_getElem (by rw [PL.out]; exact hlt)]
        rfl
      rw [hmg] at hu
      have U := hide hu
      obtain ⟨ua, uc, hu2, _⟩ := hu
      rw [Gf.ci_length, r1] at hu2
      subst hu2
      have WS : Hid (wrTo H a E m ks5 (k + 1) = (wrTo H a E m ks5 k).set (a + k) (scT (a + k) E (m.getD k []))) := by
        show (wrTo H a E m ks5 k).set (a + ks5.getD k 0) (scT (a + ks5.getD k 0) E (m.getD (ks5.getD k 0) [])) = _
        rw [ks5_get k hlt]
      have WK : Hid (∀ hh : B.getD (a + k) false = false, wOk B a E ks5 (k + 1)) := fun hh j hj => by
        by_cases e : j = k
        · subst e
          rw [ks5_get j hlt]
          exact ⟨hE, hh⟩
        · exact WO.out j (by omega)
      have WN : Hid (ok = true → B.getD (a + k) false = false) := fun e => by
        have := (OK3.out.1 e k hlt).2
        rw [ks5_get k hlt] at this
        exact this
      have LW := hide (WL.out k)
      obtain ⟨c0, c1, c2⟩ := (AH.out.atBox 1 rfl).c3
      obtain ⟨lo, hi, d3, lw, hw3, put⟩ := AH.out.open 2 rfl
      have D3 : Hid (DskV wr lo hi (.slice ap4 np cp4) (.slice ah4 np ch4) (.slice ab4 np cb4) P (wrTo H a E m ks5 k) B) := d3
      have PUT := hide put
      obtain ⟨y, hy⟩ : ∃ y : Bool, y = true ↔ B.getD (a + k) false = false := by
        cases B.getD (a + k) false
        · exact ⟨true, by simp⟩
        · exact ⟨false, by simp⟩
      have E5 : Hid ((a : Int) + (k : Int) = ((a + k : Nat) : Int)) := by show _ = _; omega
      have C5 := hide (l8Put_calls (.slice ap4 np cp4) (.slice ah4 np ch4) (.slice ab4 np cb4) P (wrTo H a E m ks5 k) B (a + k) E (.slice ua 16 uc) (m.getD k []) lo hi np y wr D3.out hw3 NP.out LW.out (by rw [NB.out, LB.out]) ⟨by omega, by omega⟩ (by omega) hE U.out r1 r2 hy (fun i hi => S28.out i (by rw [← NP.out]; exact hi)))
      generalize wrTo H a E m ks5 k = Hk at *
      generalize scT (a + k) E (m.getD k []) = TT at *
      clear d3 put mm y1 y2 hmg r1 r2
      go_wp2_with fail
      rw [E5.out]
      refine C5.out.mono ?_
      rintro e w6 ⟨rfl, sp1, sp2⟩
      cases y with
      | true =>
        have A5 := hide ((PUT.out w6 (TDsk (.slice ap4 np cp4) (.slice ah4 np ch4) (.slice ab4 np cb4) P (Hk.set (a + k) TT) B) (TDsk.st _ _ _ _ _ _) (sp1 rfl) sp2).step (below_box w6 (.cells #[.slice ap4 np cp4, .slice ah4 np ch4, .slice ab4 np cb4] 26)))
        have WKK := hide (WK.out (hy.1 rfl))
        obtain ⟨x0, x1, x2⟩ := (BoxAt.new w6 #[.slice ap4 np cp4, .slice ah4 np ch4, .slice ab4 np cb4] 26).c3
        obtain ⟨d0, d1, d2⟩ := (A5.out.atBox 1 rfl).c3
        have g0 := (A5.out.atBox 1 rfl).frozen 0
        have g1 := (A5.out.atBox 1 rfl).frozen 1
        have g2 := (A5.out.atBox 1 rfl).frozen 2
        have AZ := hide (A5.out.store3 1 rfl (.slice ap4 np cp4) (.slice ah4 np ch4) (.slice ab4 np cb4))
        clear sp1 sp2 PUT D3 C5 AH c0 c1 c2 hw3 lw hy WK WN U A5 hmc
        go_wp2
        go_roundw
        case rel =>
          refine ⟨k + 1, by omega, by go_num, ?_, WKK.out⟩
          rw [WS.out]
          exact AZ.out
        case measure => simp [intOf]; omega
      | false =>
        have okf : ok = false := by
          cases ok with
          | false => rfl
          | true => have := hy.2 (WN.out rfl); simp at this
        subst okf
        have A5 := hide ((PUT.out w6 (fun _ _ _ => True) (fun _ _ _ _ _ _ _ _ _ => trivial) trivial sp2).step (below_box w6 (.cells #[.slice ap4 np cp4, .slice ah4 np ch4, .slice ab4 np cb4] 26)))
        clear sp1 sp2 PUT D3 C5 AH c0 c1 c2 hw3 lw hy WK WN U hmc
        obtain ⟨d0, d1, d2⟩ := (A5.out.atBox 3 rfl).c3
        have g0 := (A5.out.atBox 3 rfl).frozen 0
        have g1 := (A5.out.atBox 3 rfl).frozen 1
        have g2 := (A5.out.atBox 3 rfl).frozen 2
        have AZ := hide (A5.out.store3 3 rfl (.slice none 0 0) (.slice none 0 0) (.slice none 0 0))
        go_wp2
        exact bodyPost_ret (res_dsk2 rfl _ _ (w.heap.size + 1) _ _ _ (0, 0) rfl (AZ.out.atBox 3 rfl)) rfl ⟨_, _, _, rfl, DskV.nil _ _ _, AZ.out.below⟩
    · obtain rfl : k = 5 := by omega
      have okt : ok = true := OK3.out.2 WO.out
      subst okt
      obtain ⟨c0, c1, c2⟩ := (AH.out.atBox 1 rfl).c3
      obtain ⟨d0, d1, d2⟩ := (AH.out.atBox 3 rfl).c3
      have g0 := (AH.out.atBox 3 rfl).frozen 0
      have g1 := (AH.out.atBox 3 rfl).frozen 1
      have g2 := (AH.out.atBox 3 rfl).frozen 2
      have AZ := hide (AH.out.store3 3 rfl (.slice ap4 np cp4) (.slice ah4 np ch4) (.slice ab4 np cb4))
      go_wp2
      obtain ⟨lo, hi, d3, lw, hw3, _⟩ := AZ.out.open 2 rfl
      have D3 : DskV _ lo hi (.slice ap4 np cp4) (.slice ah4 np ch4) (.slice ab4 np cb4) P (wrTo H a E m ks5 5) B := d3
      exact bodyPost_ret (res_dsk2 rfl _ _ (w.heap.size + 1) _ _ _ (0, 0) rfl (AZ.out.atBox 3 rfl)) rfl ⟨_, _, _, rfl, D3.wider lw hw3, AZ.out.below⟩
end Go.Proofs.YtbgadbokejaomaaGreatDoor

namespace Go.Proofs.YtbgadbokejaomaaGreatDoor
open Go.RowKit
set_option linter.unusedVariables false

theorem ws_len {P H : List ByteArray} {B : List Bool} {A E : Int} {S : ByteArray} {ok : Bool} (h : ok = true ↔ wsOk P H B A E S) : SzD (ifT ok P) (ifT ok (wsH H A E S)) (ifT ok B) := by
  unfold ifT
  cases ok with
  | false => exact ⟨by simp, by simp, by simp⟩
  | true =>
    have g := (h.1 rfl).2.1.1
    have h1 := g.1.2
    have h2 := g.2.1
    have h3 := g.2.2.1
    refine ⟨?_, ?_, ?_⟩
    · show P.length ≤ _
      omega
    · show (wsH H A E S).length ≤ _
      unfold wsH
      rw [wrTo_length]
      omega
    · show B.length ≤ _
      omega

set_option maxRecDepth 100000 in
set_option maxHeartbeats 1600000 in
theorem fnExactWriteStripe_walk (p h b : Value) (P H : List ByteArray) (B : List Bool) (A E : Int) (S : ByteArray) (w : World) (hT : Gf.Tab w) (hp : RdT w p P) (hh : RdT w h H) (hb : RdZ w b B) (hA : (Lit.int .i64 A).wf = true) (hE : (Lit.int .i64 E).wf = true) (hs : S.size ≤ maxLen) :
    Calls Tryz.prog 10 #[.agg #[p, h, b], .int .i64 A, .int .i64 E, .string S] w fun e w' => e = .returned (.bool true) ∧ Below w.heap.size w w' := by
  have RP := hide hp
  have RH := hide hh
  have RB := hide hb
  have TT := hide hT
  have ms := hs
  unfold maxLen at ms
  by_cases ns : S.size ≤ 1048576
  case neg =>
    have h' : (1048576 : Int) < (S.size : Int) := by omega
    have B0 := hide (below_box w (.cells #[p, h, b] 37))
    clear hp hh hb
    go_enter Tryz.func10, Tryz.ntmps10
    go_wp2
    go_ret
    exact ⟨rfl, B0.out⟩
  have ns' : ¬ (1048576 : Int) < (S.size : Int) := by omega
  obtain ⟨ok, hok⟩ := ws_bool P H B A E S
  have SX := hide (ws_len (E := E) hok)
  have C1 := hide (fun V p h b h1 h2 h3 => sWriteStripe_calls p h b P H B A E S ok V hok hA hs h1 h2 h3)
  have C2 := hide (fun V p h b hT h1 h2 h3 => writeStripe_calls p h b P H B A E S ok V hT hok hA hs h1 h2 h3)
  generalize ifT ok P = X at C1 C2 SX
  generalize ifT ok (wsH H A E S) = Y at C1 C2 SX
  generalize ifT ok B = Z at C1 C2 SX
  clear hp hh hb hok hT
  have A0 := hide ((Hand.start w).box #[p, h, b] 37)
  go_enter Tryz.func10, Tryz.ntmps10
  go_wp2_with fail
  refine (szDisk_calls p h b P H B _ (RP.out.below A0.out.below) (RH.out.below A0.out.below) (RB.out.below A0.out.below)).mono ?_
  rintro e w1 ⟨⟨r, rfl, hr⟩, q⟩
  have A1 := hide (A0.out.step q)
  clear A0 q
  by_cases r0 : r < 0
  · go_wp2
    go_ret
    exact ⟨rfl, A1.out.below⟩
  have SZ := hide (hr.resolve_left r0).2.2
  have r1 := (hr.resolve_left r0).2.1
  clear hr
  obtain ⟨caD0, caD1, caD2⟩ := (A1.out.atBox 0 rfl).c3
  go_wp2_with fail
  refine (toDisk_calls p h b P H B _ (RP.out.below A1.out.below) (RH.out.below A1.out.below) (RB.out.below A1.out.below) SZ.out).mono ?_
  rintro e w2 ⟨px, hx, bx, rfl, d, q⟩
  obtain ⟨apx, cpx, ahx, chx, abx, cbx, rfl, rfl, rfl⟩ := d.sl
  have ltx := q.size
  (try simp only [World.size_alloc] at ltx)
  have A2 := hide (A1.out.add q (TDsk.st _ _ _ _ _ _) d)
  clear A1 caD0 caD1 caD2 q d
  obtain ⟨lox, hix, dx⟩ := A2.out.get 0 rfl
  have Dx : Hid (DskV _ lox hix _ _ _ P H B) := dx
  clear dx
  go_wp2_with fail
  refine (C1.out _ _ _ _ Dx.out.rp Dx.out.rh Dx.out.rb).mono ?_
  rintro e w3 ⟨pyy, hyy, byy, rfl, d, q⟩
  obtain ⟨apyy, cpyy, ahyy, chyy, abyy, cbyy, rfl, rfl, rfl⟩ := d.sl
  have ltyy := q.size
  (try simp only [World.size_alloc] at ltyy)
  have A3 := hide ((A2.out.add q (TDsk.st _ _ _ _ _ _) d).box #[.slice apyy X.length cpyy, .slice ahyy Y.length chyy, .slice abyy Z.length cbyy] 26)
  clear A2 Dx lox hix q d
  obtain ⟨caD0, caD1, caD2⟩ := (A3.out.atBox 3 rfl).c3
  go_wp2_with fail
  refine (toDisk_calls p h b P H B _ (RP.out.below A3.out.below) (RH.out.below A3.out.below) (RB.out.below A3.out.below) SZ.out).mono ?_
  rintro e w4 ⟨pz, hz, bz, rfl, d, q⟩
  obtain ⟨apz, cpz, ahz, chz, abz, cbz, rfl, rfl, rfl⟩ := d.sl
  have ltz := q.size
  (try simp only [World.size_alloc] at ltz)
  have A4 := hide ((A3.out.add q (TDsk.st _ _ _ _ _ _) d).box #[.slice apz P.length cpz, .slice ahz H.length chz, .slice abz B.length cbz] 26)
  clear A3 caD0 caD1 caD2 q d
  obtain ⟨cx00, cx01, cx02⟩ := (A4.out.atBox 0 rfl).c3
  obtain ⟨loz, hiz, dz⟩ := A4.out.get 1 rfl
  have Dz : Hid (DskV _ loz hiz _ _ _ P H B) := dz
  clear dz
  go_wp2_with fail
  refine (C2.out _ _ _ _ (Gf.Tab.below TT.out A4.out.below) Dz.out.rp Dz.out.rh Dz.out.rb).mono ?_
  rintro e w5 ⟨pu, hu, bu, rfl, d, q⟩
  obtain ⟨apu, cpu, ahu, chu, abu, cbu, rfl, rfl, rfl⟩ := d.sl
  have ltu := q.size
  (try simp only [World.size_alloc] at ltu)
  have A5 := hide ((A4.out.add q (TDsk.st _ _ _ _ _ _) d).box #[.slice apu X.length cpu, .slice ahu Y.length chu, .slice abu Z.length cbu] 26)
  clear A4 cx00 cx01 cx02 Dz loz hiz q d
  obtain ⟨cw00, cw01, cw02⟩ := (A5.out.atBox 4 rfl).c3
  obtain ⟨cg00, cg01, cg02⟩ := (A5.out.atBox 0 rfl).c3
  obtain ⟨lou, hiu, du⟩ := A5.out.get 1 rfl
  have Du : Hid (DskV _ lou hiu _ _ _ X Y Z) := du
  clear du
  obtain ⟨loyy, hiyy, dyy⟩ := A5.out.get 5 rfl
  have Dyy : Hid (DskV _ loyy hiyy _ _ _ X Y Z) := dyy
  clear dyy
  go_wp2_with fail
  refine (eqDisk_same _ _ _ _ _ _ X Y Z _ Du.out.rp Du.out.rh Du.out.rb Dyy.out.rp Dyy.out.rh Dyy.out.rb).mono ?_
  rintro e w6 ⟨rfl, q⟩
  have A6 := hide (A5.out.step q)
  clear A5 cw00 cw01 cw02 cg00 cg01 cg02 Du lou hiu Dyy loyy hiyy q
  go_wp2
  obtain ⟨lo, hi, dd⟩ := A6.out.get 3 rfl
  have D5 : Hid (DskV _ lo hi _ _ _ P H B) := dd
  clear dd
  have F : Hid (∀ w', Below w6.heap.size w6 w' → (w'.cell? ⟨w.heap.size, 0, none⟩ = some p ∧ w'.cell? ⟨w.heap.size, 1, none⟩ = some h ∧ w'.cell? ⟨w.heap.size, 2, none⟩ = some b) ∧ (w'.cell? ⟨w4.heap.size, 0, none⟩ = some (.slice apz P.length cpz) ∧ w'.cell? ⟨w4.heap.size, 1, none⟩ = some (.slice ahz H.length chz) ∧ w'.cell? ⟨w4.heap.size, 2, none⟩ = some (.slice abz B.length cbz))) :=
    fun w' hb => ⟨((A6.out.step hb).atBox 7 rfl).c3, ((A6.out.step hb).atBox 2 rfl).c3⟩
  go_region_held3 (fun w' => (w'.cell? ⟨w.heap.size, 0, none⟩ = some p ∧ w'.cell? ⟨w.heap.size, 1, none⟩ = some h ∧ w'.cell? ⟨w.heap.size, 2, none⟩ = some b) ∧ (w'.cell? ⟨w4.heap.size, 0, none⟩ = some (.slice apz P.length cpz) ∧ w'.cell? ⟨w4.heap.size, 1, none⟩ = some (.slice ahz H.length chz) ∧ w'.cell? ⟨w4.heap.size, 2, none⟩ = some (.slice abz B.length cbz))) (first | exact F.out _ (Below.refl _ _).drew | exact F.out _ B2.out | exact F.out _ B1.out)
    ((first | (go_at_call 50; refine (eqDisk_same _ _ _ _ _ _ P H B _ (D5.out.below B1.out).rp (D5.out.below B1.out).rh (D5.out.below B1.out).rb D6.out.rp D6.out.rh D6.out.rb).mono ?_; rintro e' wr7 ⟨rfl, b7⟩; have B2 := hide (B1.out.trans (b7.mono B1.out.size)); clear b7) | (go_at_call 48; refine (toDisk_calls p h b P H B _ (RP.out.below (A6.out.step (Below.refl _ _).drew).below) (RH.out.below (A6.out.step (Below.refl _ _).drew).below) (RB.out.below (A6.out.step (Below.refl _ _).drew).below) SZ.out).mono ?_; rintro e' wr6 ⟨p3, h3, b3, rfl, d6, b6⟩; have D6 := hide d6; have B1 := hide ((Below.refl w6.heap.size w6).drew.trans b6); clear b6 d6)))
  have A7 := hide (A6.out.step B2.out)
  clear A6 F B1 B2 D5 D6 lo hi
  have zb : P.length ≤ 1048576 ∧ H.length ≤ 1048576 ∧ B.length ≤ 1048576 := SZ.out
  obtain ⟨cx00, cx01, cx02⟩ := (A7.out.atBox 2 rfl).c3
  obtain ⟨loz, hiz, dz, lw, hw, put⟩ := A7.out.open 3 rfl
  have Dz : Hid (DskV _ loz hiz _ _ _ P H B) := dz
  have PUT := hide put
  clear dz put lw
  go_wp2_with fail
  refine (markDisk_calls _ _ _ P H B 1 loz hiz _ Dz.out hw (by omega) (by omega) SZ.out).mono ?_
  rintro e w8 ⟨rfl, d4, q⟩
  have A8 := hide (PUT.out _ (TDsk _ _ _ _ _ _) (TDsk.st _ _ _ _ _ _) d4 q)
  clear A7 cx00 cx01 cx02 Dz loz hiz PUT hw q d4
  have kk : ¬ ((1 + P.length + H.length + B.length : Nat) : Int) < 0 := by omega
  obtain ⟨cg00, cg01, cg02⟩ := (A8.out.atBox 0 rfl).c3
  obtain ⟨cw00, cw01, cw02⟩ := (A8.out.atBox 4 rfl).c3
  obtain ⟨lou, hiu, du⟩ := A8.out.get 1 rfl
  have Du : Hid (DskV _ lou hiu _ _ _ X Y Z) := du
  clear du
  obtain ⟨loyy, hiyy, dyy⟩ := A8.out.get 5 rfl
  have Dyy : Hid (DskV _ loyy hiyy _ _ _ X Y Z) := dyy
  clear dyy
  go_wp2_with fail
  refine (eqDisk_same _ _ _ _ _ _ X Y Z _ Du.out.rp Du.out.rh Du.out.rb Dyy.out.rp Dyy.out.rh Dyy.out.rb).mono ?_
  rintro e w9 ⟨rfl, q⟩
  have A9 := hide (A8.out.step q)
  clear A8 cg00 cg01 cg02 cw00 cw01 cw02 Du lou hiu Dyy loyy hiyy q
  obtain ⟨cg00, cg01, cg02⟩ := (A9.out.atBox 0 rfl).c3
  obtain ⟨lou, hiu, du, lw, hw, put⟩ := A9.out.open 1 rfl
  have Du : Hid (DskV _ lou hiu _ _ _ X Y Z) := du
  have PUT := hide put
  clear du put lw
  go_wp2_with fail
  refine (markDisk_calls _ _ _ X Y Z 1 lou hiu _ Du.out hw (by omega) (by omega) SX.out).mono ?_
  rintro e w10 ⟨rfl, d4, q⟩
  have A10 := hide (PUT.out _ (TDsk _ _ _ _ _ _) (TDsk.st _ _ _ _ _ _) d4 q)
  clear A9 cg00 cg01 cg02 Du lou hiu PUT hw q d4
  obtain ⟨cg00, cg01, cg02⟩ := (A10.out.atBox 0 rfl).c3
  obtain ⟨lou, hiu, du⟩ := A10.out.get 1 rfl
  have Du : Hid (DskV _ lou hiu _ _ _ (marksT 1 X.length) (marksT (1 + X.length) Y.length) (marksZ ((1 + X.length + Y.length : Nat) : Int) Z.length)) := du
  clear du
  go_wp2_with fail
  refine (heldDisk_calls _ _ _ X.length Y.length Z.length 1 _ Du.out.rp Du.out.rh Du.out.rb (by omega) (by omega) SX.out.1 SX.out.2.1 SX.out.2.2).mono ?_
  rintro e w11 ⟨rfl, q⟩
  have A11 := hide (A10.out.step q)
  clear A10 cg00 cg01 cg02 Du lou hiu q
  obtain ⟨caD0, caD1, caD2⟩ := (A11.out.atBox 7 rfl).c3
  go_wp2_with fail
  refine (toDisk_calls p h b P H B _ (RP.out.below A11.out.below) (RH.out.below A11.out.below) (RB.out.below A11.out.below) SZ.out).mono ?_
  rintro e w12 ⟨pq1, hq1, bq1, rfl, d, q⟩
  obtain ⟨apq1, cpq1, ahq1, chq1, abq1, cbq1, rfl, rfl, rfl⟩ := d.sl
  have ltq1 := q.size
  (try simp only [World.size_alloc] at ltq1)
  have A12 := hide (A11.out.add q (TDsk.st _ _ _ _ _ _) d)
  clear A11 caD0 caD1 caD2 q d
  obtain ⟨loq1, hiq1, dq1⟩ := A12.out.get 0 rfl
  have Dq1 : Hid (DskV _ loq1 hiq1 _ _ _ P H B) := dq1
  clear dq1
  go_wp2_with fail
  refine (C2.out _ _ _ _ (Gf.Tab.below TT.out A12.out.below) Dq1.out.rp Dq1.out.rh Dq1.out.rb).mono ?_
  rintro e w13 ⟨pv, hv, bv, rfl, d, q⟩
  obtain ⟨apv, cpv, ahv, chv, abv, cbv, rfl, rfl, rfl⟩ := d.sl
  have ltv := q.size
  (try simp only [World.size_alloc] at ltv)
  have A13 := hide ((A12.out.add q (TDsk.st _ _ _ _ _ _) d).box #[.slice apv X.length cpv, .slice ahv Y.length chv, .slice abv Z.length cbv] 26)
  clear A12 Dq1 loq1 hiq1 q d
  obtain ⟨cw00, cw01, cw02⟩ := (A13.out.atBox 7 rfl).c3
  obtain ⟨ch00, ch01, ch02⟩ := (A13.out.atBox 0 rfl).c3
  obtain ⟨lov, hiv, dv⟩ := A13.out.get 1 rfl
  have Dv : Hid (DskV _ lov hiv _ _ _ X Y Z) := dv
  clear dv
  obtain ⟨loyy, hiyy, dyy⟩ := A13.out.get 8 rfl
  have Dyy : Hid (DskV _ loyy hiyy _ _ _ X Y Z) := dyy
  clear dyy
  go_wp2_with fail
  refine (eqDisk_same _ _ _ _ _ _ X Y Z _ Dv.out.rp Dv.out.rh Dv.out.rb Dyy.out.rp Dyy.out.rh Dyy.out.rb).mono ?_
  rintro e w14 ⟨rfl, q⟩
  have A14 := hide (A13.out.step q)
  clear A13 cw00 cw01 cw02 ch00 ch01 ch02 Dv lov hiv Dyy loyy hiyy q
  obtain ⟨cg00, cg01, cg02⟩ := (A14.out.atBox 3 rfl).c3
  obtain ⟨lou, hiu, du⟩ := A14.out.get 4 rfl
  have Du : Hid (DskV _ lou hiu _ _ _ (marksT 1 X.length) (marksT (1 + X.length) Y.length) (marksZ ((1 + X.length + Y.length : Nat) : Int) Z.length)) := du
  clear du
  go_wp2_with fail
  refine (heldDisk_calls _ _ _ X.length Y.length Z.length 1 _ Du.out.rp Du.out.rh Du.out.rb (by omega) (by omega) SX.out.1 SX.out.2.1 SX.out.2.2).mono ?_
  rintro e w15 ⟨rfl, q⟩
  have A15 := hide (A14.out.step q)
  clear A14 cg00 cg01 cg02 Du lou hiu q
  go_wp2
  go_ret
  exact ⟨rfl, A15.out.below⟩
end Go.Proofs.YtbgadbokejaomaaGreatDoor

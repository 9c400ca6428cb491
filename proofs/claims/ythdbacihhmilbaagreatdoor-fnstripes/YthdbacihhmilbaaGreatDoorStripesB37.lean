/-
  WriteStripe of the model, at every disk, numbers and text. No condition but that a number is one of 64 bits. A stripe mended: which sectors are written again, what is held then, and the program's withoutBad.
-/
import Derived.Test.YthdbacihhmilbaaGreatDoorStripesB36
import Derived.Test.YthdbacihhmilbaaGreatDoorStripesB30
import Derived.Test.YthdbacihhmilbaaGreatDoorStripesB22
import Derived.Test.YthdbacihhmilbaaGreatDoorStripesB0
set_option linter.unusedVariables false
set_option maxRecDepth 100000
set_option maxHeartbeats 6400000
namespace Go.Proofs.YthdbacihhmilbaaGreatDoor
open Go.RowKit
open Gf (ci nat)
def TMat (v : Value) (m : List (List Int)) : Tg := fun lo hi w => Mat w lo hi v m
theorem TMat.st (v : Value) (m : List (List Int)) : (TMat v m).st := fun lo hi a b w w' h hc hd => by
 obtain ⟨vs, hv⟩ := h
 exact ⟨vs, hv.chg hc hd⟩
theorem sWriteStripe_calls (p h b : Value) (P H : List ByteArray) (B : List Bool) (A E : Int) (S : ByteArray) (ok : Bool) (w : World) (hok : ok = true ↔ wsOk P H B A E S) (hwf : (Lit.int .i64 A).wf = true) (hS : S.size ≤ maxLen) (hp : RdT w p P) (hh : RdT w h H) (hb : RdZ w b B) :
    Calls Tryz.prog 7 #[.agg #[p, h, b], .int .i64 A, .int .i64 E, .string S] w fun e w' => ∃ p' h' b', e = .returned (.tuple #[.agg #[p', h', b'], .bool ok]) ∧ DskV w' w.heap.size w'.heap.size p' h' b' (ifT ok P) (ifT ok (wsH H A E S)) (ifT ok B) ∧ Below w.heap.size w w' := by
 unfold maxLen at hS
 have RP := hide hp
 have RH := hide hh
 have RB := hide hb
 have HOK := hide hok
 obtain ⟨g, hg⟩ := gk_bool' P H B
 have HG := hide hg
 have C1 := hide (fun W h1 h2 h3 => sGoodDisk_calls p h b P H B g W hg h1 h2 h3)
 have A0 : Hid (Hand w ((w.alloc (.cells #[p, h, b] 26)).alloc (.cells nil3 26)) [TBox (w.heap.size + 1) nil3 26, TBox w.heap.size #[p, h, b] 26]) := by
  show Hand _ _ _
  have := ((Hand.start w).box #[p, h, b] 26).box nil3 26
  simpa using this
 obtain ⟨ap, cp, rfl, mp, _⟩ := hp.sl
 obtain ⟨ah, ch, rfl, mh, _⟩ := hh.sl
 obtain ⟨ab, cb, rfl, mb, _⟩ := hb.sl
 have FALSE : Hid (¬ wsOk P H B A E S → ok = false) := fun h => by
  cases ok with
  | false => rfl
  | true => exact absurd (HOK.out.1 rfl) h
 clear hp hh hb hok hg mp mh mb hwf
 cases g with
 | false =>
  obtain rfl := FALSE.out (fun h' => by have := HG.out.2 h'.2.1.1; simp at this)
  obtain ⟨c0, c1, c2⟩ := (A0.out.atBox 1 rfl).c3
  go_enter Tryz.func7, Tryz.ntmps7
  go_wp2_with fail
  refine (C1.out _ (RP.out.below A0.out.below) (RH.out.below A0.out.below) (RB.out.below A0.out.below)).mono ?_
  rintro e w1 ⟨rfl, q⟩
  have A1 := hide (A0.out.step q)
  clear q A0
  obtain ⟨d0, d1, d2⟩ := (A1.out.atBox 0 rfl).c3
  have g0 := (A1.out.atBox 0 rfl).frozen 0
  have g1 := (A1.out.atBox 0 rfl).frozen 1
  have g2 := (A1.out.atBox 0 rfl).frozen 2
  have AZ := hide (A1.out.store3 0 rfl (.slice none 0 0) (.slice none 0 0) (.slice none 0 0))
  go_wp2
  exact bodyPost_ret (res_dsk2 rfl _ _ (w.heap.size + 1) _ _ _ (0, 0) rfl (AZ.out.atBox 0 rfl)) rfl ⟨_, _, _, rfl, DskV.nil _ _ _, AZ.out.below⟩
 | true =>
 have GK := hide (HG.out.1 rfl)
 have n24 : P.length ≤ 24 := GK.out.1.2
 obtain ⟨f, hf⟩ : ∃ f : Bool, f = true ↔ ftP P A := by
  by_cases hx : ftP P A
  ·exact ⟨true, by simp [hx]⟩
  ·exact ⟨false, by simp [hx]⟩
 have C2 := hide (fun W x y z t => l8Fits_calls x y z t P A f W hf n24)
 have HF := hide hf
 clear hf
 obtain ⟨c0, c1, c2⟩ := (A0.out.atBox 1 rfl).c3
 cases f with
 | false =>
  obtain rfl := FALSE.out (fun h' => by have := HF.out.2 h'.2.1.2; simp at this)
  go_enter Tryz.func7, Tryz.ntmps7
  go_wp2_with fail
  refine (C1.out _ (RP.out.below A0.out.below) (RH.out.below A0.out.below) (RB.out.below A0.out.below)).mono ?_
  rintro e w1 ⟨rfl, q⟩
  have A1 := hide (A0.out.step q)
  clear q A0
  obtain ⟨c0, c1, c2⟩ := (A1.out.atBox 1 rfl).c3
  go_wp2_with fail
  refine (C2.out _ _ _ _ _).mono ?_
  rintro e w2 ⟨rfl, q⟩
  have A2 := hide (A1.out.step q)
  clear q A1 c0 c1 c2
  obtain ⟨d0, d1, d2⟩ := (A2.out.atBox 0 rfl).c3
  have g0 := (A2.out.atBox 0 rfl).frozen 0
  have g1 := (A2.out.atBox 0 rfl).frozen 1
  have g2 := (A2.out.atBox 0 rfl).frozen 2
  have AZ := hide (A2.out.store3 0 rfl (.slice none 0 0) (.slice none 0 0) (.slice none 0 0))
  go_wp2
  exact bodyPost_ret (res_dsk2 rfl _ _ (w.heap.size + 1) _ _ _ (0, 0) rfl (AZ.out.atBox 0 rfl)) rfl ⟨_, _, _, rfl, DskV.nil _ _ _, AZ.out.below⟩
 | true =>
 have FT := hide (HF.out.1 rfl)
 by_cases hE : 0 ≤ E ∧ E ≤ 60000
 case neg =>
  obtain rfl := FALSE.out (fun h' => hE (h'.2.2 0 (by omega)).1)
  go_enter Tryz.func7, Tryz.ntmps7
  go_wp2_with fail
  refine (C1.out _ (RP.out.below A0.out.below) (RH.out.below A0.out.below) (RB.out.below A0.out.below)).mono ?_
  rintro e w1 ⟨rfl, q⟩
  have A1 := hide (A0.out.step q)
  clear q A0
  obtain ⟨c0, c1, c2⟩ := (A1.out.atBox 1 rfl).c3
  go_wp2_with fail
  refine (C2.out _ _ _ _ _).mono ?_
  rintro e w2 ⟨rfl, q⟩
  have A2 := hide (A1.out.step q)
  clear q A1 c0 c1 c2
  go_wp2_with fail
  refine (l1In_no _ _ _ _ (by omega)).mono ?_
  rintro e w3 ⟨rfl, rfl⟩
  obtain ⟨d0, d1, d2⟩ := (A2.out.atBox 0 rfl).c3
  have g0 := (A2.out.atBox 0 rfl).frozen 0
  have g1 := (A2.out.atBox 0 rfl).frozen 1
  have g2 := (A2.out.atBox 0 rfl).frozen 2
  have AZ := hide (A2.out.store3 0 rfl (.slice none 0 0) (.slice none 0 0) (.slice none 0 0))
  go_wp2
  exact bodyPost_ret (res_dsk2 rfl _ _ (w.heap.size + 1) _ _ _ (0, 0) rfl (AZ.out.atBox 0 rfl)) rfl ⟨_, _, _, rfl, DskV.nil _ _ _, AZ.out.below⟩
 by_cases h47 : S.size ≤ 47
 case neg =>
  obtain rfl := FALSE.out (fun h' => h47 h'.1)
  have h' : (47 : Int) < (S.size : Int) := by omega
  go_enter Tryz.func7, Tryz.ntmps7
  go_wp2_with fail
  refine (C1.out _ (RP.out.below A0.out.below) (RH.out.below A0.out.below) (RB.out.below A0.out.below)).mono ?_
  rintro e w1 ⟨rfl, q⟩
  have A1 := hide (A0.out.step q)
  clear q A0
  obtain ⟨c0, c1, c2⟩ := (A1.out.atBox 1 rfl).c3
  go_wp2_with fail
  refine (C2.out _ _ _ _ _).mono ?_
  rintro e w2 ⟨rfl, q⟩
  have A2 := hide (A1.out.step q)
  clear q A1 c0 c1 c2
  go_wp2_with fail
  refine (l1In_yes _ _ _ _ (by omega) (by omega)).mono ?_
  rintro e w3 ⟨rfl, rfl⟩
  obtain ⟨d0, d1, d2⟩ := (A2.out.atBox 0 rfl).c3
  have g0 := (A2.out.atBox 0 rfl).frozen 0
  have g1 := (A2.out.atBox 0 rfl).frozen 1
  have g2 := (A2.out.atBox 0 rfl).frozen 2
  have AZ := hide (A2.out.store3 0 rfl (.slice none 0 0) (.slice none 0 0) (.slice none 0 0))
  go_wp2
  exact bodyPost_ret (res_dsk2 rfl _ _ (w.heap.size + 1) _ _ _ (0, 0) rfl (AZ.out.atBox 0 rfl)) rfl ⟨_, _, _, rfl, DskV.nil _ _ _, AZ.out.below⟩
 obtain ⟨a, rfl⟩ : ∃ a : Nat, A = (a : Int) := ⟨A.toNat, by have := FT.out.1; omega⟩
 have ha5 : a + 5 ≤ P.length := by have := FT.out.2; omega
 have OK3 : Hid (ok = true ↔ wOk B a E ks5 5) := by
  show _ ↔ _
  rw [HOK.out]
  unfold wsOk
  rw [Int.toNat_natCast]
  exact ⟨fun h => h.2.2, fun h => ⟨h47, ⟨GK.out, FT.out⟩, h⟩⟩
 have C3 := hide (fun W h1 h2 h3 => l7Own_calls (.slice ap P.length cp) (.slice ah H.length ch) (.slice ab B.length cb) P H B W h1 h2 h3 ⟨by omega, n24⟩ (by rw [GK.out.2.1]; omega) (by rw [GK.out.2.2.1]; omega))
 have C4 := hide (fun W => l8Pieces_calls S W h47)
 have PC := hide (pcN_ci h47)
 have PO := hide (pcN_ok h47)
 have PL := hide (pcN_length S)
 have EH : Hid (wsH H (a : Int) E S = wrTo H a E (pcN S) ks5 5) := by show wrTo H (a : Int).toNat E (pcN S) ks5 5 = _; rw [Int.toNat_natCast]
 rw [EH.out]
 have S28 := hide GK.out.2.2.2.1
 have LH := hide GK.out.2.1
 have LB := hide GK.out.2.2.1
 generalize pcN S = m at *
 have h47' : ¬ (47 : Int) < (S.size : Int) := by omega
 have WL : Hid (∀ k, (wrTo H a E m ks5 k).length = P.length) := fun k => by rw [wrTo_length]; exact LH.out
 generalize hnp : P.length = np at *
 generalize hnh : H.length = nh at *
 generalize hnb : B.length = nb at *
 have NP := hide hnp
 have NB := hide hnb
 clear HOK HF FT EH FALSE HG hnp hnh hnb
 go_enter Tryz.func7, Tryz.ntmps7
 go_wp2_with fail
 refine (C1.out _ (RP.out.below A0.out.below) (RH.out.below A0.out.below) (RB.out.below A0.out.below)).mono ?_
 rintro e w1 ⟨rfl, q⟩
 have A1 := hide (A0.out.step q)
 clear q A0
 obtain ⟨c0, c1, c2⟩ := (A1.out.atBox 1 rfl).c3
 go_wp2_with fail
 refine (C2.out _ _ _ _ _).mono ?_
 rintro e w2 ⟨rfl, q⟩
 have A2 := hide (A1.out.step q)
 clear q A1 c0 c1 c2
 go_wp2_with fail
 refine (l1In_yes _ _ _ _ (by omega) (by omega)).mono ?_
 rintro e w3 ⟨rfl, rfl⟩
 obtain ⟨c0, c1, c2⟩ := (A2.out.atBox 1 rfl).c3
 go_wp2_with fail
 refine (C3.out _ (RP.out.below A2.out.below) (RH.out.below A2.out.below) (RB.out.below A2.out.below)).mono ?_
 rintro e w4 ⟨p4, h4, b4, rfl, d4, q⟩
 obtain ⟨ap4, cp4, ah4, ch4, ab4, cb4, e1, e2, e3⟩ := d4.sl
 rw [NP.out] at e1
 rw [show H.length = np by have := WL.out 0; exact this] at e2
 rw [NB.out, LB.out] at e3
 subst e1
 subst e2
 subst e3
 have A3 := hide ((A2.out.add q (TDsk.st _ _ _ _ _ _) d4).box #[.slice ap4 np cp4, .slice ah4 np ch4, .slice ab4 np cb4] 26)
 clear q d4 A2 c0 c1 c2
 obtain ⟨go, hgo⟩ : ∃ g, g = w4.heap.size := ⟨_, rfl⟩
 rw [← hgo] at A3
 have HGO := hide hgo
 clear hgo
 go_wp2_with fail
 refine (C4.out _).mono ?_
 rintro e w5 ⟨v5, rfl, m5, q⟩
 rw [← PC.out] at m5
 have A4 := hide (A3.out.add q (TMat.st v5 (m.map ci)) m5)
 have RM := m5.rd
 obtain ⟨am, cm, hvm, _⟩ := RM
 rw [List.length_map, PL.out] at hvm
 subst hvm
 clear q m5 A3
 go_wp2
 rw [← HGO.out]
 go_loopw [11, 12, 13, 14, 40] (fun _ _ _ _ vi wr => ∃ k : Nat, k ≤ 5 ∧ vi = .int .i64 k ∧ Hand w wr [TMat (.slice am 5 cm) (m.map ci), TBox go #[.slice ap4 np cp4, .slice ah4 np ch4, .slice ab4 np cb4] 26, TDsk (.slice ap4 np cp4) (.slice ah4 np ch4) (.slice ab4 np cb4) P (wrTo H a E m ks5 k) B, TBox (w.heap.size + 1) nil3 26, TBox w.heap.size #[.slice ap np cp, .slice ah nh ch, .slice ab nb cb] 26] ∧ wOk B a E ks5 k) (fun _ _ _ _ vi _ => 5 - (intOf vi).toNat)
 case atStart => exact ⟨0, Nat.zero_le _, rfl, A4.out, fun j hj => by omega⟩
 case round =>
  clear A4
  obtain ⟨k, hk, rfl, hH, hw⟩ := hrel
  have AH := hide hH
  have WO := hide hw
  clear hH hw
  by_cases hlt : k < 5
  ·have hlt' : (k : Int) < 5 := by omega
   obtain ⟨y1, y2, mm⟩ := AH.out.get 0 rfl
   obtain ⟨mb, mo, u, hma, _, hmc, hu⟩ := mm.rd.rowAt k (by rw [List.length_map, PL.out]; exact hlt)
   subst hma
   obtain ⟨r1, r2⟩ := PO.out k hlt
   have hmg : (m.map ci).getD k [] = ci (m.getD k []) := by
    simp only [qg]
    rw [List.getElem?_map, List.getElem?_eq_getElem (by rw [PL.out]; exact hlt)]
    rfl
   rw [hmg] at hu
   have U := hide hu
   obtain ⟨ua, uc, hu2, _⟩ := hu
   rw [Gf.ci_length, r1] at hu2
   subst hu2
   have WS : Hid (wrTo H a E m ks5 (k + 1) = (wrTo H a E m ks5 k).set (a + k) (scT (a + k) E (m.getD k []))) := by
    show (wrTo H a E m ks5 k).set (a + ks5.getD k 0) (scT (a + ks5.getD k 0) E (m.getD (ks5.getD k 0) [])) = _
    rw [ks5_get k hlt]
   have WK : Hid (∀ hh : B.getD (a + k) false = false, wOk B a E ks5 (k + 1)) := fun hh j hj => by
    by_cases e : j = k
    ·subst e
     rw [ks5_get j hlt]
     exact ⟨hE, hh⟩
    ·exact WO.out j (by omega)
   have WN : Hid (ok = true → B.getD (a + k) false = false) := fun e => by
    have := (OK3.out.1 e k hlt).2
    rw [ks5_get k hlt] at this
    exact this
   have LW := hide (WL.out k)
   obtain ⟨c0, c1, c2⟩ := (AH.out.atBox 1 rfl).c3
   obtain ⟨lo, hi, d3, lw, hw3, put⟩ := AH.out.open 2 rfl
   have D3 : Hid (DskV wr lo hi (.slice ap4 np cp4) (.slice ah4 np ch4) (.slice ab4 np cb4) P (wrTo H a E m ks5 k) B) := d3
   have PUT := hide put
   obtain ⟨y, hy⟩ : ∃ y : Bool, y = true ↔ B.getD (a + k) false = false := by
    cases B.getD (a + k) false
    ·exact ⟨true, by simp⟩
    ·exact ⟨false, by simp⟩
   have E5 : Hid ((a : Int) + (k : Int) = ((a + k : Nat) : Int)) := by show _ = _; omega
   have C5 := hide (l8Put_calls (.slice ap4 np cp4) (.slice ah4 np ch4) (.slice ab4 np cb4) P (wrTo H a E m ks5 k) B (a + k) E (.slice ua 16 uc) (m.getD k []) lo hi np y wr D3.out hw3 NP.out LW.out (by rw [NB.out, LB.out]) ⟨by omega, by omega⟩ (by omega) hE U.out r1 r2 hy (fun i hi => S28.out i (by rw [← NP.out]; exact hi)))
   generalize wrTo H a E m ks5 k = Hk at *
   generalize scT (a + k) E (m.getD k []) = TT at *
   clear d3 put mm y1 y2 hmg r1 r2
   go_wp2_with fail
   rw [E5.out]
   refine C5.out.mono ?_
   rintro e w6 ⟨rfl, sp1, sp2⟩
   cases y with
   | true =>
    have A5 := hide ((PUT.out w6 (TDsk (.slice ap4 np cp4) (.slice ah4 np ch4) (.slice ab4 np cb4) P (Hk.set (a + k) TT) B) (TDsk.st _ _ _ _ _ _) (sp1 rfl) sp2).step (below_box w6 (.cells #[.slice ap4 np cp4, .slice ah4 np ch4, .slice ab4 np cb4] 26)))
    have WKK := hide (WK.out (hy.1 rfl))
    obtain ⟨x0, x1, x2⟩ := (BoxAt.new w6 #[.slice ap4 np cp4, .slice ah4 np ch4, .slice ab4 np cb4] 26).c3
    obtain ⟨d0, d1, d2⟩ := (A5.out.atBox 1 rfl).c3
    have g0 := (A5.out.atBox 1 rfl).frozen 0
    have g1 := (A5.out.atBox 1 rfl).frozen 1
    have g2 := (A5.out.atBox 1 rfl).frozen 2
    have AZ := hide (A5.out.store3 1 rfl (.slice ap4 np cp4) (.slice ah4 np ch4) (.slice ab4 np cb4))
    clear sp1 sp2 PUT D3 C5 AH c0 c1 c2 hw3 lw hy WK WN U A5 hmc
    go_wp2
    go_roundw
    case rel =>
     refine ⟨k + 1, by omega, by go_num, ?_, WKK.out⟩
     rw [WS.out]
     exact AZ.out
    case measure => simp [intOf]; omega
   | false =>
    have okf : ok = false := by
     cases ok with
     | false => rfl
     | true => have := hy.2 (WN.out rfl); simp at this
    subst okf
    have A5 := hide ((PUT.out w6 (fun _ _ _ => True) (fun _ _ _ _ _ _ _ _ _ => trivial) trivial sp2).step (below_box w6 (.cells #[.slice ap4 np cp4, .slice ah4 np ch4, .slice ab4 np cb4] 26)))
    clear sp1 sp2 PUT D3 C5 AH c0 c1 c2 hw3 lw hy WK WN U hmc
    obtain ⟨d0, d1, d2⟩ := (A5.out.atBox 3 rfl).c3
    have g0 := (A5.out.atBox 3 rfl).frozen 0
    have g1 := (A5.out.atBox 3 rfl).frozen 1
    have g2 := (A5.out.atBox 3 rfl).frozen 2
    have AZ := hide (A5.out.store3 3 rfl (.slice none 0 0) (.slice none 0 0) (.slice none 0 0))
    go_wp2
    exact bodyPost_ret (res_dsk2 rfl _ _ (w.heap.size + 1) _ _ _ (0, 0) rfl (AZ.out.atBox 3 rfl)) rfl ⟨_, _, _, rfl, DskV.nil _ _ _, AZ.out.below⟩
  ·obtain rfl : k = 5 := by omega
   have okt : ok = true := OK3.out.2 WO.out
   subst okt
   obtain ⟨c0, c1, c2⟩ := (AH.out.atBox 1 rfl).c3
   obtain ⟨d0, d1, d2⟩ := (AH.out.atBox 3 rfl).c3
   have g0 := (AH.out.atBox 3 rfl).frozen 0
   have g1 := (AH.out.atBox 3 rfl).frozen 1
   have g2 := (AH.out.atBox 3 rfl).frozen 2
   have AZ := hide (AH.out.store3 3 rfl (.slice ap4 np cp4) (.slice ah4 np ch4) (.slice ab4 np cb4))
   go_wp2
   obtain ⟨lo, hi, d3, lw, hw3, _⟩ := AZ.out.open 2 rfl
   have D3 : DskV _ lo hi (.slice ap4 np cp4) (.slice ah4 np ch4) (.slice ab4 np cb4) P (wrTo H a E m ks5 5) B := d3
   exact bodyPost_ret (res_dsk2 rfl _ _ (w.heap.size + 1) _ _ _ (0, 0) rfl (AZ.out.atBox 3 rfl)) rfl ⟨_, _, _, rfl, D3.wider lw hw3, AZ.out.below⟩
open Gf (ci nat)
open Gf (ci nat)
open Gf (ci nat)
theorem wrTo_hit (H : List ByteArray) (A : Nat) (E : Int) (m : List (List Nat)) (ks : List Nat) : ∀ n x, x < H.length → (∃ j, j < n ∧ A + ks.getD j 0 = x) → (wrTo H A E m ks n).getD x ⟨#[]⟩ = scT x E (m.getD (x - A) [])
 | 0, x, _, ⟨j, hj, _⟩ => absurd hj (Nat.not_lt_zero _)
 | n + 1, x, hx, h => by
  simp only [wrTo]
  by_cases e : A + ks.getD n 0 = x
  ·have e2 : x - A = ks.getD n 0 := by omega
   rw [e, e2, qg, List.getElem?_set_self (by rw [wrTo_length]; exact hx)]
   rfl
  ·rw [qg, List.getElem?_set_ne e, ← qg]
   obtain ⟨j, hj, h2⟩ := h
   refine wrTo_hit H A E m ks n x hx ⟨j, ?_, h2⟩
   have : j ≠ n := fun e2 => e (by rw [← e2]; exact h2)
   omega
theorem wrTo_miss (H : List ByteArray) (A : Nat) (E : Int) (m : List (List Nat)) (ks : List Nat) : ∀ n x, (∀ j, j < n → A + ks.getD j 0 ≠ x) → (wrTo H A E m ks n).getD x ⟨#[]⟩ = H.getD x ⟨#[]⟩
 | 0, _, _ => rfl
 | n + 1, x, h => by
  simp only [wrTo]
  rw [qg, List.getElem?_set_ne (h n (by omega)), ← qg]
  exact wrTo_miss H A E m ks n x (fun j hj => h j (by omega))
theorem sk_sc {P H : List ByteArray} {B : List Bool} {least : Int} {a : Nat} {r : Int} {row : List Nat} (hb : B.getD a false = false) (ha : a ≤ 24) (hr : 0 ≤ r ∧ r ≤ 60000) (hl : least ≤ r) (hn : row.length = 16) (hH : H.getD a ⟨#[]⟩ = scT a r row) : sk P H B least a = some (r, ofN row) := by
 have g := sc_good (A := a) (E := r) (row := row) (by omega) hr hn
 have hg : goodF 2 (a : Int) r (ofN row).size := ⟨⟨by omega, by omega, by omega⟩, hr, by rw [ofN_size]; omega⟩
 have e1 : rsT P H a = scT a r row := by
  unfold rsT
  rw [hH, if_neg (by rw [g.2]; omega)]
 have e2 : rdR (scT a r row) = ⟨2, (a : Int), r, ofN row, 0, true⟩ := rd_fr hg
 have e3 : ckR (scT a r row) 2 a least = ⟨2, (a : Int), r, ofN row, 0, true⟩ := by
  unfold ckR
  rw [e2]
  simp [hl]
 unfold sk
 rw [if_neg (by rw [hb]; decide), e1, e3]
 rw [if_pos ⟨rfl, by rw [ofN_size]; exact hn⟩]
open Gf (ci nat ciM Sh AllLt dotTo solN identN colN colL invTo joinN clr opM hOf fOf piv)
namespace Gf
end Gf
open Gf (ci nat ciM Sh AllLt invTo solN selM codeN those rowL identN elOk)
namespace Gf
end Gf
open Gf (ci nat)
section
variable {P H : List ByteArray} {B : List Bool} {least : Int} {a : Nat}
end
open Gf (ci nat)
section
variable {P H : List ByteArray} {B : List Bool} {least : Int} {a : Nat}
end
open Gf (ci nat)
section
variable {P H : List ByteArray} {B : List Bool} {least : Int} {a : Nat}
end
open Gf (ci nat)
theorem dat_enc {S : ByteArray} (h : S.size ≤ 47) : EncF 3 2 16 (datM S) := ⟨by omega, by omega, by omega, by omega, datM_length S, by rw [datM_get S 0 (by omega), Gf.ci_length, rowN_length h 0 (by omega)], by omega, datM_ok h⟩
theorem dat_all {S : ByteArray} (h : S.size ≤ 47) : (datM S).flatMap nat = blk S := by
 have e : datM S = [ci (rowN S 0), ci (rowN S 1), ci (rowN S 2)] := rfl
 rw [e]
 simp only [List.flatMap_cons, List.flatMap_nil, List.append_nil]
 rw [nat_ci', nat_ci', nat_ci']
 unfold rowN
 have hl := blk_length h
 generalize blk S = l at *
 have e1 : l = l.take 16 ++ l.drop 16 := (List.take_append_drop 16 l).symm
 have e2 : l.drop 16 = (l.drop 16).take 16 ++ (l.drop 32) := by
  have := (List.take_append_drop 16 (l.drop 16)).symm
  rw [List.drop_drop] at this
  exact this
 have e3 : (l.drop 32).take 16 = l.drop 32 := List.take_of_length_le (by rw [List.length_drop]; omega)
 show (l.drop (16 * 0)).take 16 ++ ((l.drop (16 * 1)).take 16 ++ (l.drop (16 * 2)).take 16) = l
 show (l.drop 0).take 16 ++ ((l.drop 16).take 16 ++ (l.drop 32).take 16) = l
 rw [e3, ← e2, List.drop_zero, ← e1]
theorem pf_back {S : ByteArray} (h : S.size ≤ 47) : tfOk (mulM (codeM 3 2) (datM S)) = true ∧ tfP (mulM (codeM 3 2) (datM S)) ∧ tfT (mulM (codeM 3 2) (datM S)) = S := by
 have ef := dat_enc h
 have hL : tfL (mulM (codeM 3 2) (datM S)) = blk S := by
  unfold tfL
  rw [ef.front]
  exact dat_all h
 have hN : tfN (mulM (codeM 3 2) (datM S)) = S.size := by
  unfold tfN
  rw [hL]
  rfl
 have hc := ef.chk
 refine ⟨?_, ⟨by rw [hN]; exact h, ?_⟩, ?_⟩
 ·unfold tfOk
  have hc' : chkR 3 2 (mulM (codeM 3 2) (datM S)) = (true, true) := hc
  rw [hc', (ef.row 0 (by omega)).1]
  rfl
 ·rw [hL, hN]
  unfold blk
  rw [Nat.add_comm, List.drop_succ_cons, ← bs_length S, List.drop_left]
 ·unfold tfT
  rw [hL, hN]
  unfold blk
  rw [List.drop_succ_cons, List.drop_zero]
  have : (bs S ++ List.replicate (47 - S.size) 0).take S.size = bs S := by
   conv => lhs; rw [← bs_length S]
   rw [List.take_left]
  rw [this]
  exact ofN_bs S
end Go.Proofs.YthdbacihhmilbaaGreatDoor

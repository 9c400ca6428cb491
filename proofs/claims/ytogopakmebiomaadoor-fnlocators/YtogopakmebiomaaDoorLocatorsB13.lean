/-
  The law of locators: at every two texts that can be read and are not too long the call returns true, and nothing that was there is written. The program's table of rests must hold its seven numbers. The law of locators at every two texts that can be read: the call returns true, and nothing that was there is written. The program's table of rests must hold its seven numbers.
-/
import Derived.Test.YtogopakmebiomaaDoorLocatorsB12
import Derived.Test.YtogopakmebiomaaDoorLocatorsB1
namespace Go.Proofs.YtogopakmebiomaaDoor
open Go.RowKit
open Gf (wdOk isB nought synI)

set_option maxRecDepth 100000 in
set_option maxHeartbeats 12800000 in
theorem fnLocators_core (cv mv : Value) (w : World) (hT : Gf.Tab w) (hc : RdB w cv) (hm : RdB w mv) (hlen : ∀ a n c a' n' c', cv = .slice a n c → mv = .slice a' n' c' → (n : Int) + (n' : Int) ≤ 1048576) :
    Calls Tryd.prog 10 #[cv, mv] w fun e w' => e = .returned (.bool true) ∧ Below w.heap.size w w' := by
  have HC := hide hc
  have M := hide hm
  have T := hide hT
  have B := hide (Below.refl w.heap.size w)
  obtain ⟨ca, cc, cz, rfl, _, _, _⟩ := hc
  obtain ⟨ma, mc, mz, rfl, _, _, _⟩ := hm
  have hl := hlen _ _ _ _ _ _ rfl rfl
  have hl' : ¬ (1048576 : Int) < (cz.length : Int) + (mz.length : Int) := by omega
  clear hlen hT
  go_enter Tryd.func10, Tryd.ntmps10
  go_wp2_with fail
  refine (drawLocatorOf_calls _ _ HC.out).mono ?_
  rintro e wn ⟨sv, ss, rfl, hs, hs8, b⟩
  have RS := hide hs
  clear hs
  replace HC := hide (HC.out.below b)
  replace T := hide (T.out.below b)
  replace M := hide (M.out.below b)
  replace B := hide (B.out.trans (b.mono B.out.size))
  clear b
  go_wp2_with fail
  refine (Gf.locatorOf_calls _ ss _ T.out RS.out).mono ?_
  rintro e wn ⟨c1v, rfl, oc1, b⟩
  have RC1 := hide oc1.rd
  clear oc1
  replace HC := hide (HC.out.below b)
  replace T := hide (T.out.below b)
  replace M := hide (M.out.below b)
  replace RS := hide (RS.out.below b)
  replace B := hide (B.out.trans (b.mono B.out.size))
  clear b
  go_wp2_with fail
  refine (Gf.sLocatorOf_calls _ ss _ RS.out).mono ?_
  rintro e wn ⟨c2v, rfl, oc2, b⟩
  have RC2 := hide oc2.rd
  clear oc2
  replace HC := hide (HC.out.below b)
  replace T := hide (T.out.below b)
  replace M := hide (M.out.below b)
  replace RS := hide (RS.out.below b)
  replace RC1 := hide (RC1.out.below b)
  replace B := hide (B.out.trans (b.mono B.out.size))
  clear b
  have LH := hide (@loc_head ss)
  obtain ⟨lb, hlb⟩ : ∃ b, b = (Gf.locR ss).2 := ⟨_, rfl⟩
  obtain ⟨C, hC⟩ : ∃ C, C = (Gf.locR ss).1 := ⟨_, rfl⟩
  rw [← hlb, ← hC] at LH
  rw [← hC] at RC1 RC2
  rw [← hlb]
  have tlb : (lb != lb) = false := by simp
  clear hlb hC
  obtain ⟨c1a, c1c, rfl, _, _, _⟩ := RC1.out
  go_wp2_with fail
  refine (sameInts_same _ _ C _ RC1.out RC2.out).mono ?_
  rintro e wn ⟨rfl, b⟩
  replace HC := hide (HC.out.below b)
  replace T := hide (T.out.below b)
  replace M := hide (M.out.below b)
  replace RS := hide (RS.out.below b)
  replace RC1 := hide (RC1.out.below b)
  replace RC2 := hide (RC2.out.below b)
  replace B := hide (B.out.trans (b.mono B.out.size))
  clear b
  clear RC2 RS
  cases lb with
  | false =>
    clear LH RC1
    go_wp2_with fail
    refine (drawSyndromesOf_calls _ _ M.out).mono ?_
    rintro e wn ⟨xv, xs, t, rfl, hwd, ht3, hx, b⟩
    have RX := hide hx
    clear hx
    replace HC := hide (HC.out.below b)
    replace T := hide (T.out.below b)
    replace M := hide (M.out.below b)
    replace B := hide (B.out.trans (b.mono B.out.size))
    clear b
    have WD := hide hwd
    obtain ⟨q1, q2, q3, q4⟩ := Gf.wdOk_yes hwd
    obtain ⟨t1, _⟩ := Gf.wOk_iff.1 q1
    have XE := hide q4
    obtain ⟨S, hS⟩ : ∃ S, S = synI xs (2 * t) := ⟨_, rfl⟩
    have SY : Hid (Gf.synR xs t = (S, true)) := by
      have := Gf.synR_yes hwd
      rwa [Int.toNat_natCast, ← hS] at this
    have SI : Hid (isB xs t = S.all nought) := by
      rw [hS]
      show (synI xs (2 * (t : Int).toNat)).all nought = _
      rw [Int.toNat_natCast]
    have SL : Hid (S.length = 2 * t) := by rw [hS]; exact Gf.synI_length _ _
    have S6 : S.length ≤ 6 := by rw [hS, Gf.synI_length]; omega
    have IW : Hid (Gf.isWR xs t = (isB xs t, true)) := by
      unfold Gf.isWR
      rw [hwd, Bool.true_and]
      exact hide rfl
    have hx24 : xs.length ≤ 24 := q3
    have hx2 : 2 * t < xs.length := by omega
    clear hS hwd q1 q2 q3 q4
    go_wp2_with fail
    refine (Gf.syndromesOf_calls _ xs t _ T.out RX.out).mono ?_
    rw [SY.out]
    rintro e wn ⟨vv, rfl, ov, b⟩
    have RV := hide ov.rd
    clear ov
    replace HC := hide (HC.out.below b)
    replace T := hide (T.out.below b)
    replace M := hide (M.out.below b)
    replace RX := hide (RX.out.below b)
    replace B := hide (B.out.trans (b.mono B.out.size))
    clear b
    go_wp2_with fail
    refine (Gf.sSyndromesOf_calls _ xs t _ RX.out).mono ?_
    rw [SY.out]
    rintro e wn ⟨uv, rfl, ou, b⟩
    have RU := hide ou.rd
    clear ou
    replace HC := hide (HC.out.below b)
    replace T := hide (T.out.below b)
    replace M := hide (M.out.below b)
    replace RX := hide (RX.out.below b)
    replace RV := hide (RV.out.below b)
    replace B := hide (B.out.trans (b.mono B.out.size))
    clear b
    go_wp2_with fail
    refine (Gf.isWord_calls _ xs t _ T.out RX.out).mono ?_
    rw [IW.out]
    rintro e wn ⟨rfl, b⟩
    replace HC := hide (HC.out.below b)
    replace T := hide (T.out.below b)
    replace M := hide (M.out.below b)
    replace RX := hide (RX.out.below b)
    replace RV := hide (RV.out.below b)
    replace RU := hide (RU.out.below b)
    replace B := hide (B.out.trans (b.mono B.out.size))
    clear b
    go_wp2_with fail
    refine (Gf.sIsWord_calls _ xs t _ RX.out).mono ?_
    rw [IW.out]
    rintro e wn ⟨rfl, b⟩
    replace HC := hide (HC.out.below b)
    replace T := hide (T.out.below b)
    replace M := hide (M.out.below b)
    replace RX := hide (RX.out.below b)
    replace RV := hide (RV.out.below b)
    replace RU := hide (RU.out.below b)
    replace B := hide (B.out.trans (b.mono B.out.size))
    clear b
    obtain ⟨va, vc, rfl, _, _, _⟩ := RV.out
    go_wp2_with fail
    refine (sameInts_same _ _ S _ RV.out RU.out).mono ?_
    rintro e wn ⟨rfl, b⟩
    replace HC := hide (HC.out.below b)
    replace T := hide (T.out.below b)
    replace M := hide (M.out.below b)
    replace RX := hide (RX.out.below b)
    replace RV := hide (RV.out.below b)
    replace RU := hide (RU.out.below b)
    replace B := hide (B.out.trans (b.mono B.out.size))
    clear b
    clear RU
    cases hib : isB xs t with
    | true =>
      have IB := hide hib
      rw [hib] at SI
      clear hib
      go_wp2
      go_loop [20, 134] (fun vz vk => ∃ (k : Nat) (z : Bool), k ≤ S.length ∧ vk = .int .i64 k ∧ vz = .bool z ∧ z = (S.take k).all nought) (fun _ vk => S.length - (intOf vk).toNat)
      case atStart => exact ⟨0, true, Nat.zero_le _, rfl, rfl, by simp⟩
      case round =>
        obtain ⟨k, z, hk, rfl, rfl, hz⟩ := hrel
        have Z := hide hz
        clear hz
        by_cases hlt : k < S.length
        · have hlt' : (k : Int) < (S.length : Int) := by omega
          obtain ⟨sb, so, su, rfl, hc1, hu⟩ := RV.out.row k hlt
          obtain ⟨r, hr⟩ : ∃ r, r = S.getD k 0 := ⟨_, rfl⟩
          rw [← hr] at hu
          subst hu
          have hnx : (S.take (k + 1)).all nought = (z && nought r) := by
            rw [Gf.take_snoc2 S k hlt, List.all_append, Z.out, hr]
            simp
          have NX := hide hnx
          clear hr hnx
          cases z with
          | false =>
            go_wp2
            go_round
            case rel => exact ⟨k + 1, false, by omega, by go_num, rfl, by rw [NX.out]; rfl⟩
            case measure => simp [intOf]; omega
          | true =>
            by_cases hr0 : r = 0
            · have tr : (r == 0) = true := by simp [hr0]
              have NR : Hid (nought r = true) := by show nought r = true; simp [nought, hr0]
              clear hr0
              go_wp2
              go_round
              case rel => exact ⟨k + 1, true, by omega, by go_num, by rw [← tr], by rw [NX.out, NR.out]; rfl⟩
              case measure => simp [intOf]; omega
            · have tr : (r == 0) = false := by simp [hr0]
              have NR : Hid (nought r = false) := by show nought r = false; simp [nought, hr0]
              clear hr0
              go_wp2
              go_round
              case rel => exact ⟨k + 1, false, by omega, by go_num, by rw [← tr], by rw [NX.out, NR.out]; rfl⟩
              case measure => simp [intOf]; omega
        · obtain rfl : k = S.length := by omega
          have hz2 : z = true := by
            have := Z.out
            rw [List.take_of_length_le (Nat.le_refl _), ← SI.out] at this
            exact this
          subst hz2
          obtain ⟨xa, xc, rfl, hxc, _, _⟩ := RX.out
          obtain ⟨xb, xo, rfl⟩ : ∃ b off, xa = some ⟨b, off, none⟩ := by
            obtain ⟨b, off, u, h1, _⟩ := RX.out.row 0 (by omega)
            exact ⟨b, off, h1⟩
          have i1 : (2 * (t : Int)) ≤ (xs.length : Int) := by omega
          have i2 : ¬ xc = 2 * t := by omega
          have e1 : (2 * (t : Int)).toNat = 2 * t := by omega
          have i3 : (0 : Int) ≤ 2 * (t : Int) := by omega
          obtain ⟨W1, rfl⟩ : ∃ W, W = wn := ⟨_, rfl⟩
          have OO : Hid ((W1.alloc (.cells #[] 3)).ownsRow W1.heap.size 3 1 (.slice (some ⟨W1.heap.size, 0, none⟩) 0 0) 0 (([] : List Int).map (Value.int .i64))) := World.ownsRow_lit W1 #[] 0 (Nat.le_refl _) (by decide) (by rfl)
          have PP := hide ((rd_dropL RX.out (2 * t) hx2).below ((Below.refl W1.heap.size W1).alloc (Nat.le_refl _) (.cells #[] 3)))
          go_wp2_with (at_builtin; refine wpList_append_rd rfl (.tmp 148) (.tmp 152) rfl W1.heap.size _ 0 [] (xs.drop (2 * t)) rfl OO.out _ rfl PP.out (by rw [List.length_drop]; omega) (by simp) ?_)
          intro v2 wn ho2 hg2
          have b : Below W1.heap.size W1 wn := ((Below.refl W1.heap.size W1).alloc (Nat.le_refl _) _).grown hg2 (by simp) (fun i hi => by cases hi; exact Nat.le_refl _)
          have ho2 : Own wn W1.heap.size v2 (xs.drop (2 * t)) := ho2
          have hdl : (xs.drop (2 * t)).length = xs.length - 2 * t := List.length_drop
          obtain ⟨gm, cm, hv2, hgm1, hgm2, _⟩ := Gf.Own.open ho2 (by rw [hdl]; omega)
          rw [hdl] at hv2
          subst hv2
          obtain ⟨N, hN⟩ : ∃ N, N = xs.length - 2 * t := ⟨_, rfl⟩
          rw [← hN]
          have N1 : 1 ≤ N := by omega
          have N24 : N ≤ 24 := by omega
          have OM : Hid (wn.ownsRow W1.heap.size 3 1 (.slice (some ⟨gm, 0, none⟩) N cm) N ((xs.drop (2 * t)).map (Value.int .i64))) := by
            have := ho2
            unfold Own at this
            rw [hdl, ← hN] at this
            exact this
          have hcf := OM.out.frozenAt 0
          have hcc := OM.out.cellAt 0 (by omega)
          obtain ⟨X, hX⟩ : ∃ X, X = at_ xs (2 * t) := ⟨_, rfl⟩
          have hX256 : X < 256 := by rw [hX]; exact at_lt XE.out _
          have hx0 : (xs.drop (2 * t)).map (Value.int .i64) = (xs.drop (2 * t)).map (Value.int .i64) := rfl
          have hcell : wn.cell? ⟨gm, 0, none⟩ = some (.int .i64 (X : Int)) := by
            rw [hcc, List.getElem?_map, List.getElem?_drop, Nat.add_zero, List.getElem?_eq_getElem hx2]
            have e := at_eq xs (2 * t)
            rw [List.getD_eq_getElem?_getD, List.getElem?_eq_getElem hx2, Option.getD_some] at e
            have hel := Gf.all_get XE.out (2 * t) hx2
            rw [List.getD_eq_getElem?_getD, List.getElem?_eq_getElem hx2, Option.getD_some] at hel
            rw [hX, e]
            simp only [Option.map_some]
            congr 2
            omega
          have HX := hide hX
          have HN := hide hN
          have nb : (0 : Int) < (N : Int) := by omega
          have BA := hide b
          clear hcc hx0 hX hN hdl ho2 hg2 OO PP b
          obtain ⟨W2, rfl⟩ : ∃ W, W = wn := ⟨_, rfl⟩
          have HC2 := hide (HC.out.below BA.out)
          go_wp2
          go_region_with (go_at_call 31; refine (numberOf_calls _ _ (by exact HC2.out)).mono ?_; rintro e w' ⟨nn, hnn, rfl, rfl⟩)
          all_goals
            obtain ⟨d, hd⟩ : ∃ d : Nat, d = 1 + nn % 255 := ⟨_, rfl⟩
            have d1 : 1 ≤ d := by omega
            have d2 : d < 256 := by omega
            first
              | rw [show IntKind.i64.wrap (1 + ((nn : Nat) : Int).tmod 255) = ((d : Nat) : Int) from by
                  have e : ((nn : Nat) : Int).tmod 255 = ((nn % 255 : Nat) : Int) := rfl
                  rw [e, Gf.wrap_i64]
                  omega]
              | rw [show (1 : Int) + ((nn : Nat) : Int) % 255 = ((d : Nat) : Int) from by omega]
            rw [Gf.i64_xor _ _ (by omega) (by omega)]
            obtain ⟨FA, FB, FC⟩ := locs_far WD.out IB.out d1 d2
            have OMS : Hid (Own (W2.setCell ⟨gm, 0, none⟩ (.int .i64 ((X ^^^ d : Nat) : Int))).drew W1.heap.size (.slice (some ⟨gm, 0, none⟩) N cm) (msgL xs t d)) := by
              have h1 := (OM.out.stored 0 (.int .i64 ((X ^^^ d : Nat) : Int))).1
              rw [← List.map_set, HX.out] at h1
              rw [HX.out]
              show World.ownsRow _ _ _ _ _ (msgL xs t d).length _
              rw [show (msgL xs t d).length = N from by rw [HN.out]; simp [msgL]]
              exact h1.drew
            have b : Below W1.heap.size W1 (W2.setCell ⟨gm, 0, none⟩ (.int .i64 ((X ^^^ d : Nat) : Int))).drew := (fun {B : Nat} {w w' : World} (h : Below B w w') => (⟨h.os, h.tape, h.output, h.size, h.block⟩ : Below B w w'.drew)) (BA.out.setCell hgm1 _)
            have RM := hide OMS.out.rd
            obtain ⟨E, hE⟩ : ∃ E, E = Gf.wordW (msgL xs t d) t := ⟨_, rfl⟩
            rw [← hE] at FA FB FC
            have EN := hide FA
            have WP : Hid (wrpR E xs = (unpN E xs E.length, true)) := if_pos ⟨FB, by omega⟩
            obtain ⟨U, hU⟩ : ∃ U, U = unpN E xs E.length := ⟨_, rfl⟩
            rw [← hU] at WP FC
            have uf : ¬ (U.length : Int) ≤ 2 * (t : Int) := by omega
            clear hd d1 d2 FA FB FC hE hU OMS OM BA HC2 hcf hcell HX HN hgm1 hgm2
            replace HC := hide (HC.out.below b)
            replace T := hide (T.out.below b)
            replace M := hide (M.out.below b)
            replace RX := hide (RX.out.below b)
            replace RV := hide (RV.out.below b)
            replace B := hide (B.out.trans (b.mono B.out.size))
            clear b
            go_wp2_with fail
            refine (Gf.encodeWord_calls _ (msgL xs t d) t _ T.out RM.out).mono ?_
            rw [EN.out]
            rintro e wn ⟨ev, rfl, oe, b⟩
            have RE := hide oe.rd
            clear oe
            replace HC := hide (HC.out.below b)
            replace T := hide (T.out.below b)
            replace M := hide (M.out.below b)
            replace RX := hide (RX.out.below b)
            replace RV := hide (RV.out.below b)
            replace B := hide (B.out.trans (b.mono B.out.size))
            clear b
            go_wp2_with fail
            refine (wrongPlaces_calls _ _ E xs _ RE.out RX.out).mono ?_
            rw [WP.out]
            rintro e wn ⟨pv, rfl, op, b⟩
            obtain ⟨pa, pc, hpv, _, _, _⟩ := op.rd
            subst hpv
            clear op
            replace HC := hide (HC.out.below b)
            replace T := hide (T.out.below b)
            replace M := hide (M.out.below b)
            replace RX := hide (RX.out.below b)
            replace RV := hide (RV.out.below b)
            replace RE := hide (RE.out.below b)
            replace B := hide (B.out.trans (b.mono B.out.size))
            clear b
            clear RE RM RX
            go_wp2_with fail
            refine (drawGeneratorOf_calls _ _ M.out).mono ?_
            rintro e wn ⟨gt, rfl, hgt, b⟩
            replace HC := hide (HC.out.below b)
            replace T := hide (T.out.below b)
            replace M := hide (M.out.below b)
            replace RV := hide (RV.out.below b)
            replace B := hide (B.out.trans (b.mono B.out.size))
            clear b
            clear hgt
            go_wp2_with fail
            refine (Gf.generatorOf_calls gt _ T.out).mono ?_
            rintro e wn ⟨pv, rfl, op, b⟩
            have RP := hide op.rd
            clear op
            replace HC := hide (HC.out.below b)
            replace T := hide (T.out.below b)
            replace M := hide (M.out.below b)
            replace RV := hide (RV.out.below b)
            replace B := hide (B.out.trans (b.mono B.out.size))
            clear b
            go_wp2_with fail
            refine (Gf.sGeneratorOf_calls gt _).mono ?_
            rintro e wn ⟨qv, rfl, oq, b⟩
            have RQ := hide oq.rd
            clear oq
            replace HC := hide (HC.out.below b)
            replace T := hide (T.out.below b)
            replace M := hide (M.out.below b)
            replace RV := hide (RV.out.below b)
            replace RP := hide (RP.out.below b)
            replace B := hide (B.out.trans (b.mono B.out.size))
            clear b
            go_wp2_with fail
            refine (drawWrongPlaces_calls _ _ M.out).mono ?_
            rintro e wn ⟨av, bv, ls1, ls2, rfl, ha, hb2, _, _, b⟩
            have RA := hide ha
            have RB := hide hb2
            clear ha hb2
            replace HC := hide (HC.out.below b)
            replace T := hide (T.out.below b)
            replace M := hide (M.out.below b)
            replace RV := hide (RV.out.below b)
            replace RP := hide (RP.out.below b)
            replace RQ := hide (RQ.out.below b)
            replace B := hide (B.out.trans (b.mono B.out.size))
            clear b
            go_wp2_with fail
            refine (wrongPlaces_calls _ _ ls1 ls2 _ RA.out RB.out).mono ?_
            rintro e wn ⟨uv, rfl, ou, b⟩
            have RU := hide ou.rd
            clear ou
            replace HC := hide (HC.out.below b)
            replace T := hide (T.out.below b)
            replace M := hide (M.out.below b)
            replace RV := hide (RV.out.below b)
            replace RP := hide (RP.out.below b)
            replace RQ := hide (RQ.out.below b)
            replace RA := hide (RA.out.below b)
            replace RB := hide (RB.out.below b)
            replace B := hide (B.out.trans (b.mono B.out.size))
            clear b
            go_wp2_with fail
            refine (sWrongPlaces_calls _ _ ls1 ls2 _ RA.out RB.out).mono ?_
            rintro e wn ⟨zv, rfl, oz, b⟩
            have RZ := hide oz.rd
            clear oz
            replace HC := hide (HC.out.below b)
            replace T := hide (T.out.below b)
            replace M := hide (M.out.below b)
            replace RV := hide (RV.out.below b)
            replace RP := hide (RP.out.below b)
            replace RQ := hide (RQ.out.below b)
            replace RA := hide (RA.out.below b)
            replace RB := hide (RB.out.below b)
            replace RU := hide (RU.out.below b)
            replace B := hide (B.out.trans (b.mono B.out.size))
            clear b
            obtain ⟨g1, hg1⟩ : ∃ b, b = (Gf.genR gt).2 := ⟨_, rfl⟩
            obtain ⟨g2, hg2⟩ : ∃ b, b = (wrpR ls1 ls2).2 := ⟨_, rfl⟩
            rw [← hg1, ← hg2]
            clear hg1 hg2
            have tg1 : (g1 == g1) = true := by simp
            have tg2 : (g2 == g2) = true := by simp
            go_wp2_with fail
            refine (sameInts_same _ _ _ _ RP.out RQ.out).mono ?_
            rintro e wn ⟨rfl, b⟩
            replace HC := hide (HC.out.below b)
            replace T := hide (T.out.below b)
            replace M := hide (M.out.below b)
            replace RV := hide (RV.out.below b)
            replace RP := hide (RP.out.below b)
            replace RQ := hide (RQ.out.below b)
            replace RA := hide (RA.out.below b)
            replace RB := hide (RB.out.below b)
            replace RU := hide (RU.out.below b)
            replace RZ := hide (RZ.out.below b)
            replace B := hide (B.out.trans (b.mono B.out.size))
            clear b
            go_wp2_with fail
            refine (sameInts_same _ _ _ _ RU.out RZ.out).mono ?_
            rintro e wn ⟨rfl, b⟩
            replace HC := hide (HC.out.below b)
            replace T := hide (T.out.below b)
            replace M := hide (M.out.below b)
            replace RV := hide (RV.out.below b)
            replace RP := hide (RP.out.below b)
            replace RQ := hide (RQ.out.below b)
            replace RA := hide (RA.out.below b)
            replace RB := hide (RB.out.below b)
            replace RU := hide (RU.out.below b)
            replace RZ := hide (RZ.out.below b)
            replace B := hide (B.out.trans (b.mono B.out.size))
            clear b
            go_wp2
            go_ret
            exact ⟨rfl, B.out⟩
    | false =>
      have IB := hide hib
      rw [hib] at SI
      clear hib
      go_wp2
      go_loop [20, 134] (fun vz vk => ∃ (k : Nat) (z : Bool), k ≤ S.length ∧ vk = .int .i64 k ∧ vz = .bool z ∧ z = (S.take k).all nought) (fun _ vk => S.length - (intOf vk).toNat)
      case atStart => exact ⟨0, true, Nat.zero_le _, rfl, rfl, by simp⟩
      case round =>
        obtain ⟨k, z, hk, rfl, rfl, hz⟩ := hrel
        have Z := hide hz
        clear hz
        by_cases hlt : k < S.length
        · have hlt' : (k : Int) < (S.length : Int) := by omega
          obtain ⟨sb, so, su, rfl, hc1, hu⟩ := RV.out.row k hlt
          obtain ⟨r, hr⟩ : ∃ r, r = S.getD k 0 := ⟨_, rfl⟩
          rw [← hr] at hu
          subst hu
          have hnx : (S.take (k + 1)).all nought = (z && nought r) := by
            rw [Gf.take_snoc2 S k hlt, List.all_append, Z.out, hr]
            simp
          have NX := hide hnx
          clear hr hnx
          cases z with
          | false =>
            go_wp2
            go_round
            case rel => exact ⟨k + 1, false, by omega, by go_num, rfl, by rw [NX.out]; rfl⟩
            case measure => simp [intOf]; omega
          | true =>
            by_cases hr0 : r = 0
            · have tr : (r == 0) = true := by simp [hr0]
              have NR : Hid (nought r = true) := by show nought r = true; simp [nought, hr0]
              clear hr0
              go_wp2
              go_round
              case rel => exact ⟨k + 1, true, by omega, by go_num, by rw [← tr], by rw [NX.out, NR.out]; rfl⟩
              case measure => simp [intOf]; omega
            · have tr : (r == 0) = false := by simp [hr0]
              have NR : Hid (nought r = false) := by show nought r = false; simp [nought, hr0]
              clear hr0
              go_wp2
              go_round
              case rel => exact ⟨k + 1, false, by omega, by go_num, by rw [← tr], by rw [NX.out, NR.out]; rfl⟩
              case measure => simp [intOf]; omega
        · obtain rfl : k = S.length := by omega
          have hz2 : z = false := by
            have := Z.out
            rw [List.take_of_length_le (Nat.le_refl _), ← SI.out] at this
            exact this
          subst hz2
          go_wp2_with fail
          refine (drawGeneratorOf_calls _ _ M.out).mono ?_
          rintro e wn ⟨gt, rfl, hgt, b⟩
          replace HC := hide (HC.out.below b)
          replace T := hide (T.out.below b)
          replace M := hide (M.out.below b)
          replace RX := hide (RX.out.below b)
          replace RV := hide (RV.out.below b)
          replace B := hide (B.out.trans (b.mono B.out.size))
          clear b
          clear hgt
          go_wp2_with fail
          refine (Gf.generatorOf_calls gt _ T.out).mono ?_
          rintro e wn ⟨pv, rfl, op, b⟩
          have RP := hide op.rd
          clear op
          replace HC := hide (HC.out.below b)
          replace T := hide (T.out.below b)
          replace M := hide (M.out.below b)
          replace RX := hide (RX.out.below b)
          replace RV := hide (RV.out.below b)
          replace B := hide (B.out.trans (b.mono B.out.size))
          clear b
          go_wp2_with fail
          refine (Gf.sGeneratorOf_calls gt _).mono ?_
          rintro e wn ⟨qv, rfl, oq, b⟩
          have RQ := hide oq.rd
          clear oq
          replace HC := hide (HC.out.below b)
          replace T := hide (T.out.below b)
          replace M := hide (M.out.below b)
          replace RX := hide (RX.out.below b)
          replace RV := hide (RV.out.below b)
          replace RP := hide (RP.out.below b)
          replace B := hide (B.out.trans (b.mono B.out.size))
          clear b
          go_wp2_with fail
          refine (drawWrongPlaces_calls _ _ M.out).mono ?_
          rintro e wn ⟨av, bv, ls1, ls2, rfl, ha, hb2, _, _, b⟩
          have RA := hide ha
          have RB := hide hb2
          clear ha hb2
          replace HC := hide (HC.out.below b)
          replace T := hide (T.out.below b)
          replace M := hide (M.out.below b)
          replace RX := hide (RX.out.below b)
          replace RV := hide (RV.out.below b)
          replace RP := hide (RP.out.below b)
          replace RQ := hide (RQ.out.below b)
          replace B := hide (B.out.trans (b.mono B.out.size))
          clear b
          go_wp2_with fail
          refine (wrongPlaces_calls _ _ ls1 ls2 _ RA.out RB.out).mono ?_
          rintro e wn ⟨uv, rfl, ou, b⟩
          have RU := hide ou.rd
          clear ou
          replace HC := hide (HC.out.below b)
          replace T := hide (T.out.below b)
          replace M := hide (M.out.below b)
          replace RX := hide (RX.out.below b)
          replace RV := hide (RV.out.below b)
          replace RP := hide (RP.out.below b)
          replace RQ := hide (RQ.out.below b)
          replace RA := hide (RA.out.below b)
          replace RB := hide (RB.out.below b)
          replace B := hide (B.out.trans (b.mono B.out.size))
          clear b
          go_wp2_with fail
          refine (sWrongPlaces_calls _ _ ls1 ls2 _ RA.out RB.out).mono ?_
          rintro e wn ⟨zv, rfl, oz, b⟩
          have RZ := hide oz.rd
          clear oz
          replace HC := hide (HC.out.below b)
          replace T := hide (T.out.below b)
          replace M := hide (M.out.below b)
          replace RX := hide (RX.out.below b)
          replace RV := hide (RV.out.below b)
          replace RP := hide (RP.out.below b)
          replace RQ := hide (RQ.out.below b)
          replace RA := hide (RA.out.below b)
          replace RB := hide (RB.out.below b)
          replace RU := hide (RU.out.below b)
          replace B := hide (B.out.trans (b.mono B.out.size))
          clear b
          obtain ⟨g1, hg1⟩ : ∃ b, b = (Gf.genR gt).2 := ⟨_, rfl⟩
          obtain ⟨g2, hg2⟩ : ∃ b, b = (wrpR ls1 ls2).2 := ⟨_, rfl⟩
          rw [← hg1, ← hg2]
          clear hg1 hg2
          have tg1 : (g1 == g1) = true := by simp
          have tg2 : (g2 == g2) = true := by simp
          go_wp2_with fail
          refine (sameInts_same _ _ _ _ RP.out RQ.out).mono ?_
          rintro e wn ⟨rfl, b⟩
          replace HC := hide (HC.out.below b)
          replace T := hide (T.out.below b)
          replace M := hide (M.out.below b)
          replace RX := hide (RX.out.below b)
          replace RV := hide (RV.out.below b)
          replace RP := hide (RP.out.below b)
          replace RQ := hide (RQ.out.below b)
          replace RA := hide (RA.out.below b)
          replace RB := hide (RB.out.below b)
          replace RU := hide (RU.out.below b)
          replace RZ := hide (RZ.out.below b)
          replace B := hide (B.out.trans (b.mono B.out.size))
          clear b
          go_wp2_with fail
          refine (sameInts_same _ _ _ _ RU.out RZ.out).mono ?_
          rintro e wn ⟨rfl, b⟩
          replace HC := hide (HC.out.below b)
          replace T := hide (T.out.below b)
          replace M := hide (M.out.below b)
          replace RX := hide (RX.out.below b)
          replace RV := hide (RV.out.below b)
          replace RP := hide (RP.out.below b)
          replace RQ := hide (RQ.out.below b)
          replace RA := hide (RA.out.below b)
          replace RB := hide (RB.out.below b)
          replace RU := hide (RU.out.below b)
          replace RZ := hide (RZ.out.below b)
          replace B := hide (B.out.trans (b.mono B.out.size))
          clear b
          go_wp2
          go_ret
          exact ⟨rfl, B.out⟩
  | true =>
    obtain ⟨c1, c2⟩ := LH.out rfl
    have tc : ((C.length : Int) == 0) = false := by simp; intro e; simp [e] at c1
    obtain ⟨cb, co, cu, rfl, hcc1, hcu⟩ := RC1.out.row 0 (by omega)
    rw [c2] at hcu
    subst hcu
    rw [Nat.add_zero] at hcc1
    have j1 : (0 : Int) < (C.length : Int) := by omega
    clear LH c2
    go_wp2_with fail
    refine (drawSyndromesOf_calls _ _ M.out).mono ?_
    rintro e wn ⟨xv, xs, t, rfl, hwd, ht3, hx, b⟩
    have RX := hide hx
    clear hx
    replace HC := hide (HC.out.below b)
    replace T := hide (T.out.below b)
    replace M := hide (M.out.below b)
    replace B := hide (B.out.trans (b.mono B.out.size))
    clear b
    have WD := hide hwd
    obtain ⟨q1, q2, q3, q4⟩ := Gf.wdOk_yes hwd
    obtain ⟨t1, _⟩ := Gf.wOk_iff.1 q1
    have XE := hide q4
    obtain ⟨S, hS⟩ : ∃ S, S = synI xs (2 * t) := ⟨_, rfl⟩
    have SY : Hid (Gf.synR xs t = (S, true)) := by
      have := Gf.synR_yes hwd
      rwa [Int.toNat_natCast, ← hS] at this
    have SI : Hid (isB xs t = S.all nought) := by
      rw [hS]
      show (synI xs (2 * (t : Int).toNat)).all nought = _
      rw [Int.toNat_natCast]
    have SL : Hid (S.length = 2 * t) := by rw [hS]; exact Gf.synI_length _ _
    have S6 : S.length ≤ 6 := by rw [hS, Gf.synI_length]; omega
    have IW : Hid (Gf.isWR xs t = (isB xs t, true)) := by
      unfold Gf.isWR
      rw [hwd, Bool.true_and]
      exact hide rfl
    have hx24 : xs.length ≤ 24 := q3
    have hx2 : 2 * t < xs.length := by omega
    clear hS hwd q1 q2 q3 q4
    go_wp2_with fail
    refine (Gf.syndromesOf_calls _ xs t _ T.out RX.out).mono ?_
    rw [SY.out]
    rintro e wn ⟨vv, rfl, ov, b⟩
    have RV := hide ov.rd
    clear ov
    replace HC := hide (HC.out.below b)
    replace T := hide (T.out.below b)
    replace M := hide (M.out.below b)
    replace RX := hide (RX.out.below b)
    replace B := hide (B.out.trans (b.mono B.out.size))
    clear b
    go_wp2_with fail
    refine (Gf.sSyndromesOf_calls _ xs t _ RX.out).mono ?_
    rw [SY.out]
    rintro e wn ⟨uv, rfl, ou, b⟩
    have RU := hide ou.rd
    clear ou
    replace HC := hide (HC.out.below b)
    replace T := hide (T.out.below b)
    replace M := hide (M.out.below b)
    replace RX := hide (RX.out.below b)
    replace RV := hide (RV.out.below b)
    replace B := hide (B.out.trans (b.mono B.out.size))
    clear b
    go_wp2_with fail
    refine (Gf.isWord_calls _ xs t _ T.out RX.out).mono ?_
    rw [IW.out]
    rintro e wn ⟨rfl, b⟩
    replace HC := hide (HC.out.below b)
    replace T := hide (T.out.below b)
    replace M := hide (M.out.below b)
    replace RX := hide (RX.out.below b)
    replace RV := hide (RV.out.below b)
    replace RU := hide (RU.out.below b)
    replace B := hide (B.out.trans (b.mono B.out.size))
    clear b
    go_wp2_with fail
    refine (Gf.sIsWord_calls _ xs t _ RX.out).mono ?_
    rw [IW.out]
    rintro e wn ⟨rfl, b⟩
    replace HC := hide (HC.out.below b)
    replace T := hide (T.out.below b)
    replace M := hide (M.out.below b)
    replace RX := hide (RX.out.below b)
    replace RV := hide (RV.out.below b)
    replace RU := hide (RU.out.below b)
    replace B := hide (B.out.trans (b.mono B.out.size))
    clear b
    obtain ⟨va, vc, rfl, _, _, _⟩ := RV.out
    go_wp2_with fail
    refine (sameInts_same _ _ S _ RV.out RU.out).mono ?_
    rintro e wn ⟨rfl, b⟩
    replace HC := hide (HC.out.below b)
    replace T := hide (T.out.below b)
    replace M := hide (M.out.below b)
    replace RX := hide (RX.out.below b)
    replace RV := hide (RV.out.below b)
    replace RU := hide (RU.out.below b)
    replace B := hide (B.out.trans (b.mono B.out.size))
    clear b
    clear RU
    cases hib : isB xs t with
    | true =>
      have IB := hide hib
      rw [hib] at SI
      clear hib
      go_wp2
      go_loop [20, 134] (fun vz vk => ∃ (k : Nat) (z : Bool), k ≤ S.length ∧ vk = .int .i64 k ∧ vz = .bool z ∧ z = (S.take k).all nought) (fun _ vk => S.length - (intOf vk).toNat)
      case atStart => exact ⟨0, true, Nat.zero_le _, rfl, rfl, by simp⟩
      case round =>
        obtain ⟨k, z, hk, rfl, rfl, hz⟩ := hrel
        have Z := hide hz
        clear hz
        by_cases hlt : k < S.length
        · have hlt' : (k : Int) < (S.length : Int) := by omega
          obtain ⟨sb, so, su, rfl, hc1, hu⟩ := RV.out.row k hlt
          obtain ⟨r, hr⟩ : ∃ r, r = S.getD k 0 := ⟨_, rfl⟩
          rw [← hr] at hu
          subst hu
          have hnx : (S.take (k + 1)).all nought = (z && nought r) := by
            rw [Gf.take_snoc2 S k hlt, List.all_append, Z.out, hr]
            simp
          have NX := hide hnx
          clear hr hnx
          cases z with
          | false =>
            go_wp2
            go_round
            case rel => exact ⟨k + 1, false, by omega, by go_num, rfl, by rw [NX.out]; rfl⟩
            case measure => simp [intOf]; omega
          | true =>
            by_cases hr0 : r = 0
            · have tr : (r == 0) = true := by simp [hr0]
              have NR : Hid (nought r = true) := by show nought r = true; simp [nought, hr0]
              clear hr0
              go_wp2
              go_round
              case rel => exact ⟨k + 1, true, by omega, by go_num, by rw [← tr], by rw [NX.out, NR.out]; rfl⟩
              case measure => simp [intOf]; omega
            · have tr : (r == 0) = false := by simp [hr0]
              have NR : Hid (nought r = false) := by show nought r = false; simp [nought, hr0]
              clear hr0
              go_wp2
              go_round
              case rel => exact ⟨k + 1, false, by omega, by go_num, by rw [← tr], by rw [NX.out, NR.out]; rfl⟩
              case measure => simp [intOf]; omega
        · obtain rfl : k = S.length := by omega
          have hz2 : z = true := by
            have := Z.out
            rw [List.take_of_length_le (Nat.le_refl _), ← SI.out] at this
            exact this
          subst hz2
          obtain ⟨xa, xc, rfl, hxc, _, _⟩ := RX.out
          obtain ⟨xb, xo, rfl⟩ : ∃ b off, xa = some ⟨b, off, none⟩ := by
            obtain ⟨b, off, u, h1, _⟩ := RX.out.row 0 (by omega)
            exact ⟨b, off, h1⟩
          have i1 : (2 * (t : Int)) ≤ (xs.length : Int) := by omega
          have i2 : ¬ xc = 2 * t := by omega
          have e1 : (2 * (t : Int)).toNat = 2 * t := by omega
          have i3 : (0 : Int) ≤ 2 * (t : Int) := by omega
          obtain ⟨W1, rfl⟩ : ∃ W, W = wn := ⟨_, rfl⟩
          have OO : Hid ((W1.alloc (.cells #[] 3)).ownsRow W1.heap.size 3 1 (.slice (some ⟨W1.heap.size, 0, none⟩) 0 0) 0 (([] : List Int).map (Value.int .i64))) := World.ownsRow_lit W1 #[] 0 (Nat.le_refl _) (by decide) (by rfl)
          have PP := hide ((rd_dropL RX.out (2 * t) hx2).below ((Below.refl W1.heap.size W1).alloc (Nat.le_refl _) (.cells #[] 3)))
          go_wp2_with (at_builtin; refine wpList_append_rd rfl (.tmp 148) (.tmp 152) rfl W1.heap.size _ 0 [] (xs.drop (2 * t)) rfl OO.out _ rfl PP.out (by rw [List.length_drop]; omega) (by simp) ?_)
          intro v2 wn ho2 hg2
          have b : Below W1.heap.size W1 wn := ((Below.refl W1.heap.size W1).alloc (Nat.le_refl _) _).grown hg2 (by simp) (fun i hi => by cases hi; exact Nat.le_refl _)
          have ho2 : Own wn W1.heap.size v2 (xs.drop (2 * t)) := ho2
          have hdl : (xs.drop (2 * t)).length = xs.length - 2 * t := List.length_drop
          obtain ⟨gm, cm, hv2, hgm1, hgm2, _⟩ := Gf.Own.open ho2 (by rw [hdl]; omega)
          rw [hdl] at hv2
          subst hv2
          obtain ⟨N, hN⟩ : ∃ N, N = xs.length - 2 * t := ⟨_, rfl⟩
          rw [← hN]
          have N1 : 1 ≤ N := by omega
          have N24 : N ≤ 24 := by omega
          have OM : Hid (wn.ownsRow W1.heap.size 3 1 (.slice (some ⟨gm, 0, none⟩) N cm) N ((xs.drop (2 * t)).map (Value.int .i64))) := by
            have := ho2
            unfold Own at this
            rw [hdl, ← hN] at this
            exact this
          have hcf := OM.out.frozenAt 0
          have hcc := OM.out.cellAt 0 (by omega)
          obtain ⟨X, hX⟩ : ∃ X, X = at_ xs (2 * t) := ⟨_, rfl⟩
          have hX256 : X < 256 := by rw [hX]; exact at_lt XE.out _
          have hx0 : (xs.drop (2 * t)).map (Value.int .i64) = (xs.drop (2 * t)).map (Value.int .i64) := rfl
          have hcell : wn.cell? ⟨gm, 0, none⟩ = some (.int .i64 (X : Int)) := by
            rw [hcc, List.getElem?_map, List.getElem?_drop, Nat.add_zero, List.getElem?_eq_getElem hx2]
            have e := at_eq xs (2 * t)
            rw [List.getD_eq_getElem?_getD, List.getElem?_eq_getElem hx2, Option.getD_some] at e
            have hel := Gf.all_get XE.out (2 * t) hx2
            rw [List.getD_eq_getElem?_getD, List.getElem?_eq_getElem hx2, Option.getD_some] at hel
            rw [hX, e]
            simp only [Option.map_some]
            congr 2
            omega
          have HX := hide hX
          have HN := hide hN
          have nb : (0 : Int) < (N : Int) := by omega
          have BA := hide b
          clear hcc hx0 hX hN hdl ho2 hg2 OO PP b
          obtain ⟨W2, rfl⟩ : ∃ W, W = wn := ⟨_, rfl⟩
          have HC2 := hide (HC.out.below BA.out)
          go_wp2
          go_region_with (go_at_call 31; refine (numberOf_calls _ _ (by exact HC2.out)).mono ?_; rintro e w' ⟨nn, hnn, rfl, rfl⟩)
          all_goals
            obtain ⟨d, hd⟩ : ∃ d : Nat, d = 1 + nn % 255 := ⟨_, rfl⟩
            have d1 : 1 ≤ d := by omega
            have d2 : d < 256 := by omega
            first
              | rw [show IntKind.i64.wrap (1 + ((nn : Nat) : Int).tmod 255) = ((d : Nat) : Int) from by
                  have e : ((nn : Nat) : Int).tmod 255 = ((nn % 255 : Nat) : Int) := rfl
                  rw [e, Gf.wrap_i64]
                  omega]
              | rw [show (1 : Int) + ((nn : Nat) : Int) % 255 = ((d : Nat) : Int) from by omega]
            rw [Gf.i64_xor _ _ (by omega) (by omega)]
            obtain ⟨FA, FB, FC⟩ := locs_far WD.out IB.out d1 d2
            have OMS : Hid (Own (W2.setCell ⟨gm, 0, none⟩ (.int .i64 ((X ^^^ d : Nat) : Int))).drew W1.heap.size (.slice (some ⟨gm, 0, none⟩) N cm) (msgL xs t d)) := by
              have h1 := (OM.out.stored 0 (.int .i64 ((X ^^^ d : Nat) : Int))).1
              rw [← List.map_set, HX.out] at h1
              rw [HX.out]
              show World.ownsRow _ _ _ _ _ (msgL xs t d).length _
              rw [show (msgL xs t d).length = N from by rw [HN.out]; simp [msgL]]
              exact h1.drew
            have b : Below W1.heap.size W1 (W2.setCell ⟨gm, 0, none⟩ (.int .i64 ((X ^^^ d : Nat) : Int))).drew := (fun {B : Nat} {w w' : World} (h : Below B w w') => (⟨h.os, h.tape, h.output, h.size, h.block⟩ : Below B w w'.drew)) (BA.out.setCell hgm1 _)
            have RM := hide OMS.out.rd
            obtain ⟨E, hE⟩ : ∃ E, E = Gf.wordW (msgL xs t d) t := ⟨_, rfl⟩
            rw [← hE] at FA FB FC
            have EN := hide FA
            have WP : Hid (wrpR E xs = (unpN E xs E.length, true)) := if_pos ⟨FB, by omega⟩
            obtain ⟨U, hU⟩ : ∃ U, U = unpN E xs E.length := ⟨_, rfl⟩
            rw [← hU] at WP FC
            have uf : ¬ (U.length : Int) ≤ 2 * (t : Int) := by omega
            clear hd d1 d2 FA FB FC hE hU OMS OM BA HC2 hcf hcell HX HN hgm1 hgm2
            replace HC := hide (HC.out.below b)
            replace T := hide (T.out.below b)
            replace M := hide (M.out.below b)
            replace RX := hide (RX.out.below b)
            replace RV := hide (RV.out.below b)
            replace B := hide (B.out.trans (b.mono B.out.size))
            clear b
            go_wp2_with fail
            refine (Gf.encodeWord_calls _ (msgL xs t d) t _ T.out RM.out).mono ?_
            rw [EN.out]
            rintro e wn ⟨ev, rfl, oe, b⟩
            have RE := hide oe.rd
            clear oe
            replace HC := hide (HC.out.below b)
            replace T := hide (T.out.below b)
            replace M := hide (M.out.below b)
            replace RX := hide (RX.out.below b)
            replace RV := hide (RV.out.below b)
            replace B := hide (B.out.trans (b.mono B.out.size))
            clear b
            go_wp2_with fail
            refine (wrongPlaces_calls _ _ E xs _ RE.out RX.out).mono ?_
            rw [WP.out]
            rintro e wn ⟨pv, rfl, op, b⟩
            obtain ⟨pa, pc, hpv, _, _, _⟩ := op.rd
            subst hpv
            clear op
            replace HC := hide (HC.out.below b)
            replace T := hide (T.out.below b)
            replace M := hide (M.out.below b)
            replace RX := hide (RX.out.below b)
            replace RV := hide (RV.out.below b)
            replace RE := hide (RE.out.below b)
            replace B := hide (B.out.trans (b.mono B.out.size))
            clear b
            clear RE RM RX
            go_wp2_with fail
            refine (drawGeneratorOf_calls _ _ M.out).mono ?_
            rintro e wn ⟨gt, rfl, hgt, b⟩
            replace HC := hide (HC.out.below b)
            replace T := hide (T.out.below b)
            replace M := hide (M.out.below b)
            replace RV := hide (RV.out.below b)
            replace B := hide (B.out.trans (b.mono B.out.size))
            clear b
            clear hgt
            go_wp2_with fail
            refine (Gf.generatorOf_calls gt _ T.out).mono ?_
            rintro e wn ⟨pv, rfl, op, b⟩
            have RP := hide op.rd
            clear op
            replace HC := hide (HC.out.below b)
            replace T := hide (T.out.below b)
            replace M := hide (M.out.below b)
            replace RV := hide (RV.out.below b)
            replace B := hide (B.out.trans (b.mono B.out.size))
            clear b
            go_wp2_with fail
            refine (Gf.sGeneratorOf_calls gt _).mono ?_
            rintro e wn ⟨qv, rfl, oq, b⟩
            have RQ := hide oq.rd
            clear oq
            replace HC := hide (HC.out.below b)
            replace T := hide (T.out.below b)
            replace M := hide (M.out.below b)
            replace RV := hide (RV.out.below b)
            replace RP := hide (RP.out.below b)
            replace B := hide (B.out.trans (b.mono B.out.size))
            clear b
            go_wp2_with fail
            refine (drawWrongPlaces_calls _ _ M.out).mono ?_
            rintro e wn ⟨av, bv, ls1, ls2, rfl, ha, hb2, _, _, b⟩
            have RA := hide ha
            have RB := hide hb2
            clear ha hb2
            replace HC := hide (HC.out.below b)
            replace T := hide (T.out.below b)
            replace M := hide (M.out.below b)
            replace RV := hide (RV.out.below b)
            replace RP := hide (RP.out.below b)
            replace RQ := hide (RQ.out.below b)
            replace B := hide (B.out.trans (b.mono B.out.size))
            clear b
            go_wp2_with fail
            refine (wrongPlaces_calls _ _ ls1 ls2 _ RA.out RB.out).mono ?_
            rintro e wn ⟨uv, rfl, ou, b⟩
            have RU := hide ou.rd
            clear ou
            replace HC := hide (HC.out.below b)
            replace T := hide (T.out.below b)
            replace M := hide (M.out.below b)
            replace RV := hide (RV.out.below b)
            replace RP := hide (RP.out.below b)
            replace RQ := hide (RQ.out.below b)
            replace RA := hide (RA.out.below b)
            replace RB := hide (RB.out.below b)
            replace B := hide (B.out.trans (b.mono B.out.size))
            clear b
            go_wp2_with fail
            refine (sWrongPlaces_calls _ _ ls1 ls2 _ RA.out RB.out).mono ?_
            rintro e wn ⟨zv, rfl, oz, b⟩
            have RZ := hide oz.rd
            clear oz
            replace HC := hide (HC.out.below b)
            replace T := hide (T.out.below b)
            replace M := hide (M.out.below b)
            replace RV := hide (RV.out.below b)
            replace RP := hide (RP.out.below b)
            replace RQ := hide (RQ.out.below b)
            replace RA := hide (RA.out.below b)
            replace RB := hide (RB.out.below b)
            replace RU := hide (RU.out.below b)
            replace B := hide (B.out.trans (b.mono B.out.size))
            clear b
            obtain ⟨g1, hg1⟩ : ∃ b, b = (Gf.genR gt).2 := ⟨_, rfl⟩
            obtain ⟨g2, hg2⟩ : ∃ b, b = (wrpR ls1 ls2).2 := ⟨_, rfl⟩
            rw [← hg1, ← hg2]
            clear hg1 hg2
            have tg1 : (g1 == g1) = true := by simp
            have tg2 : (g2 == g2) = true := by simp
            go_wp2_with fail
            refine (sameInts_same _ _ _ _ RP.out RQ.out).mono ?_
            rintro e wn ⟨rfl, b⟩
            replace HC := hide (HC.out.below b)
            replace T := hide (T.out.below b)
            replace M := hide (M.out.below b)
            replace RV := hide (RV.out.below b)
            replace RP := hide (RP.out.below b)
            replace RQ := hide (RQ.out.below b)
            replace RA := hide (RA.out.below b)
            replace RB := hide (RB.out.below b)
            replace RU := hide (RU.out.below b)
            replace RZ := hide (RZ.out.below b)
            replace B := hide (B.out.trans (b.mono B.out.size))
            clear b
            go_wp2_with fail
            refine (sameInts_same _ _ _ _ RU.out RZ.out).mono ?_
            rintro e wn ⟨rfl, b⟩
            replace HC := hide (HC.out.below b)
            replace T := hide (T.out.below b)
            replace M := hide (M.out.below b)
            replace RV := hide (RV.out.below b)
            replace RP := hide (RP.out.below b)
            replace RQ := hide (RQ.out.below b)
            replace RA := hide (RA.out.below b)
            replace RB := hide (RB.out.below b)
            replace RU := hide (RU.out.below b)
            replace RZ := hide (RZ.out.below b)
            replace B := hide (B.out.trans (b.mono B.out.size))
            clear b
            go_wp2
            go_ret
            exact ⟨rfl, B.out⟩
    | false =>
      have IB := hide hib
      rw [hib] at SI
      clear hib
      go_wp2
      go_loop [20, 134] (fun vz vk => ∃ (k : Nat) (z : Bool), k ≤ S.length ∧ vk = .int .i64 k ∧ vz = .bool z ∧ z = (S.take k).all nought) (fun _ vk => S.length - (intOf vk).toNat)
      case atStart => exact ⟨0, true, Nat.zero_le _, rfl, rfl, by simp⟩
      case round =>
        obtain ⟨k, z, hk, rfl, rfl, hz⟩ := hrel
        have Z := hide hz
        clear hz
        by_cases hlt : k < S.length
        · have hlt' : (k : Int) < (S.length : Int) := by omega
          obtain ⟨sb, so, su, rfl, hc1, hu⟩ := RV.out.row k hlt
          obtain ⟨r, hr⟩ : ∃ r, r = S.getD k 0 := ⟨_, rfl⟩
          rw [← hr] at hu
          subst hu
          have hnx : (S.take (k + 1)).all nought = (z && nought r) := by
            rw [Gf.take_snoc2 S k hlt, List.all_append, Z.out, hr]
            simp
          have NX := hide hnx
          clear hr hnx
          cases z with
          | false =>
            go_wp2
            go_round
            case rel => exact ⟨k + 1, false, by omega, by go_num, rfl, by rw [NX.out]; rfl⟩
            case measure => simp [intOf]; omega
          | true =>
            by_cases hr0 : r = 0
            · have tr : (r == 0) = true := by simp [hr0]
              have NR : Hid (nought r = true) := by show nought r = true; simp [nought, hr0]
              clear hr0
              go_wp2
              go_round
              case rel => exact ⟨k + 1, true, by omega, by go_num, by rw [← tr], by rw [NX.out, NR.out]; rfl⟩
              case measure => simp [intOf]; omega
            · have tr : (r == 0) = false := by simp [hr0]
              have NR : Hid (nought r = false) := by show nought r = false; simp [nought, hr0]
              clear hr0
              go_wp2
              go_round
              case rel => exact ⟨k + 1, false, by omega, by go_num, by rw [← tr], by rw [NX.out, NR.out]; rfl⟩
              case measure => simp [intOf]; omega
        · obtain rfl : k = S.length := by omega
          have hz2 : z = false := by
            have := Z.out
            rw [List.take_of_length_le (Nat.le_refl _), ← SI.out] at this
            exact this
          subst hz2
          go_wp2_with fail
          refine (drawGeneratorOf_calls _ _ M.out).mono ?_
          rintro e wn ⟨gt, rfl, hgt, b⟩
          replace HC := hide (HC.out.below b)
          replace T := hide (T.out.below b)
          replace M := hide (M.out.below b)
          replace RX := hide (RX.out.below b)
          replace RV := hide (RV.out.below b)
          replace B := hide (B.out.trans (b.mono B.out.size))
          clear b
          clear hgt
          go_wp2_with fail
          refine (Gf.generatorOf_calls gt _ T.out).mono ?_
          rintro e wn ⟨pv, rfl, op, b⟩
          have RP := hide op.rd
          clear op
          replace HC := hide (HC.out.below b)
          replace T := hide (T.out.below b)
          replace M := hide (M.out.below b)
          replace RX := hide (RX.out.below b)
          replace RV := hide (RV.out.below b)
          replace B := hide (B.out.trans (b.mono B.out.size))
          clear b
          go_wp2_with fail
          refine (Gf.sGeneratorOf_calls gt _).mono ?_
          rintro e wn ⟨qv, rfl, oq, b⟩
          have RQ := hide oq.rd
          clear oq
          replace HC := hide (HC.out.below b)
          replace T := hide (T.out.below b)
          replace M := hide (M.out.below b)
          replace RX := hide (RX.out.below b)
          replace RV := hide (RV.out.below b)
          replace RP := hide (RP.out.below b)
          replace B := hide (B.out.trans (b.mono B.out.size))
          clear b
          go_wp2_with fail
          refine (drawWrongPlaces_calls _ _ M.out).mono ?_
          rintro e wn ⟨av, bv, ls1, ls2, rfl, ha, hb2, _, _, b⟩
          have RA := hide ha
          have RB := hide hb2
          clear ha hb2
          replace HC := hide (HC.out.below b)
          replace T := hide (T.out.below b)
          replace M := hide (M.out.below b)
          replace RX := hide (RX.out.below b)
          replace RV := hide (RV.out.below b)
          replace RP := hide (RP.out.below b)
          replace RQ := hide (RQ.out.below b)
          replace B := hide (B.out.trans (b.mono B.out.size))
          clear b
          go_wp2_with fail
          refine (wrongPlaces_calls _ _ ls1 ls2 _ RA.out RB.out).mono ?_
          rintro e wn ⟨uv, rfl, ou, b⟩
          have RU := hide ou.rd
          clear ou
          replace HC := hide (HC.out.below b)
          replace T := hide (T.out.below b)
          replace M := hide (M.out.below b)
          replace RX := hide (RX.out.below b)
          replace RV := hide (RV.out.below b)
          replace RP := hide (RP.out.below b)
          replace RQ := hide (RQ.out.below b)
          replace RA := hide (RA.out.below b)
          replace RB := hide (RB.out.below b)
          replace B := hide (B.out.trans (b.mono B.out.size))
          clear b
          go_wp2_with fail
          refine (sWrongPlaces_calls _ _ ls1 ls2 _ RA.out RB.out).mono ?_
          rintro e wn ⟨zv, rfl, oz, b⟩
          have RZ := hide oz.rd
          clear oz
          replace HC := hide (HC.out.below b)
          replace T := hide (T.out.below b)
          replace M := hide (M.out.below b)
          replace RX := hide (RX.out.below b)
          replace RV := hide (RV.out.below b)
          replace RP := hide (RP.out.below b)
          replace RQ := hide (RQ.out.below b)
          replace RA := hide (RA.out.below b)
          replace RB := hide (RB.out.below b)
          replace RU := hide (RU.out.below b)
          replace B := hide (B.out.trans (b.mono B.out.size))
          clear b
          obtain ⟨g1, hg1⟩ : ∃ b, b = (Gf.genR gt).2 := ⟨_, rfl⟩
          obtain ⟨g2, hg2⟩ : ∃ b, b = (wrpR ls1 ls2).2 := ⟨_, rfl⟩
          rw [← hg1, ← hg2]
          clear hg1 hg2
          have tg1 : (g1 == g1) = true := by simp
          have tg2 : (g2 == g2) = true := by simp
          go_wp2_with fail
          refine (sameInts_same _ _ _ _ RP.out RQ.out).mono ?_
          rintro e wn ⟨rfl, b⟩
          replace HC := hide (HC.out.below b)
          replace T := hide (T.out.below b)
          replace M := hide (M.out.below b)
          replace RX := hide (RX.out.below b)
          replace RV := hide (RV.out.below b)
          replace RP := hide (RP.out.below b)
          replace RQ := hide (RQ.out.below b)
          replace RA := hide (RA.out.below b)
          replace RB := hide (RB.out.below b)
          replace RU := hide (RU.out.below b)
          replace RZ := hide (RZ.out.below b)
          replace B := hide (B.out.trans (b.mono B.out.size))
          clear b
          go_wp2_with fail
          refine (sameInts_same _ _ _ _ RU.out RZ.out).mono ?_
          rintro e wn ⟨rfl, b⟩
          replace HC := hide (HC.out.below b)
          replace T := hide (T.out.below b)
          replace M := hide (M.out.below b)
          replace RX := hide (RX.out.below b)
          replace RV := hide (RV.out.below b)
          replace RP := hide (RP.out.below b)
          replace RQ := hide (RQ.out.below b)
          replace RA := hide (RA.out.below b)
          replace RB := hide (RB.out.below b)
          replace RU := hide (RU.out.below b)
          replace RZ := hide (RZ.out.below b)
          replace B := hide (B.out.trans (b.mono B.out.size))
          clear b
          go_wp2
          go_ret
          exact ⟨rfl, B.out⟩
end Go.Proofs.YtogopakmebiomaaDoor

namespace Go.Proofs.YtogopakmebiomaaDoor
open Go.RowKit

theorem IsRow.rdbLocators {w : World} {a : Option Addr} {len cap : Nat} {zs : List Int} (h : Frame.IsRow .u8 w a len cap zs) (hb : len ≤ 140737488351232) : RdB w (.slice a len cap) := by
  rcases h with ⟨rfl, rfl, rfl, rfl⟩ | ⟨⟨b, off, sp⟩, rfl, hl, hm, hz, hc, hwf⟩
  · exact ⟨none, 0, [], rfl, by simp, fun i => by simp, .inl rfl⟩
  · have bd : ∀ n ∈ zs, 0 ≤ n ∧ n ≤ 255 := by
      intro n hn
      have := hwf n hn
      simp [Lit.wf, IntKind.min, IntKind.max, IntKind.signed, IntKind.bits] at this
      omega
    have el : ((zs.take len).map Int.toNat).length = len := by rw [List.length_map, List.length_take]; omega
    refine ⟨_, cap, (zs.take len).map Int.toNat, by rw [el], by rw [el]; omega, ?_, ?_⟩
    · intro i
      simp only [List.getD_eq_getElem?_getD, List.getElem?_map, List.getElem?_take]
      split
      · cases hx : zs[i]? with
        | none => simp
        | some n => have := bd n (List.mem_of_getElem? hx); simp; omega
      · simp
    · by_cases h0 : len = 0
      · left
        subst h0
        simp
      · right
        have h00 := hc 0 (by omega)
        obtain rfl : sp = none := by simpa [Addr.add] using World.cell?_spot h00
        refine ⟨b, off, rfl, ?_, ?_⟩
        · have : w.cell? ⟨b, off, none⟩ = some (.int .u8 (zs.getD 0 0)) := by simpa [Addr.add] using h00
          unfold World.cell? at this
          cases hh : w.heap[b]? with
          | none => simp [hh] at this
          | some o => exact (Array.getElem?_eq_some_iff.1 hh).1
        · intro i hi
          rw [el] at hi
          have := hc i (by omega)
          have hadd : (⟨b, off, none⟩ : Addr).add i = ⟨b, off + i, none⟩ := by unfold Addr.add; split <;> simp_all
          rw [hadd] at this
          rw [this]
          have hiz : i < zs.length := by omega
          have hn := bd zs[i] (List.getElem_mem hiz)
          simp only [List.getD_eq_getElem?_getD, List.getElem?_map, List.getElem?_take, if_pos hi, List.getElem?_eq_getElem hiz, Option.map_some, Option.getD_some]
          congr 2
          omega

set_option maxRecDepth 100000 in
set_option maxHeartbeats 800000 in
theorem fnLocators_walk (a : Option Addr) (len cap : Nat) (zs : List Int) (a' : Option Addr) (len' cap' : Nat) (zs' : List Int) (w : World) (hT : Gf.Tab w) (h0 : Frame.IsRow .u8 w a len cap zs) (h1 : Frame.IsRow .u8 w a' len' cap' zs') (b0 : len ≤ 140737488351232) (b1 : len' ≤ 140737488351232) :
    Calls Tryd.prog 10 #[.slice a len cap, .slice a' len' cap'] w fun e w' => e = .returned (.bool true) ∧ Below w.heap.size w w' := by
  by_cases h : (len : Int) + (len' : Int) ≤ 1048576
  · refine fnLocators_core _ _ w hT (IsRow.rdbLocators h0 b0) (IsRow.rdbLocators h1 b1) ?_
    intro _ n _ _ n' _ e e'
    simp only [Value.slice.injEq] at e e'
    omega
  · have h' : (1048576 : Int) < (len : Int) + (len' : Int) := by omega
    clear h hT h0 h1
    go_enter Tryd.func10, Tryd.ntmps10
    go_wp2
    go_ret
    exact ⟨rfl, Below.refl _ _⟩
end Go.Proofs.YtogopakmebiomaaDoor

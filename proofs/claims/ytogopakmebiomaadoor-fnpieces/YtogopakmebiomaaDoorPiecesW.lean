/-
  The law of pieces: at every two texts that can be read and are not too long the call returns true, and nothing that was there is written. The program's table of rests must hold its seven numbers.
-/
import Derived.Test.YtogopakmebiomaaDoorPieD
import Derived.Test.YtogopakmebiomaaDoorDrawO
import Derived.Test.YtogopakmebiomaaDoorSameA
import Derived.Test.YtogopakmebiomaaDoorSameL
import Derived.Test.YtogopakmebiomaaDoorSDist
import Derived.Test.YtogopakmebiomaaDoorRise
namespace Go.Proofs.YtogopakmebiomaaDoor
open Go.RowKit

set_option maxRecDepth 100000 in
set_option maxHeartbeats 12800000 in
theorem fnPieces_core (cv mv : Value) (w : World) (hT : Gf.Tab w) (hc : RdB w cv) (hm : RdB w mv) (hlen : ∀ a n c a' n' c', cv = .slice a n c → mv = .slice a' n' c' → (n : Int) + (n' : Int) ≤ 1048576) :
    Calls Tryd.prog 12 #[cv, mv] w fun e w' => e = .returned (.bool true) ∧ Below w.heap.size w w' := by
  have HC := hide hc
  have HM := hide hm
  have T := hide hT
  have B := hide (Below.refl w.heap.size w)
  obtain ⟨ca, cc, cz, rfl, _, _, _⟩ := hc
  obtain ⟨ma, mc, mz, rfl, _, _, _⟩ := hm
  have hl := hlen _ _ _ _ _ _ rfl rfl
  have hl' : ¬ (1048576 : Int) < (cz.length : Int) + (mz.length : Int) := by omega
  clear hlen hT
  go_enter Tryd.func12, Tryd.ntmps12
  go_wp2_with fail
  refine (drawUpdatePiece_calls _ _ HC.out).mono ?_
  rintro e wn ⟨d, q, k, mv, pv, m, p, rfl, hm, hp, hx, b⟩
  obtain ⟨⟨d1, d5⟩, ⟨q1, q4⟩, hml, hk, hpl⟩ := hx
  have RM := hide hm
  have RP := hide hp
  have ML := hide hml
  have m9 : m.length ≤ 9 := by omega
  have m0 : d ≤ m.length := by omega
  clear hm hp hml HC
  replace T := hide (T.out.below b)
  replace HM := hide (HM.out.below b)
  replace B := hide (B.out.trans (b.mono B.out.size))
  clear b
  have EF := hide (@upd_open d q k m p)
  obtain ⟨Ub, hUb⟩ : ∃ x, x = (updR d q m k p).2 := ⟨_, rfl⟩
  obtain ⟨U, hU⟩ : ∃ x, x = (updR d q m k p).1 := ⟨_, rfl⟩
  have E1 := hide hUb
  have E2 := hide hU
  clear hUb hU
  obtain ⟨mma, mmc, rfl, _, _, _⟩ := RM.out
  obtain ⟨pa, pc, rfl, _, _, _⟩ := RP.out
  go_wp2_with fail
  refine (updatePiece_calls d q k _ _ m p _ T.out RM.out RP.out).mono ?_
  rw [← E1.out, ← E2.out]
  rintro e wn ⟨uv, rfl, ou, b⟩
  have RU := hide ou.rd
  clear ou
  replace T := hide (T.out.below b)
  replace HM := hide (HM.out.below b)
  replace RM := hide (RM.out.below b)
  replace RP := hide (RP.out.below b)
  replace B := hide (B.out.trans (b.mono B.out.size))
  clear b
  go_wp2_with fail
  refine (sUpdatePiece_calls d q k _ _ m p _ RM.out RP.out).mono ?_
  rw [← E1.out, ← E2.out]
  rintro e wn ⟨u2v, rfl, ou2, b⟩
  have RU2 := hide ou2.rd
  clear ou2
  replace T := hide (T.out.below b)
  replace HM := hide (HM.out.below b)
  replace RM := hide (RM.out.below b)
  replace RP := hide (RP.out.below b)
  replace RU := hide (RU.out.below b)
  replace B := hide (B.out.trans (b.mono B.out.size))
  clear b
  have tw : (Ub != Ub) = false := by simp
  go_wp2_with fail
  refine (sameLists_same _ _ U _ RU.out RU2.out).mono ?_
  rintro e wn ⟨rfl, b⟩
  replace T := hide (T.out.below b)
  replace HM := hide (HM.out.below b)
  replace RM := hide (RM.out.below b)
  replace RP := hide (RP.out.below b)
  replace RU := hide (RU.out.below b)
  replace RU2 := hide (RU2.out.below b)
  replace B := hide (B.out.trans (b.mono B.out.size))
  clear b
  clear RU2
  cases Ub with
  | false =>
    clear EF E1 E2 RM RP RU
    go_wp2_with fail
    refine (drawDistanceOf_calls _ _ HM.out).mono ?_
    rintro e wn ⟨av, bv, a, bb, rfl, ha, hb, hab, b⟩
    have RA := hide ha
    have RB := hide hb
    clear ha hb hab
    replace T := hide (T.out.below b)
    replace HM := hide (HM.out.below b)
    replace B := hide (B.out.trans (b.mono B.out.size))
    clear b
    obtain ⟨n1, hn1⟩ : ∃ x, x = (distR a bb).1 := ⟨_, rfl⟩
    obtain ⟨n2, hn2⟩ : ∃ x, x = (distR a bb).2 := ⟨_, rfl⟩
    have N1 := hide hn1
    have N2 := hide hn2
    clear hn1 hn2
    go_wp2_with fail
    refine (distanceOf_calls _ _ a bb _ RA.out RB.out).mono ?_
    rw [← N1.out, ← N2.out]
    rintro e wn ⟨rfl, b⟩
    replace T := hide (T.out.below b)
    replace HM := hide (HM.out.below b)
    replace RA := hide (RA.out.below b)
    replace RB := hide (RB.out.below b)
    replace B := hide (B.out.trans (b.mono B.out.size))
    clear b
    go_wp2_with fail
    refine (sDistanceOf_calls _ _ a bb _ RA.out RB.out).mono ?_
    rw [← N1.out, ← N2.out]
    rintro e wn ⟨rfl, b⟩
    replace T := hide (T.out.below b)
    replace HM := hide (HM.out.below b)
    replace RA := hide (RA.out.below b)
    replace RB := hide (RB.out.below b)
    replace B := hide (B.out.trans (b.mono B.out.size))
    clear b
    clear RA RB N1 N2
    go_wp2_with fail
    refine (drawCheckPieces_calls _ _ HM.out).mono ?_
    rintro e wn ⟨d2, q2, lv, l2, rfl, hl2, hx2, b⟩
    have RL := hide hl2
    clear hl2 hx2
    replace T := hide (T.out.below b)
    replace HM := hide (HM.out.below b)
    replace B := hide (B.out.trans (b.mono B.out.size))
    clear b
    obtain ⟨c1, hc1⟩ : ∃ x, x = (chkR d2 q2 l2).1 := ⟨_, rfl⟩
    obtain ⟨c2, hc2⟩ : ∃ x, x = (chkR d2 q2 l2).2 := ⟨_, rfl⟩
    have N1 := hide hc1
    have N2 := hide hc2
    clear hc1 hc2
    go_wp2_with fail
    refine (checkPieces_calls d2 q2 _ l2 _ T.out RL.out).mono ?_
    rw [← N1.out, ← N2.out]
    rintro e wn ⟨rfl, b⟩
    replace T := hide (T.out.below b)
    replace HM := hide (HM.out.below b)
    replace RL := hide (RL.out.below b)
    replace B := hide (B.out.trans (b.mono B.out.size))
    clear b
    go_wp2_with fail
    refine (sCheckPieces_calls d2 q2 _ l2 _ RL.out).mono ?_
    rw [← N1.out, ← N2.out]
    rintro e wn ⟨rfl, b⟩
    replace T := hide (T.out.below b)
    replace HM := hide (HM.out.below b)
    replace RL := hide (RL.out.below b)
    replace B := hide (B.out.trans (b.mono B.out.size))
    clear b
    clear RL N1 N2
    go_wp2_with fail
    refine (drawCanDecode_calls _ _ HM.out).mono ?_
    rintro e wn ⟨d3, q3, xv, xs, rfl, hx, hx3, b⟩
    have RX := hide hx
    clear hx hx3
    replace T := hide (T.out.below b)
    replace HM := hide (HM.out.below b)
    replace B := hide (B.out.trans (b.mono B.out.size))
    clear b
    obtain ⟨e1, he1⟩ : ∃ x, x = (canR d3 q3 xs).1 := ⟨_, rfl⟩
    obtain ⟨e2, he2⟩ : ∃ x, x = (canR d3 q3 xs).2 := ⟨_, rfl⟩
    have N1 := hide he1
    have N2 := hide he2
    clear he1 he2
    go_wp2_with fail
    refine (canDecode_calls d3 q3 _ xs _ RX.out).mono ?_
    rw [← N1.out, ← N2.out]
    rintro e wn ⟨rfl, b⟩
    replace T := hide (T.out.below b)
    replace HM := hide (HM.out.below b)
    replace RX := hide (RX.out.below b)
    replace B := hide (B.out.trans (b.mono B.out.size))
    clear b
    go_wp2_with fail
    refine (sCanDecode_calls d3 q3 _ xs _ RX.out).mono ?_
    rw [← N1.out, ← N2.out]
    rintro e wn ⟨rfl, b⟩
    replace T := hide (T.out.below b)
    replace HM := hide (HM.out.below b)
    replace RX := hide (RX.out.below b)
    replace B := hide (B.out.trans (b.mono B.out.size))
    clear b
    have t1 : (n1 == n1) = true := by simp
    have t2 : (n2 == n2) = true := by simp
    have t3 : (c1 == c1) = true := by simp
    have t4 : (c2 == c2) = true := by simp
    have t5 : (e1 == e1) = true := by simp
    have t6 : (e2 == e2) = true := by simp
    go_wp2
    go_ret
    exact ⟨rfl, B.out⟩
  | true =>
    obtain ⟨g1, g2⟩ := EF.out E1.out.symm
    obtain ⟨is, dd, en, hF⟩ := pie_facts g2
    rw [← g1, ← E2.out] at hF
    have hkd : k < d := g2.k1
    have hUl : U.length = m.length := by rw [E2.out, g1, updM_length]
    have HUL := hide hUl
    clear hUl
    have F1 := hide hF.one
    have F2 := hide hF.two
    have F3 := hide hF.three
    have F4 := hide hF.four
    have FP := hide hF.put
    have FF := hide hF.far
    have FS := hide hF.same
    clear EF E1 E2 g1 g2 hF
    go_wp2_with fail
    refine (checkPieces_calls d q _ m _ T.out RM.out).mono ?_
    rw [F1.out]
    rintro e wn ⟨rfl, b⟩
    replace T := hide (T.out.below b)
    replace HM := hide (HM.out.below b)
    replace RM := hide (RM.out.below b)
    replace RP := hide (RP.out.below b)
    replace RU := hide (RU.out.below b)
    replace B := hide (B.out.trans (b.mono B.out.size))
    clear b
    go_wp2_with fail
    refine (checkPieces_calls d q _ U _ T.out RU.out).mono ?_
    rw [F2.out]
    rintro e wn ⟨rfl, b⟩
    replace T := hide (T.out.below b)
    replace HM := hide (HM.out.below b)
    replace RM := hide (RM.out.below b)
    replace RP := hide (RP.out.below b)
    replace RU := hide (RU.out.below b)
    replace B := hide (B.out.trans (b.mono B.out.size))
    clear b
    obtain ⟨ua, uc, rfl, _, _, _⟩ := RU.out
    go_wp2_with fail
    refine (distanceOf_calls _ _ m U _ RM.out RU.out).mono ?_
    rw [F3.out]
    rintro e wn ⟨rfl, b⟩
    replace T := hide (T.out.below b)
    replace HM := hide (HM.out.below b)
    replace RM := hide (RM.out.below b)
    replace RP := hide (RP.out.below b)
    replace RU := hide (RU.out.below b)
    replace B := hide (B.out.trans (b.mono B.out.size))
    clear b
    have hUl := HUL.out
    obtain ⟨ub, uo, uk, rfl, hub, huc, huk⟩ := RU.out.rowAt k (by omega)
    rw [FP.out] at huk
    obtain ⟨mb, mo, mk, rfl, hmb, hmc, hmk⟩ := RM.out.rowAt k (by omega)
    have RUK := hide huk
    have RMK := hide hmk
    have i1 : (k : Int) < (U.length : Int) := by omega
    have i2 : (k : Int) < (m.length : Int) := by omega
    have ti : (is != is) = false := by simp
    clear huk hmk hUl
    obtain ⟨W0, rfl⟩ : ∃ W, W = wn := ⟨_, rfl⟩
    go_wp2_with fail
    refine (sameInts_same _ _ p _ RUK.out RP.out).mono ?_
    rintro e wn ⟨rfl, b⟩
    have hmc2 : wn.cell? ⟨mb, mo + k, none⟩ = some mk := (b.cell (p := ⟨mb, mo + k, none⟩) hmb).trans hmc
    clear huc hmc hub hmb
    clear RUK
    replace T := hide (T.out.below b)
    replace HM := hide (HM.out.below b)
    replace RM := hide (RM.out.below b)
    replace RP := hide (RP.out.below b)
    replace RU := hide (RU.out.below b)
    replace RMK := hide (RMK.out.below b)
    replace B := hide (B.out.trans (b.mono B.out.size))
    clear b
    cases is with
    | false =>
      clear RMK hmc2
      obtain ⟨us, hus, hul, hur⟩ := rdM_vals RM.out d (by omega)
      obtain ⟨W1, rfl⟩ : ∃ W, W = wn := ⟨_, rfl⟩
      have OO : Hid ((W1.alloc (.cells #[] 22)).ownsRow W1.heap.size 22 1 (.slice (some ⟨W1.heap.size, 0, none⟩) 0 0) 0 []) := World.ownsRow_lit W1 #[] 0 (Nat.le_refl _) (by decide) (by rfl)
      have VV := hide (hus.below ((Below.refl W1.heap.size W1).alloc (Nat.le_refl _) (.cells #[] 22)))
      have UR := hide hur
      clear hus hur
      have UL := hide hul
      clear hul
      go_wp2_with (at_builtin; refine wpList_append_vals rfl (.tmp 146) (.tmp 149) rfl W1.heap.size _ _ [] us rfl rfl OO.out VV.out (by rw [UL.out]; omega) (by simp) (by rw [UL.out]; omega) (by simp) ?_)
      intro v2 wn ho2 hg2
      have b : Below W1.heap.size W1 wn := ((Below.refl W1.heap.size W1).alloc (Nat.le_refl _) _).grown hg2 (by simp) (fun i hi => by cases hi; exact Nat.le_refl _)
      have ho3 : wn.ownsRow W1.heap.size 22 1 v2 d us := by
        have := ho2
        rw [UL.out] at this
        exact this
      obtain ⟨gs, cs, rfl, hgs⟩ : ∃ g c, v2 = .slice (some ⟨g, 0, none⟩) d c ∧ W1.heap.size ≤ g := by
        rcases ho3.2 with ⟨_, h⟩ | ⟨g, cap, cur, rfl, hb, _⟩
        · omega
        · exact ⟨g, cap, rfl, hb⟩
      have hfz := ho3.frozenAt k
      obtain ⟨old, hold⟩ : ∃ old, wn.cell? ⟨gs, k, none⟩ = some old := by
        rw [ho3.cellAt k (by omega)]
        exact ⟨_, List.getElem?_eq_getElem (by rw [UL.out]; exact hkd)⟩
      have ST := hide (ho3.stored k (.slice pa p.length pc))
      have BA := hide b
      clear ho2 hg2 ho3
      obtain ⟨W2, hW2⟩ : ∃ W, W = wn.setCell ⟨gs, k, none⟩ (.slice pa p.length pc) := ⟨_, rfl⟩
      have BS : Hid (Below W1.heap.size W1 W2) := by
        have := ST.out.2
        rw [← hW2] at this
        exact BA.out.grown this BA.out.size (fun i hi => by cases hi; exact hgs)
      have RN : Hid (RdM W2 (.slice (some ⟨gs, 0, none⟩) d cs) ((m.take d).set k p)) := by
        have h1 := ST.out.1
        rw [← hW2] at h1
        refine rdM_own h1 (by rw [List.length_set, UL.out]) (by simp; omega) fun i hi => ?_
        rw [getD_set _ _ _ _ _ (by rw [UL.out]; exact hkd), getD_set _ _ _ _ _ (by simp; omega)]
        by_cases e : i = k
        · rw [if_pos e, if_pos e]; exact RP.out.below BS.out
        · rw [if_neg e, if_neg e, take_get _ _ _ hi]; exact (UR.out i hi).below BS.out
      have HW2 := hide hW2
      replace T := hide (T.out.below BS.out)
      replace HM := hide (HM.out.below BS.out)
      replace RM := hide (RM.out.below BS.out)
      replace RP := hide (RP.out.below BS.out)
      replace RU := hide (RU.out.below BS.out)
      replace B := hide (B.out.trans (BS.out.mono B.out.size))
      clear BA BS ST VV OO UR UL b
      rw [HW2.out] at T HM RM RP RU B RN
      clear hW2 HW2 W2
      go_wp2_with fail
      refine (encodePieces_calls _ ((m.take d).set k p) q _ T.out RN.out).mono ?_
      rw [F4.out]
      rintro e wn ⟨ev, rfl, oe, b⟩
      have RE := hide oe.rd
      clear oe
      replace T := hide (T.out.below b)
      replace HM := hide (HM.out.below b)
      replace RM := hide (RM.out.below b)
      replace RP := hide (RP.out.below b)
      replace RU := hide (RU.out.below b)
      replace RN := hide (RN.out.below b)
      replace B := hide (B.out.trans (b.mono B.out.size))
      clear b
      clear RM RP RU RN RE
      go_wp2_with fail
      refine (drawDistanceOf_calls _ _ HM.out).mono ?_
      rintro e wn ⟨av, bv, a, bb, rfl, ha, hb, hab, b⟩
      have RA := hide ha
      have RB := hide hb
      clear ha hb hab
      replace T := hide (T.out.below b)
      replace HM := hide (HM.out.below b)
      replace B := hide (B.out.trans (b.mono B.out.size))
      clear b
      obtain ⟨n1, hn1⟩ : ∃ x, x = (distR a bb).1 := ⟨_, rfl⟩
      obtain ⟨n2, hn2⟩ : ∃ x, x = (distR a bb).2 := ⟨_, rfl⟩
      have N1 := hide hn1
      have N2 := hide hn2
      clear hn1 hn2
      go_wp2_with fail
      refine (distanceOf_calls _ _ a bb _ RA.out RB.out).mono ?_
      rw [← N1.out, ← N2.out]
      rintro e wn ⟨rfl, b⟩
      replace T := hide (T.out.below b)
      replace HM := hide (HM.out.below b)
      replace RA := hide (RA.out.below b)
      replace RB := hide (RB.out.below b)
      replace B := hide (B.out.trans (b.mono B.out.size))
      clear b
      go_wp2_with fail
      refine (sDistanceOf_calls _ _ a bb _ RA.out RB.out).mono ?_
      rw [← N1.out, ← N2.out]
      rintro e wn ⟨rfl, b⟩
      replace T := hide (T.out.below b)
      replace HM := hide (HM.out.below b)
      replace RA := hide (RA.out.below b)
      replace RB := hide (RB.out.below b)
      replace B := hide (B.out.trans (b.mono B.out.size))
      clear b
      clear RA RB N1 N2
      go_wp2_with fail
      refine (drawCheckPieces_calls _ _ HM.out).mono ?_
      rintro e wn ⟨d2, q2, lv, l2, rfl, hl2, hx2, b⟩
      have RL := hide hl2
      clear hl2 hx2
      replace T := hide (T.out.below b)
      replace HM := hide (HM.out.below b)
      replace B := hide (B.out.trans (b.mono B.out.size))
      clear b
      obtain ⟨c1, hc1⟩ : ∃ x, x = (chkR d2 q2 l2).1 := ⟨_, rfl⟩
      obtain ⟨c2, hc2⟩ : ∃ x, x = (chkR d2 q2 l2).2 := ⟨_, rfl⟩
      have N1 := hide hc1
      have N2 := hide hc2
      clear hc1 hc2
      go_wp2_with fail
      refine (checkPieces_calls d2 q2 _ l2 _ T.out RL.out).mono ?_
      rw [← N1.out, ← N2.out]
      rintro e wn ⟨rfl, b⟩
      replace T := hide (T.out.below b)
      replace HM := hide (HM.out.below b)
      replace RL := hide (RL.out.below b)
      replace B := hide (B.out.trans (b.mono B.out.size))
      clear b
      go_wp2_with fail
      refine (sCheckPieces_calls d2 q2 _ l2 _ RL.out).mono ?_
      rw [← N1.out, ← N2.out]
      rintro e wn ⟨rfl, b⟩
      replace T := hide (T.out.below b)
      replace HM := hide (HM.out.below b)
      replace RL := hide (RL.out.below b)
      replace B := hide (B.out.trans (b.mono B.out.size))
      clear b
      clear RL N1 N2
      go_wp2_with fail
      refine (drawCanDecode_calls _ _ HM.out).mono ?_
      rintro e wn ⟨d3, q3, xv, xs, rfl, hx, hx3, b⟩
      have RX := hide hx
      clear hx hx3
      replace T := hide (T.out.below b)
      replace HM := hide (HM.out.below b)
      replace B := hide (B.out.trans (b.mono B.out.size))
      clear b
      obtain ⟨e1, he1⟩ : ∃ x, x = (canR d3 q3 xs).1 := ⟨_, rfl⟩
      obtain ⟨e2, he2⟩ : ∃ x, x = (canR d3 q3 xs).2 := ⟨_, rfl⟩
      have N1 := hide he1
      have N2 := hide he2
      clear he1 he2
      go_wp2_with fail
      refine (canDecode_calls d3 q3 _ xs _ RX.out).mono ?_
      rw [← N1.out, ← N2.out]
      rintro e wn ⟨rfl, b⟩
      replace T := hide (T.out.below b)
      replace HM := hide (HM.out.below b)
      replace RX := hide (RX.out.below b)
      replace B := hide (B.out.trans (b.mono B.out.size))
      clear b
      go_wp2_with fail
      refine (sCanDecode_calls d3 q3 _ xs _ RX.out).mono ?_
      rw [← N1.out, ← N2.out]
      rintro e wn ⟨rfl, b⟩
      replace T := hide (T.out.below b)
      replace HM := hide (HM.out.below b)
      replace RX := hide (RX.out.below b)
      replace B := hide (B.out.trans (b.mono B.out.size))
      clear b
      have t1 : (n1 == n1) = true := by simp
      have t2 : (n2 == n2) = true := by simp
      have t3 : (c1 == c1) = true := by simp
      have t4 : (c2 == c2) = true := by simp
      have t5 : (e1 == e1) = true := by simp
      have t6 : (e2 == e2) = true := by simp
      go_wp2
      go_ret
      exact ⟨rfl, B.out⟩
    | true =>
      obtain ⟨sb, hsb⟩ : ∃ b, b = decide (p = m.getD k []) := ⟨_, rfl⟩
      have SB := hide hsb
      clear hsb
      obtain ⟨W5, rfl⟩ : ∃ W, W = wn := ⟨_, rfl⟩
      go_wp2_with fail
      refine (sameInts_any _ _ p (m.getD k []) sb _ RP.out RMK.out SB.out).mono ?_
      rintro e wn ⟨rfl, nn, hnn⟩
      have b : Below W5.heap.size W5 wn := by rw [hnn]; exact below_drewN' nn
      clear hnn hmc2 RMK
      replace T := hide (T.out.below b)
      replace HM := hide (HM.out.below b)
      replace RM := hide (RM.out.below b)
      replace RP := hide (RP.out.below b)
      replace RU := hide (RU.out.below b)
      replace B := hide (B.out.trans (b.mono B.out.size))
      clear b
      cases sb with
      | true =>
        clear SB FF
        obtain ⟨us, hus, hul, hur⟩ := rdM_vals RM.out d (by omega)
        obtain ⟨W1, rfl⟩ : ∃ W, W = wn := ⟨_, rfl⟩
        have OO : Hid ((W1.alloc (.cells #[] 22)).ownsRow W1.heap.size 22 1 (.slice (some ⟨W1.heap.size, 0, none⟩) 0 0) 0 []) := World.ownsRow_lit W1 #[] 0 (Nat.le_refl _) (by decide) (by rfl)
        have VV := hide (hus.below ((Below.refl W1.heap.size W1).alloc (Nat.le_refl _) (.cells #[] 22)))
        have UR := hide hur
        clear hus hur
        have UL := hide hul
        clear hul
        go_wp2_with (at_builtin; refine wpList_append_vals rfl (.tmp 146) (.tmp 149) rfl W1.heap.size _ _ [] us rfl rfl OO.out VV.out (by rw [UL.out]; omega) (by simp) (by rw [UL.out]; omega) (by simp) ?_)
        intro v2 wn ho2 hg2
        have b : Below W1.heap.size W1 wn := ((Below.refl W1.heap.size W1).alloc (Nat.le_refl _) _).grown hg2 (by simp) (fun i hi => by cases hi; exact Nat.le_refl _)
        have ho3 : wn.ownsRow W1.heap.size 22 1 v2 d us := by
          have := ho2
          rw [UL.out] at this
          exact this
        obtain ⟨gs, cs, rfl, hgs⟩ : ∃ g c, v2 = .slice (some ⟨g, 0, none⟩) d c ∧ W1.heap.size ≤ g := by
          rcases ho3.2 with ⟨_, h⟩ | ⟨g, cap, cur, rfl, hb, _⟩
          · omega
          · exact ⟨g, cap, rfl, hb⟩
        have hfz := ho3.frozenAt k
        obtain ⟨old, hold⟩ : ∃ old, wn.cell? ⟨gs, k, none⟩ = some old := by
          rw [ho3.cellAt k (by omega)]
          exact ⟨_, List.getElem?_eq_getElem (by rw [UL.out]; exact hkd)⟩
        have ST := hide (ho3.stored k (.slice pa p.length pc))
        have BA := hide b
        clear ho2 hg2 ho3
        obtain ⟨W2, hW2⟩ : ∃ W, W = wn.setCell ⟨gs, k, none⟩ (.slice pa p.length pc) := ⟨_, rfl⟩
        have BS : Hid (Below W1.heap.size W1 W2) := by
          have := ST.out.2
          rw [← hW2] at this
          exact BA.out.grown this BA.out.size (fun i hi => by cases hi; exact hgs)
        have RN : Hid (RdM W2 (.slice (some ⟨gs, 0, none⟩) d cs) ((m.take d).set k p)) := by
          have h1 := ST.out.1
          rw [← hW2] at h1
          refine rdM_own h1 (by rw [List.length_set, UL.out]) (by simp; omega) fun i hi => ?_
          rw [getD_set _ _ _ _ _ (by rw [UL.out]; exact hkd), getD_set _ _ _ _ _ (by simp; omega)]
          by_cases e : i = k
          · rw [if_pos e, if_pos e]; exact RP.out.below BS.out
          · rw [if_neg e, if_neg e, take_get _ _ _ hi]; exact (UR.out i hi).below BS.out
        have HW2 := hide hW2
        replace T := hide (T.out.below BS.out)
        replace HM := hide (HM.out.below BS.out)
        replace RM := hide (RM.out.below BS.out)
        replace RP := hide (RP.out.below BS.out)
        replace RU := hide (RU.out.below BS.out)
        replace B := hide (B.out.trans (BS.out.mono B.out.size))
        clear BA BS ST VV OO UR UL b
        rw [HW2.out] at T HM RM RP RU B RN
        clear hW2 HW2 W2
        go_wp2_with fail
        refine (encodePieces_calls _ ((m.take d).set k p) q _ T.out RN.out).mono ?_
        rw [F4.out]
        rintro e wn ⟨ev, rfl, oe, b⟩
        have RE := hide oe.rd
        clear oe
        replace T := hide (T.out.below b)
        replace HM := hide (HM.out.below b)
        replace RM := hide (RM.out.below b)
        replace RP := hide (RP.out.below b)
        replace RU := hide (RU.out.below b)
        replace RN := hide (RN.out.below b)
        replace B := hide (B.out.trans (b.mono B.out.size))
        clear b
        replace RE := hide (by have := RE.out; rw [FS.out (by simp)] at this; exact this : RdM wn ev U)
        go_wp2_with fail
        refine (sameLists_same _ _ U _ RE.out RU.out).mono ?_
        rintro e wn ⟨rfl, b⟩
        replace T := hide (T.out.below b)
        replace HM := hide (HM.out.below b)
        replace RM := hide (RM.out.below b)
        replace RP := hide (RP.out.below b)
        replace RU := hide (RU.out.below b)
        replace RN := hide (RN.out.below b)
        replace RE := hide (RE.out.below b)
        replace B := hide (B.out.trans (b.mono B.out.size))
        clear b
        clear RM RP RU RN RE
        go_wp2_with fail
        refine (drawDistanceOf_calls _ _ HM.out).mono ?_
        rintro e wn ⟨av, bv, a, bb, rfl, ha, hb, hab, b⟩
        have RA := hide ha
        have RB := hide hb
        clear ha hb hab
        replace T := hide (T.out.below b)
        replace HM := hide (HM.out.below b)
        replace B := hide (B.out.trans (b.mono B.out.size))
        clear b
        obtain ⟨n1, hn1⟩ : ∃ x, x = (distR a bb).1 := ⟨_, rfl⟩
        obtain ⟨n2, hn2⟩ : ∃ x, x = (distR a bb).2 := ⟨_, rfl⟩
        have N1 := hide hn1
        have N2 := hide hn2
        clear hn1 hn2
        go_wp2_with fail
        refine (distanceOf_calls _ _ a bb _ RA.out RB.out).mono ?_
        rw [← N1.out, ← N2.out]
        rintro e wn ⟨rfl, b⟩
        replace T := hide (T.out.below b)
        replace HM := hide (HM.out.below b)
        replace RA := hide (RA.out.below b)
        replace RB := hide (RB.out.below b)
        replace B := hide (B.out.trans (b.mono B.out.size))
        clear b
        go_wp2_with fail
        refine (sDistanceOf_calls _ _ a bb _ RA.out RB.out).mono ?_
        rw [← N1.out, ← N2.out]
        rintro e wn ⟨rfl, b⟩
        replace T := hide (T.out.below b)
        replace HM := hide (HM.out.below b)
        replace RA := hide (RA.out.below b)
        replace RB := hide (RB.out.below b)
        replace B := hide (B.out.trans (b.mono B.out.size))
        clear b
        clear RA RB N1 N2
        go_wp2_with fail
        refine (drawCheckPieces_calls _ _ HM.out).mono ?_
        rintro e wn ⟨d2, q2, lv, l2, rfl, hl2, hx2, b⟩
        have RL := hide hl2
        clear hl2 hx2
        replace T := hide (T.out.below b)
        replace HM := hide (HM.out.below b)
        replace B := hide (B.out.trans (b.mono B.out.size))
        clear b
        obtain ⟨c1, hc1⟩ : ∃ x, x = (chkR d2 q2 l2).1 := ⟨_, rfl⟩
        obtain ⟨c2, hc2⟩ : ∃ x, x = (chkR d2 q2 l2).2 := ⟨_, rfl⟩
        have N1 := hide hc1
        have N2 := hide hc2
        clear hc1 hc2
        go_wp2_with fail
        refine (checkPieces_calls d2 q2 _ l2 _ T.out RL.out).mono ?_
        rw [← N1.out, ← N2.out]
        rintro e wn ⟨rfl, b⟩
        replace T := hide (T.out.below b)
        replace HM := hide (HM.out.below b)
        replace RL := hide (RL.out.below b)
        replace B := hide (B.out.trans (b.mono B.out.size))
        clear b
        go_wp2_with fail
        refine (sCheckPieces_calls d2 q2 _ l2 _ RL.out).mono ?_
        rw [← N1.out, ← N2.out]
        rintro e wn ⟨rfl, b⟩
        replace T := hide (T.out.below b)
        replace HM := hide (HM.out.below b)
        replace RL := hide (RL.out.below b)
        replace B := hide (B.out.trans (b.mono B.out.size))
        clear b
        clear RL N1 N2
        go_wp2_with fail
        refine (drawCanDecode_calls _ _ HM.out).mono ?_
        rintro e wn ⟨d3, q3, xv, xs, rfl, hx, hx3, b⟩
        have RX := hide hx
        clear hx hx3
        replace T := hide (T.out.below b)
        replace HM := hide (HM.out.below b)
        replace B := hide (B.out.trans (b.mono B.out.size))
        clear b
        obtain ⟨e1, he1⟩ : ∃ x, x = (canR d3 q3 xs).1 := ⟨_, rfl⟩
        obtain ⟨e2, he2⟩ : ∃ x, x = (canR d3 q3 xs).2 := ⟨_, rfl⟩
        have N1 := hide he1
        have N2 := hide he2
        clear he1 he2
        go_wp2_with fail
        refine (canDecode_calls d3 q3 _ xs _ RX.out).mono ?_
        rw [← N1.out, ← N2.out]
        rintro e wn ⟨rfl, b⟩
        replace T := hide (T.out.below b)
        replace HM := hide (HM.out.below b)
        replace RX := hide (RX.out.below b)
        replace B := hide (B.out.trans (b.mono B.out.size))
        clear b
        go_wp2_with fail
        refine (sCanDecode_calls d3 q3 _ xs _ RX.out).mono ?_
        rw [← N1.out, ← N2.out]
        rintro e wn ⟨rfl, b⟩
        replace T := hide (T.out.below b)
        replace HM := hide (HM.out.below b)
        replace RX := hide (RX.out.below b)
        replace B := hide (B.out.trans (b.mono B.out.size))
        clear b
        have t1 : (n1 == n1) = true := by simp
        have t2 : (n2 == n2) = true := by simp
        have t3 : (c1 == c1) = true := by simp
        have t4 : (c2 == c2) = true := by simp
        have t5 : (e1 == e1) = true := by simp
        have t6 : (e2 == e2) = true := by simp
        go_wp2
        go_ret
        exact ⟨rfl, B.out⟩
      | false =>
        have td : ¬ (dd : Int) ≤ (q : Int) := by
          have h1 := FF.out (by intro h; have := SB.out; rw [decide_eq_true h] at this; cases this)
          omega
        clear SB FF
        obtain ⟨us, hus, hul, hur⟩ := rdM_vals RM.out d (by omega)
        obtain ⟨W1, rfl⟩ : ∃ W, W = wn := ⟨_, rfl⟩
        have OO : Hid ((W1.alloc (.cells #[] 22)).ownsRow W1.heap.size 22 1 (.slice (some ⟨W1.heap.size, 0, none⟩) 0 0) 0 []) := World.ownsRow_lit W1 #[] 0 (Nat.le_refl _) (by decide) (by rfl)
        have VV := hide (hus.below ((Below.refl W1.heap.size W1).alloc (Nat.le_refl _) (.cells #[] 22)))
        have UR := hide hur
        clear hus hur
        have UL := hide hul
        clear hul
        go_wp2_with (at_builtin; refine wpList_append_vals rfl (.tmp 146) (.tmp 149) rfl W1.heap.size _ _ [] us rfl rfl OO.out VV.out (by rw [UL.out]; omega) (by simp) (by rw [UL.out]; omega) (by simp) ?_)
        intro v2 wn ho2 hg2
        have b : Below W1.heap.size W1 wn := ((Below.refl W1.heap.size W1).alloc (Nat.le_refl _) _).grown hg2 (by simp) (fun i hi => by cases hi; exact Nat.le_refl _)
        have ho3 : wn.ownsRow W1.heap.size 22 1 v2 d us := by
          have := ho2
          rw [UL.out] at this
          exact this
        obtain ⟨gs, cs, rfl, hgs⟩ : ∃ g c, v2 = .slice (some ⟨g, 0, none⟩) d c ∧ W1.heap.size ≤ g := by
          rcases ho3.2 with ⟨_, h⟩ | ⟨g, cap, cur, rfl, hb, _⟩
          · omega
          · exact ⟨g, cap, rfl, hb⟩
        have hfz := ho3.frozenAt k
        obtain ⟨old, hold⟩ : ∃ old, wn.cell? ⟨gs, k, none⟩ = some old := by
          rw [ho3.cellAt k (by omega)]
          exact ⟨_, List.getElem?_eq_getElem (by rw [UL.out]; exact hkd)⟩
        have ST := hide (ho3.stored k (.slice pa p.length pc))
        have BA := hide b
        clear ho2 hg2 ho3
        obtain ⟨W2, hW2⟩ : ∃ W, W = wn.setCell ⟨gs, k, none⟩ (.slice pa p.length pc) := ⟨_, rfl⟩
        have BS : Hid (Below W1.heap.size W1 W2) := by
          have := ST.out.2
          rw [← hW2] at this
          exact BA.out.grown this BA.out.size (fun i hi => by cases hi; exact hgs)
        have RN : Hid (RdM W2 (.slice (some ⟨gs, 0, none⟩) d cs) ((m.take d).set k p)) := by
          have h1 := ST.out.1
          rw [← hW2] at h1
          refine rdM_own h1 (by rw [List.length_set, UL.out]) (by simp; omega) fun i hi => ?_
          rw [getD_set _ _ _ _ _ (by rw [UL.out]; exact hkd), getD_set _ _ _ _ _ (by simp; omega)]
          by_cases e : i = k
          · rw [if_pos e, if_pos e]; exact RP.out.below BS.out
          · rw [if_neg e, if_neg e, take_get _ _ _ hi]; exact (UR.out i hi).below BS.out
        have HW2 := hide hW2
        replace T := hide (T.out.below BS.out)
        replace HM := hide (HM.out.below BS.out)
        replace RM := hide (RM.out.below BS.out)
        replace RP := hide (RP.out.below BS.out)
        replace RU := hide (RU.out.below BS.out)
        replace B := hide (B.out.trans (BS.out.mono B.out.size))
        clear BA BS ST VV OO UR UL b
        rw [HW2.out] at T HM RM RP RU B RN
        clear hW2 HW2 W2
        go_wp2_with fail
        refine (encodePieces_calls _ ((m.take d).set k p) q _ T.out RN.out).mono ?_
        rw [F4.out]
        rintro e wn ⟨ev, rfl, oe, b⟩
        have RE := hide oe.rd
        clear oe
        replace T := hide (T.out.below b)
        replace HM := hide (HM.out.below b)
        replace RM := hide (RM.out.below b)
        replace RP := hide (RP.out.below b)
        replace RU := hide (RU.out.below b)
        replace RN := hide (RN.out.below b)
        replace B := hide (B.out.trans (b.mono B.out.size))
        clear b
        replace RE := hide (by have := RE.out; rw [FS.out (by simp)] at this; exact this : RdM wn ev U)
        go_wp2_with fail
        refine (sameLists_same _ _ U _ RE.out RU.out).mono ?_
        rintro e wn ⟨rfl, b⟩
        replace T := hide (T.out.below b)
        replace HM := hide (HM.out.below b)
        replace RM := hide (RM.out.below b)
        replace RP := hide (RP.out.below b)
        replace RU := hide (RU.out.below b)
        replace RN := hide (RN.out.below b)
        replace RE := hide (RE.out.below b)
        replace B := hide (B.out.trans (b.mono B.out.size))
        clear b
        clear RM RP RU RN RE
        go_wp2_with fail
        refine (drawDistanceOf_calls _ _ HM.out).mono ?_
        rintro e wn ⟨av, bv, a, bb, rfl, ha, hb, hab, b⟩
        have RA := hide ha
        have RB := hide hb
        clear ha hb hab
        replace T := hide (T.out.below b)
        replace HM := hide (HM.out.below b)
        replace B := hide (B.out.trans (b.mono B.out.size))
        clear b
        obtain ⟨n1, hn1⟩ : ∃ x, x = (distR a bb).1 := ⟨_, rfl⟩
        obtain ⟨n2, hn2⟩ : ∃ x, x = (distR a bb).2 := ⟨_, rfl⟩
        have N1 := hide hn1
        have N2 := hide hn2
        clear hn1 hn2
        go_wp2_with fail
        refine (distanceOf_calls _ _ a bb _ RA.out RB.out).mono ?_
        rw [← N1.out, ← N2.out]
        rintro e wn ⟨rfl, b⟩
        replace T := hide (T.out.below b)
        replace HM := hide (HM.out.below b)
        replace RA := hide (RA.out.below b)
        replace RB := hide (RB.out.below b)
        replace B := hide (B.out.trans (b.mono B.out.size))
        clear b
        go_wp2_with fail
        refine (sDistanceOf_calls _ _ a bb _ RA.out RB.out).mono ?_
        rw [← N1.out, ← N2.out]
        rintro e wn ⟨rfl, b⟩
        replace T := hide (T.out.below b)
        replace HM := hide (HM.out.below b)
        replace RA := hide (RA.out.below b)
        replace RB := hide (RB.out.below b)
        replace B := hide (B.out.trans (b.mono B.out.size))
        clear b
        clear RA RB N1 N2
        go_wp2_with fail
        refine (drawCheckPieces_calls _ _ HM.out).mono ?_
        rintro e wn ⟨d2, q2, lv, l2, rfl, hl2, hx2, b⟩
        have RL := hide hl2
        clear hl2 hx2
        replace T := hide (T.out.below b)
        replace HM := hide (HM.out.below b)
        replace B := hide (B.out.trans (b.mono B.out.size))
        clear b
        obtain ⟨c1, hc1⟩ : ∃ x, x = (chkR d2 q2 l2).1 := ⟨_, rfl⟩
        obtain ⟨c2, hc2⟩ : ∃ x, x = (chkR d2 q2 l2).2 := ⟨_, rfl⟩
        have N1 := hide hc1
        have N2 := hide hc2
        clear hc1 hc2
        go_wp2_with fail
        refine (checkPieces_calls d2 q2 _ l2 _ T.out RL.out).mono ?_
        rw [← N1.out, ← N2.out]
        rintro e wn ⟨rfl, b⟩
        replace T := hide (T.out.below b)
        replace HM := hide (HM.out.below b)
        replace RL := hide (RL.out.below b)
        replace B := hide (B.out.trans (b.mono B.out.size))
        clear b
        go_wp2_with fail
        refine (sCheckPieces_calls d2 q2 _ l2 _ RL.out).mono ?_
        rw [← N1.out, ← N2.out]
        rintro e wn ⟨rfl, b⟩
        replace T := hide (T.out.below b)
        replace HM := hide (HM.out.below b)
        replace RL := hide (RL.out.below b)
        replace B := hide (B.out.trans (b.mono B.out.size))
        clear b
        clear RL N1 N2
        go_wp2_with fail
        refine (drawCanDecode_calls _ _ HM.out).mono ?_
        rintro e wn ⟨d3, q3, xv, xs, rfl, hx, hx3, b⟩
        have RX := hide hx
        clear hx hx3
        replace T := hide (T.out.below b)
        replace HM := hide (HM.out.below b)
        replace B := hide (B.out.trans (b.mono B.out.size))
        clear b
        obtain ⟨e1, he1⟩ : ∃ x, x = (canR d3 q3 xs).1 := ⟨_, rfl⟩
        obtain ⟨e2, he2⟩ : ∃ x, x = (canR d3 q3 xs).2 := ⟨_, rfl⟩
        have N1 := hide he1
        have N2 := hide he2
        clear he1 he2
        go_wp2_with fail
        refine (canDecode_calls d3 q3 _ xs _ RX.out).mono ?_
        rw [← N1.out, ← N2.out]
        rintro e wn ⟨rfl, b⟩
        replace T := hide (T.out.below b)
        replace HM := hide (HM.out.below b)
        replace RX := hide (RX.out.below b)
        replace B := hide (B.out.trans (b.mono B.out.size))
        clear b
        go_wp2_with fail
        refine (sCanDecode_calls d3 q3 _ xs _ RX.out).mono ?_
        rw [← N1.out, ← N2.out]
        rintro e wn ⟨rfl, b⟩
        replace T := hide (T.out.below b)
        replace HM := hide (HM.out.below b)
        replace RX := hide (RX.out.below b)
        replace B := hide (B.out.trans (b.mono B.out.size))
        clear b
        have t1 : (n1 == n1) = true := by simp
        have t2 : (n2 == n2) = true := by simp
        have t3 : (c1 == c1) = true := by simp
        have t4 : (c2 == c2) = true := by simp
        have t5 : (e1 == e1) = true := by simp
        have t6 : (e2 == e2) = true := by simp
        go_wp2
        go_ret
        exact ⟨rfl, B.out⟩
end Go.Proofs.YtogopakmebiomaaDoor

/-
  A word put right: the program's DecodeWord, call by call. The program's table of rests must hold its seven numbers.
-/
import Derived.Test.YtogopakmebiomaaDoorDecw
namespace Go.Proofs.YtogopakmebiomaaDoor
open Go.RowKit
open Gf (ci nat AllLt synI locN plcN isB wdOk wOk rtR nought)

set_option maxRecDepth 100000 in
set_option maxHeartbeats 6400000 in
theorem decodeWord_calls (v : Value) (xs : List Int) (t : Int) (w : World) (hT : Gf.Tab w) (h : Rd w v xs) :
    Calls Tryd.prog 28 #[v, .int .i64 t] w fun e w' => ∃ v', e = .returned (.tuple #[v', .int .i64 (decW xs t).2.1, .bool (decW xs t).2.2]) ∧ Own w' w.heap.size v' (decW xs t).1 ∧ Below w.heap.size w w' := by
  have T := hide hT
  have R := hide h
  obtain ⟨a, cap, rfl, _, _, _⟩ := h
  cases hw : wdOk xs t with
  | false =>
    rw [decW_bad hw]
    have G := hide (Gf.synR_no hw)
    clear hT hw
    go_enter Tryd.func28, Tryd.ntmps28
    go_wp2_with fail
    refine (Gf.syndromesOf_calls _ xs t _ T.out R.out).mono ?_
    rw [G.out]
    rintro e w1 ⟨v1, rfl, ho1, hb1⟩
    have B1 := hide hb1
    clear ho1 hb1
    go_wp2
    go_ret3
    exact ⟨_, rfl, Gf.own_nil _ _, B1.out⟩
  | true =>
    obtain ⟨n, f⟩ := wd_facts hw
    obtain rfl := f.nt
    have F := hide f
    have G : Hid (Gf.synR xs n = (synI xs (2 * n), true)) := by
      have := Gf.synR_yes hw
      rwa [Int.toNat_natCast] at this
    have n1 := f.n1
    have n3 := f.n3
    have hlen := f.len
    obtain ⟨s, hs⟩ : ∃ s, s = synI xs (2 * n) := ⟨_, rfl⟩
    have HS := hide hs
    have IB : Hid (isB xs n = s.all nought) := by
      rw [hs]
      show (synI xs (2 * (n : Int).toNat)).all nought = _
      rw [Int.toNat_natCast]
    rw [← hs] at G
    cases hi : isB xs n with
    | true =>
      rw [decW_is hw hi]
      rw [hi] at IB
      clear hT hw f hs hi
      go_enter Tryd.func28, Tryd.ntmps28
      go_wp2_with fail
      refine (Gf.syndromesOf_calls _ xs _ _ T.out R.out).mono ?_
      rw [G.out]
      rintro e w1 ⟨v1, rfl, ho1, hb1⟩
      have R1 := hide ho1.rd
      have B1 := hide hb1
      clear ho1 hb1
      go_wp2_with fail
      refine (Gf.allNought_calls _ s _ R1.out).mono ?_
      rw [← IB.out]
      rintro e w' ⟨rfl, rfl⟩
      go_wp2_with fail
      refine (copyList_calls _ xs _ (R.out.below B1.out) (by omega)).mono ?_
      rintro e w2 ⟨v2, rfl, ho2, hb2⟩
      have O2 := hide (ho2.mono B1.out.size)
      have B2 := hide (B1.out.trans (hb2.mono B1.out.size))
      clear ho2 hb2
      go_wp2
      go_ret3
      exact ⟨_, rfl, O2.out, B2.out⟩
    | false =>
      rw [hi] at IB
      obtain ⟨c, hc⟩ : ∃ c, c = locC xs n := ⟨_, rfl⟩
      have LO : Hid (Gf.locR s = (c, true)) := by rw [hs, hc]; exact f.loc
      have CG : Hid (Gf.goodP c = true) := by rw [hc]; exact f.cg
      have C1 : Hid (1 ≤ c.length) := by rw [hc]; exact f.c1
      obtain ⟨ps, hps⟩ : ∃ ps, ps = plcW xs n := ⟨_, rfl⟩
      have hpc : plcN c xs.length = ps := by rw [hps, hc]; rfl
      have hpok := plcN_ok c xs.length hlen
      rw [hpc] at hpok
      have hple := Gf.plcN_le c xs.length
      rw [hpc] at hple
      have HDC := hide hw
      have HDI := hide hi
      by_cases hrt : ps.length = c.length - 1
      · have RT : Hid (rtR c xs.length = (ps, true)) := by
          show rtR c xs.length = (ps, true)
          unfold Gf.rtR
          rw [hpc, if_pos hrt]
        by_cases hp1 : 1 ≤ ps.length
        · by_cases hp2 : ps.length ≤ n
          · have hplok : plOkW xs n = true := by
              unfold plOkW
              rw [← hps, ← hc]
              exact decide_eq_true ⟨hrt, hp1, by omega⟩
            obtain ⟨out, hout⟩ : ∃ o, o = outW xs n := ⟨_, rfl⟩
            have HOUT : Hid (fixW xs ps s = out) := by
              rw [hout]
              show _ = fixW xs (plcW xs n) (synI xs (2 * (n : Int).toNat))
              rw [Int.toNat_natCast, ← hs, ← hps]
            have OE : Hid (out.all Gf.elOk = true) := by rw [hout]; exact outW_el f hplok
            have OL : Hid (out.length = xs.length) := by rw [hout]; exact outW_len xs n
            have OW : Hid (wdOk out n = true) := by
              obtain ⟨q1, q2, q3, q4⟩ := Gf.wdOk_yes hw
              refine Gf.wdOk_mk q1 (by rw [OL.out]; exact q2) (by rw [OL.out]; exact q3) OE.out
            have PK := hide hpok.1
            have PIN := hide hpok.2
            have EL := hide f.el
            have SEL : Hid (s.all Gf.elOk = true) := by rw [hs]; exact f.sel
            have hsl : ps.length ≤ s.length := by rw [hs, f.sl]; omega
            have HSL := hide hsl
            have YES : Hid (isB out n = true → decW xs n = (out, ((unpN xs out xs.length).length : Int), true)) := fun h4 => by
              rw [hout] at h4 ⊢
              exact decW_yes hw hi hplok h4
            have NOT : Hid (isB out n = false → decW xs n = ([], 0, false)) := fun h4 => by
              rw [hout] at h4
              exact decW_not hw hi hplok h4
            have hp1' : ¬ (ps.length : Int) < 1 := by omega
            have hp2' : ¬ (n : Int) < (ps.length : Int) := by omega
            have hp3 : ps.length ≤ 3 := by omega
            clear hT hw f hs hi hc hps hpc hpok hrt hplok hout hsl
            cases hio : isB out n with
            | true =>
              rw [YES.out hio]
              have IO : Hid (Gf.isWR out n = (true, true)) := by
                unfold Gf.isWR
                rw [OW.out, hio]
                exact hide rfl
              have WP : Hid (wrpR xs out = (unpN xs out xs.length, true)) := if_pos ⟨OL.out.symm, hlen⟩
              have hun := unpN_length xs out xs.length
              obtain ⟨ul, hul⟩ : ∃ u, u = unpN xs out xs.length := ⟨_, rfl⟩
              rw [← hul] at WP hun ⊢
              clear hio hul
              go_enter Tryd.func28, Tryd.ntmps28
              go_wp2_with fail
              refine (Gf.syndromesOf_calls _ xs _ _ T.out R.out).mono ?_
              rw [G.out]
              rintro e w1 ⟨v1, rfl, ho1, hb1⟩
              have R1 := hide ho1.rd
              have B1 := hide hb1
              clear ho1 hb1
              go_wp2_with fail
              refine (Gf.allNought_calls _ s _ R1.out).mono ?_
              rw [← IB.out]
              rintro e w' ⟨rfl, rfl⟩
              go_wp2_with fail
              refine (Gf.locatorOf_calls _ s _ (T.out.below B1.out) R1.out).mono ?_
              rw [LO.out]
              rintro e w2 ⟨v2, rfl, ho2, hb2⟩
              have R2 := hide ho2.rd
              have R12 := hide (R1.out.below hb2)
              have B2 := hide (B1.out.trans (hb2.mono B1.out.size))
              clear ho2 hb2
              go_wp2_with fail
              refine (Gf.rootPlaces_calls _ c xs.length _ (T.out.below B2.out) R2.out CG.out C1.out hlen).mono ?_
              rw [RT.out]
              rintro e w3 ⟨v3, rfl, ho3, hb3⟩
              have R3 := hide ho3.rd
              have R13 := hide (R12.out.below hb3)
              have B3 := hide (B2.out.trans (hb3.mono B2.out.size))
              obtain ⟨pa, pc, hv3, _, _, _⟩ := ho3.rd
              subst hv3
              clear ho3 hb3
              go_wp2_with fail
              refine (putRight_calls _ _ _ xs ps s _ (T.out.below B3.out) (R.out.below B3.out) R3.out R13.out EL.out SEL.out PK.out PIN.out hp1 hp3 HSL.out hlen).mono ?_
              rw [HOUT.out]
              rintro e w4 ⟨v4, rfl, ho4, hb4⟩
              have O4 := hide (ho4.mono B3.out.size)
              have B4 := hide (B3.out.trans (hb4.mono B3.out.size))
              clear ho4 hb4
              go_wp2_with fail
              refine (Gf.isWord_calls _ out _ _ (T.out.below B4.out) O4.out.rd).mono ?_
              rw [IO.out]
              rintro e w5 ⟨rfl, hb5⟩
              have O5 := hide (O4.out.below hb5)
              have B5 := hide (B4.out.trans (hb5.mono B4.out.size))
              clear hb5
              go_wp2_with fail
              refine (wrongPlaces_calls _ _ xs out _ (R.out.below B5.out) O5.out.rd).mono ?_
              rw [WP.out]
              rintro e w6 ⟨v6, rfl, ho6, hb6⟩
              have O6 := hide (O5.out.below hb6)
              have B6 := hide (B5.out.trans (hb6.mono B5.out.size))
              obtain ⟨ua, uc, hv6, _, _, _⟩ := ho6.rd
              subst hv6
              clear ho6 hb6
              go_wp2
              go_ret3
              exact ⟨_, rfl, O6.out, B6.out⟩
            | false =>
              rw [NOT.out hio]
              have IO : Hid (Gf.isWR out n = (false, true)) := by
                unfold Gf.isWR
                rw [OW.out, hio]
                exact hide rfl
              clear hio
              go_enter Tryd.func28, Tryd.ntmps28
              go_wp2_with fail
              refine (Gf.syndromesOf_calls _ xs _ _ T.out R.out).mono ?_
              rw [G.out]
              rintro e w1 ⟨v1, rfl, ho1, hb1⟩
              have R1 := hide ho1.rd
              have B1 := hide hb1
              clear ho1 hb1
              go_wp2_with fail
              refine (Gf.allNought_calls _ s _ R1.out).mono ?_
              rw [← IB.out]
              rintro e w' ⟨rfl, rfl⟩
              go_wp2_with fail
              refine (Gf.locatorOf_calls _ s _ (T.out.below B1.out) R1.out).mono ?_
              rw [LO.out]
              rintro e w2 ⟨v2, rfl, ho2, hb2⟩
              have R2 := hide ho2.rd
              have R12 := hide (R1.out.below hb2)
              have B2 := hide (B1.out.trans (hb2.mono B1.out.size))
              clear ho2 hb2
              go_wp2_with fail
              refine (Gf.rootPlaces_calls _ c xs.length _ (T.out.below B2.out) R2.out CG.out C1.out hlen).mono ?_
              rw [RT.out]
              rintro e w3 ⟨v3, rfl, ho3, hb3⟩
              have R3 := hide ho3.rd
              have R13 := hide (R12.out.below hb3)
              have B3 := hide (B2.out.trans (hb3.mono B2.out.size))
              obtain ⟨pa, pc, hv3, _, _, _⟩ := ho3.rd
              subst hv3
              clear ho3 hb3
              go_wp2_with fail
              refine (putRight_calls _ _ _ xs ps s _ (T.out.below B3.out) (R.out.below B3.out) R3.out R13.out EL.out SEL.out PK.out PIN.out hp1 hp3 HSL.out hlen).mono ?_
              rw [HOUT.out]
              rintro e w4 ⟨v4, rfl, ho4, hb4⟩
              have O4 := hide (ho4.mono B3.out.size)
              have B4 := hide (B3.out.trans (hb4.mono B3.out.size))
              clear ho4 hb4
              go_wp2_with fail
              refine (Gf.isWord_calls _ out _ _ (T.out.below B4.out) O4.out.rd).mono ?_
              rw [IO.out]
              rintro e w5 ⟨rfl, hb5⟩
              have B5 := hide (B4.out.trans (hb5.mono B4.out.size))
              clear hb5
              go_wp2
              go_ret3
              exact ⟨_, rfl, Gf.own_nil _ _, B5.out⟩
          · have hno : decW xs n = ([], 0, false) := decW_no hw hi (by unfold plOkW; rw [← hps, ← hc]; exact decide_eq_false (by omega))
            rw [hno]
            have hp1' : ¬ (ps.length : Int) < 1 := by omega
            have hp2' : (n : Int) < (ps.length : Int) := by omega
            clear hT hw f hs hi hc hps hpc hpok hrt hno
            go_enter Tryd.func28, Tryd.ntmps28
            go_wp2_with fail
            refine (Gf.syndromesOf_calls _ xs _ _ T.out R.out).mono ?_
            rw [G.out]
            rintro e w1 ⟨v1, rfl, ho1, hb1⟩
            have R1 := hide ho1.rd
            have B1 := hide hb1
            clear ho1 hb1
            go_wp2_with fail
            refine (Gf.allNought_calls _ s _ R1.out).mono ?_
            rw [← IB.out]
            rintro e w' ⟨rfl, rfl⟩
            go_wp2_with fail
            refine (Gf.locatorOf_calls _ s _ (T.out.below B1.out) R1.out).mono ?_
            rw [LO.out]
            rintro e w2 ⟨v2, rfl, ho2, hb2⟩
            have R2 := hide ho2.rd
            have B2 := hide (B1.out.trans (hb2.mono B1.out.size))
            clear ho2 hb2
            go_wp2_with fail
            refine (Gf.rootPlaces_calls _ c xs.length _ (T.out.below B2.out) R2.out CG.out C1.out hlen).mono ?_
            rw [RT.out]
            rintro e w3 ⟨v3, rfl, ho3, hb3⟩
            have B3 := hide (B2.out.trans (hb3.mono B2.out.size))
            obtain ⟨pa, pc, hv3, _, _, _⟩ := ho3.rd
            subst hv3
            clear ho3 hb3
            go_wp2
            go_ret3
            exact ⟨_, rfl, Gf.own_nil _ _, B3.out⟩
        · have hno : decW xs n = ([], 0, false) := decW_no hw hi (by unfold plOkW; rw [← hps, ← hc]; exact decide_eq_false (by omega))
          rw [hno]
          have hp1' : (ps.length : Int) < 1 := by omega
          clear hT hw f hs hi hc hps hpc hpok hrt hno
          go_enter Tryd.func28, Tryd.ntmps28
          go_wp2_with fail
          refine (Gf.syndromesOf_calls _ xs _ _ T.out R.out).mono ?_
          rw [G.out]
          rintro e w1 ⟨v1, rfl, ho1, hb1⟩
          have R1 := hide ho1.rd
          have B1 := hide hb1
          clear ho1 hb1
          go_wp2_with fail
          refine (Gf.allNought_calls _ s _ R1.out).mono ?_
          rw [← IB.out]
          rintro e w' ⟨rfl, rfl⟩
          go_wp2_with fail
          refine (Gf.locatorOf_calls _ s _ (T.out.below B1.out) R1.out).mono ?_
          rw [LO.out]
          rintro e w2 ⟨v2, rfl, ho2, hb2⟩
          have R2 := hide ho2.rd
          have B2 := hide (B1.out.trans (hb2.mono B1.out.size))
          clear ho2 hb2
          go_wp2_with fail
          refine (Gf.rootPlaces_calls _ c xs.length _ (T.out.below B2.out) R2.out CG.out C1.out hlen).mono ?_
          rw [RT.out]
          rintro e w3 ⟨v3, rfl, ho3, hb3⟩
          have B3 := hide (B2.out.trans (hb3.mono B2.out.size))
          obtain ⟨pa, pc, hv3, _, _, _⟩ := ho3.rd
          subst hv3
          clear ho3 hb3
          go_wp2
          go_ret3
          exact ⟨_, rfl, Gf.own_nil _ _, B3.out⟩
      · have RT : Hid (rtR c xs.length = ([], false)) := by
          show rtR c xs.length = ([], false)
          unfold Gf.rtR
          rw [hpc, if_neg hrt]
        have hno : decW xs n = ([], 0, false) := decW_no hw hi (by unfold plOkW; rw [← hps, ← hc]; exact decide_eq_false (by omega))
        rw [hno]
        clear hT hw f hs hi hc hps hpc hpok hrt hno
        go_enter Tryd.func28, Tryd.ntmps28
        go_wp2_with fail
        refine (Gf.syndromesOf_calls _ xs _ _ T.out R.out).mono ?_
        rw [G.out]
        rintro e w1 ⟨v1, rfl, ho1, hb1⟩
        have R1 := hide ho1.rd
        have B1 := hide hb1
        clear ho1 hb1
        go_wp2_with fail
        refine (Gf.allNought_calls _ s _ R1.out).mono ?_
        rw [← IB.out]
        rintro e w' ⟨rfl, rfl⟩
        go_wp2_with fail
        refine (Gf.locatorOf_calls _ s _ (T.out.below B1.out) R1.out).mono ?_
        rw [LO.out]
        rintro e w2 ⟨v2, rfl, ho2, hb2⟩
        have R2 := hide ho2.rd
        have B2 := hide (B1.out.trans (hb2.mono B1.out.size))
        clear ho2 hb2
        go_wp2_with fail
        refine (Gf.rootPlaces_calls _ c xs.length _ (T.out.below B2.out) R2.out CG.out C1.out hlen).mono ?_
        rw [RT.out]
        rintro e w3 ⟨v3, rfl, ho3, hb3⟩
        have B3 := hide (B2.out.trans (hb3.mono B2.out.size))
        clear ho3 hb3
        go_wp2
        go_ret3
        exact ⟨_, rfl, Gf.own_nil _ _, B3.out⟩
end Go.Proofs.YtogopakmebiomaaDoor

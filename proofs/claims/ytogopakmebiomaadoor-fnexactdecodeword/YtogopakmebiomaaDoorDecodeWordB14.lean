/-
  A word put right: the model's DecodeWord, call by call. No condition. The law that holds the program's DecodeWord against its model's: at all arguments that can be read the call returns true, and nothing that was there is written. The program's table of rests must hold its seven numbers.
-/
import Derived.Test.YtogopakmebiomaaDoorDecodeWordB13
namespace Go.Proofs.YtogopakmebiomaaDoor
open Go.RowKit
open Gf (ci nat AllLt synI locN plcN isB wdOk wOk rtR nought)

set_option maxRecDepth 100000 in
set_option maxHeartbeats 6400000 in
theorem sDecodeWord_calls (v : Value) (xs : List Int) (t : Int) (w : World) (h : Rd w v xs) :
    Calls Tryd.prog 27 #[v, .int .i64 t] w fun e w' => ∃ v', e = .returned (.tuple #[v', .int .i64 (decW xs t).2.1, .bool (decW xs t).2.2]) ∧ Own w' w.heap.size v' (decW xs t).1 ∧ Below w.heap.size w w' := by
  have R := hide h
  obtain ⟨a, cap, rfl, _, _, _⟩ := h
  cases hw : wdOk xs t with
  | false =>
    rw [decW_bad hw]
    have G := hide hw
    clear hw
    go_enter Tryd.func27, Tryd.ntmps27
    go_wp2_with fail
    refine (Gf.l4Word_calls _ xs t _ R.out).mono ?_
    rw [G.out]
    rintro e w' ⟨rfl, rfl⟩
    go_wp2
    go_ret3
    exact ⟨_, rfl, Gf.own_nil _ _, Below.refl _ _⟩
  | true =>
    obtain ⟨n, f⟩ := wd_facts hw
    obtain rfl := f.nt
    have G := hide hw
    have EL := hide f.el
    have n1 := f.n1
    have n3 := f.n3
    have hlen := f.len
    obtain ⟨s, hs⟩ : ∃ s, s = synI xs (2 * n) := ⟨_, rfl⟩
    have HS := hide hs
    cases hi : isB xs n with
    | true =>
      rw [decW_is hw hi]
      have IB := hide hi
      clear hw f hs hi
      go_enter Tryd.func27, Tryd.ntmps27
      go_wp2_with fail
      refine (Gf.l4Word_calls _ xs _ _ R.out).mono ?_
      rw [G.out]
      rintro e w' ⟨rfl, rfl⟩
      go_wp2_with fail
      refine (Gf.l4Is_calls _ xs n _ R.out EL.out n3).mono ?_
      rw [IB.out]
      rintro e w1 ⟨rfl, hb1⟩
      have B1 := hide hb1
      clear hb1
      have OO : Hid ((w1.alloc (.cells #[] 3)).ownsRow w1.heap.size 3 1 (.slice (some ⟨w1.heap.size, 0, none⟩) 0 0) 0 (([] : List Int).map (Value.int .i64))) := World.ownsRow_lit w1 #[] 0 (Nat.le_refl _) (by decide) (by rfl)
      have PP := hide ((R.out.below B1.out).below ((Below.refl w1.heap.size w1).alloc (Nat.le_refl _) (.cells #[] 3)))
      go_wp2_with (at_builtin; refine wpList_append_rd rfl (.tmp 19) (.tmp 20) rfl w1.heap.size _ 0 [] xs rfl OO.out _ rfl PP.out (by omega) (by simp) ?_)
      intro v2 w2 ho2 hg2
      have hb2 : Below w1.heap.size w1 w2 := ((Below.refl w1.heap.size w1).alloc (Nat.le_refl _) _).grown hg2 (by simp) (fun i hi => by cases hi; exact Nat.le_refl _)
      have O2 : Hid (Own w2 w.heap.size v2 xs) := Own.mono (show Own w2 w1.heap.size v2 xs from ho2) B1.out.size
      have B2 := hide (B1.out.trans (hb2.mono B1.out.size))
      clear ho2 hg2 hb2
      go_wp2
      go_ret3
      exact ⟨_, rfl, O2.out, B2.out⟩
    | false =>
      have IB := hide hi
      obtain ⟨c, hc⟩ : ∃ c, c = locC xs n := ⟨_, rfl⟩
      have LO : Hid (ci (locN (nat s)) = c) := by
        rw [hs, hc]
        show _ = ci (locN (nat (synI xs (2 * (n : Int).toNat))))
        rw [Int.toNat_natCast]
      have CG : Hid (Gf.goodP c = true) := by rw [hc]; exact f.cg
      have c1 : 1 ≤ c.length := by rw [hc]; exact f.c1
      have c7 : c.length ≤ 7 := by rw [hc]; exact f.c7
      have SN : Hid (AllLt (nat s)) := by rw [hs]; exact f.sn
      have SC : Hid (ci (nat s) = s) := by rw [hs]; exact f.scn
      have SL6 : Hid ((nat s).length ≤ 6) := by show (nat s).length ≤ 6; rw [Gf.nat_length, hs, f.sl]; omega
      obtain ⟨ps, hps⟩ : ∃ ps, ps = plcW xs n := ⟨_, rfl⟩
      have hpc : plcN c xs.length = ps := by rw [hps, hc]; rfl
      have HPC := hide hpc
      have hpok := plcN_ok c xs.length hlen
      rw [hpc] at hpok
      have hple := Gf.plcN_le c xs.length
      rw [hpc] at hple
      by_cases hp1 : ps.length = 0
      · have hno : decW xs n = ([], 0, false) := decW_no hw hi (by unfold plOkW; rw [← hps, ← hc]; exact decide_eq_false (by omega))
        rw [hno]
        have t0 : ((ps.length : Int) == 0) = true := by simp [hp1]
        have HP1 := hide hp1
        clear hp1
        clear hw f hs hi hc hps hpc hpok hno

        go_enter Tryd.func27, Tryd.ntmps27
        go_wp2_with fail
        refine (Gf.l4Word_calls _ xs _ _ R.out).mono ?_
        rw [G.out]
        rintro e w' ⟨rfl, rfl⟩
        go_wp2_with fail
        refine (Gf.l4Is_calls _ xs n _ R.out EL.out n3).mono ?_
        rw [IB.out]
        rintro e w1 ⟨rfl, hb1⟩
        have B1 := hide hb1
        clear hb1
        go_wp2_with fail
        refine (Gf.l4Syndromes_calls _ xs n _ (R.out.below B1.out) EL.out n3).mono ?_
        rw [← HS.out]
        rintro e w2 ⟨v2, rfl, ho2, hb2⟩
        have R2 := hide ho2.rd
        have B2 := hide (B1.out.trans (hb2.mono B1.out.size))
        clear ho2 hb2
        go_wp2_with fail
        refine (Gf.l4Locator_calls _ (nat s) _ (by rw [SC.out]; exact R2.out) SN.out SL6.out).mono ?_
        rw [LO.out]
        rintro e w3 ⟨v3, rfl, ho3, hb3⟩
        have R3 := hide ho3.rd
        have R23 := hide (R2.out.below hb3)
        have B3 := hide (B2.out.trans (hb3.mono B2.out.size))
        obtain ⟨ca, cc, hv3, _, _, _⟩ := ho3.rd
        subst hv3
        clear ho3 hb3
        go_wp2_with fail
        refine (Gf.l4Places_calls _ c xs.length _ R3.out (Gf.goodP_all CG.out) hlen).mono ?_
        rw [HPC.out]
        rintro e w4 ⟨v4, rfl, ho4, hb4⟩
        have R4 := hide ho4.rd
        have R24 := hide (R23.out.below hb4)
        have B4 := hide (B3.out.trans (hb4.mono B3.out.size))
        obtain ⟨pa, pc, hv4, _, _, _⟩ := ho4.rd
        subst hv4
        clear ho4 hb4

        go_wp2
        go_ret3
        exact ⟨_, rfl, Gf.own_nil _ _, B4.out⟩
      have t0 : ((ps.length : Int) == 0) = false := by simp; intro e; simp [e] at hp1
      by_cases hrt : ps.length = c.length - 1
      case neg =>
        have hno : decW xs n = ([], 0, false) := decW_no hw hi (by unfold plOkW; rw [← hps, ← hc]; exact decide_eq_false (by omega))
        rw [hno]
        have t1 : ((ps.length : Int) != (c.length : Int) - 1) = true := by simp; omega
        clear hw f hs hi hc hps hpc hpok hno

        go_enter Tryd.func27, Tryd.ntmps27
        go_wp2_with fail
        refine (Gf.l4Word_calls _ xs _ _ R.out).mono ?_
        rw [G.out]
        rintro e w' ⟨rfl, rfl⟩
        go_wp2_with fail
        refine (Gf.l4Is_calls _ xs n _ R.out EL.out n3).mono ?_
        rw [IB.out]
        rintro e w1 ⟨rfl, hb1⟩
        have B1 := hide hb1
        clear hb1
        go_wp2_with fail
        refine (Gf.l4Syndromes_calls _ xs n _ (R.out.below B1.out) EL.out n3).mono ?_
        rw [← HS.out]
        rintro e w2 ⟨v2, rfl, ho2, hb2⟩
        have R2 := hide ho2.rd
        have B2 := hide (B1.out.trans (hb2.mono B1.out.size))
        clear ho2 hb2
        go_wp2_with fail
        refine (Gf.l4Locator_calls _ (nat s) _ (by rw [SC.out]; exact R2.out) SN.out SL6.out).mono ?_
        rw [LO.out]
        rintro e w3 ⟨v3, rfl, ho3, hb3⟩
        have R3 := hide ho3.rd
        have R23 := hide (R2.out.below hb3)
        have B3 := hide (B2.out.trans (hb3.mono B2.out.size))
        obtain ⟨ca, cc, hv3, _, _, _⟩ := ho3.rd
        subst hv3
        clear ho3 hb3
        go_wp2_with fail
        refine (Gf.l4Places_calls _ c xs.length _ R3.out (Gf.goodP_all CG.out) hlen).mono ?_
        rw [HPC.out]
        rintro e w4 ⟨v4, rfl, ho4, hb4⟩
        have R4 := hide ho4.rd
        have R24 := hide (R23.out.below hb4)
        have B4 := hide (B3.out.trans (hb4.mono B3.out.size))
        obtain ⟨pa, pc, hv4, _, _, _⟩ := ho4.rd
        subst hv4
        clear ho4 hb4

        go_wp2
        go_ret3
        exact ⟨_, rfl, Gf.own_nil _ _, B4.out⟩
      have t1 : ((ps.length : Int) != (c.length : Int) - 1) = false := by simp; omega
      have HRT := hide hrt
      by_cases hp2 : ps.length ≤ n
      case neg =>
        have hno : decW xs n = ([], 0, false) := decW_no hw hi (by unfold plOkW; rw [← hps, ← hc]; exact decide_eq_false (by omega))
        rw [hno]
        have hp2' : (n : Int) < (ps.length : Int) := by omega
        clear hrt
        clear hw f hs hi hc hps hpc hpok hno

        go_enter Tryd.func27, Tryd.ntmps27
        go_wp2_with fail
        refine (Gf.l4Word_calls _ xs _ _ R.out).mono ?_
        rw [G.out]
        rintro e w' ⟨rfl, rfl⟩
        go_wp2_with fail
        refine (Gf.l4Is_calls _ xs n _ R.out EL.out n3).mono ?_
        rw [IB.out]
        rintro e w1 ⟨rfl, hb1⟩
        have B1 := hide hb1
        clear hb1
        go_wp2_with fail
        refine (Gf.l4Syndromes_calls _ xs n _ (R.out.below B1.out) EL.out n3).mono ?_
        rw [← HS.out]
        rintro e w2 ⟨v2, rfl, ho2, hb2⟩
        have R2 := hide ho2.rd
        have B2 := hide (B1.out.trans (hb2.mono B1.out.size))
        clear ho2 hb2
        go_wp2_with fail
        refine (Gf.l4Locator_calls _ (nat s) _ (by rw [SC.out]; exact R2.out) SN.out SL6.out).mono ?_
        rw [LO.out]
        rintro e w3 ⟨v3, rfl, ho3, hb3⟩
        have R3 := hide ho3.rd
        have R23 := hide (R2.out.below hb3)
        have B3 := hide (B2.out.trans (hb3.mono B2.out.size))
        obtain ⟨ca, cc, hv3, _, _, _⟩ := ho3.rd
        subst hv3
        clear ho3 hb3
        go_wp2_with fail
        refine (Gf.l4Places_calls _ c xs.length _ R3.out (Gf.goodP_all CG.out) hlen).mono ?_
        rw [HPC.out]
        rintro e w4 ⟨v4, rfl, ho4, hb4⟩
        have R4 := hide ho4.rd
        have R24 := hide (R23.out.below hb4)
        have B4 := hide (B3.out.trans (hb4.mono B3.out.size))
        obtain ⟨pa, pc, hv4, _, _, _⟩ := ho4.rd
        subst hv4
        clear ho4 hb4

        go_wp2
        go_ret3
        exact ⟨_, rfl, Gf.own_nil _ _, B4.out⟩
      have hp2' : ¬ (n : Int) < (ps.length : Int) := by omega
      have hplok : plOkW xs n = true := by
        unfold plOkW
        rw [← hps, ← hc]
        exact decide_eq_true ⟨hrt, by omega, by omega⟩
      obtain ⟨out, hout⟩ : ∃ o, o = outW xs n := ⟨_, rfl⟩
      have HOUT : Hid (fixW xs ps s = out) := by
        rw [hout]
        show _ = fixW xs (plcW xs n) (synI xs (2 * (n : Int).toNat))
        rw [Int.toNat_natCast, ← hs, ← hps]
      have OE : Hid (out.all Gf.elOk = true) := by rw [hout]; exact outW_el f hplok
      have OL : Hid (out.length = xs.length) := by rw [hout]; exact outW_len xs n
      have PK := hide hpok.1
      have PIN := hide hpok.2
      have SEL : Hid (s.all Gf.elOk = true) := by rw [hs]; exact f.sel
      have HSL : Hid (ps.length ≤ s.length) := by show ps.length ≤ s.length; rw [hs, f.sl]; omega
      have YES : Hid (isB out n = true → decW xs n = (out, ((unpN xs out xs.length).length : Int), true)) := fun h4 => by
        rw [hout] at h4 ⊢
        exact decW_yes hw hi hplok h4
      have NOT : Hid (isB out n = false → decW xs n = ([], 0, false)) := fun h4 => by
        rw [hout] at h4
        exact decW_not hw hi hplok h4
      have hp0 : 1 ≤ ps.length := by omega
      have hp3 : ps.length ≤ 3 := by omega
      clear hw f hs hi hc hps hpc hpok hrt hplok hout
      cases hio : isB out n with
      | true =>
        rw [YES.out hio]
        have IO := hide hio
        have hun := unpN_length xs out xs.length
        obtain ⟨ul, hul⟩ : ∃ u, u = unpN xs out xs.length := ⟨_, rfl⟩
        rw [← hul] at hun ⊢
        have UL : Hid (unpN out xs out.length = ul) := by rw [hul, OL.out, unpN_comm]; exact hide rfl
        clear hio hul

        go_enter Tryd.func27, Tryd.ntmps27
        go_wp2_with fail
        refine (Gf.l4Word_calls _ xs _ _ R.out).mono ?_
        rw [G.out]
        rintro e w' ⟨rfl, rfl⟩
        go_wp2_with fail
        refine (Gf.l4Is_calls _ xs n _ R.out EL.out n3).mono ?_
        rw [IB.out]
        rintro e w1 ⟨rfl, hb1⟩
        have B1 := hide hb1
        clear hb1
        go_wp2_with fail
        refine (Gf.l4Syndromes_calls _ xs n _ (R.out.below B1.out) EL.out n3).mono ?_
        rw [← HS.out]
        rintro e w2 ⟨v2, rfl, ho2, hb2⟩
        have R2 := hide ho2.rd
        have B2 := hide (B1.out.trans (hb2.mono B1.out.size))
        clear ho2 hb2
        go_wp2_with fail
        refine (Gf.l4Locator_calls _ (nat s) _ (by rw [SC.out]; exact R2.out) SN.out SL6.out).mono ?_
        rw [LO.out]
        rintro e w3 ⟨v3, rfl, ho3, hb3⟩
        have R3 := hide ho3.rd
        have R23 := hide (R2.out.below hb3)
        have B3 := hide (B2.out.trans (hb3.mono B2.out.size))
        obtain ⟨ca, cc, hv3, _, _, _⟩ := ho3.rd
        subst hv3
        clear ho3 hb3
        go_wp2_with fail
        refine (Gf.l4Places_calls _ c xs.length _ R3.out (Gf.goodP_all CG.out) hlen).mono ?_
        rw [HPC.out]
        rintro e w4 ⟨v4, rfl, ho4, hb4⟩
        have R4 := hide ho4.rd
        have R24 := hide (R23.out.below hb4)
        have B4 := hide (B3.out.trans (hb4.mono B3.out.size))
        obtain ⟨pa, pc, hv4, _, _, _⟩ := ho4.rd
        subst hv4
        clear ho4 hb4

        go_wp2_with fail
        refine (l4Fix_calls _ _ _ xs ps s _ (R.out.below B4.out) R4.out R24.out EL.out SEL.out PK.out PIN.out hp0 hp3 HSL.out hlen).mono ?_
        rw [HOUT.out]
        rintro e w5 ⟨v5, rfl, ho5, hb5⟩
        have O5 := hide (ho5.mono B4.out.size)
        have B5 := hide (B4.out.trans (hb5.mono B4.out.size))
        clear ho5 hb5
        go_wp2_with fail
        refine (Gf.l4Is_calls _ out n _ O5.out.rd OE.out n3).mono ?_
        rw [IO.out]
        rintro e w6 ⟨rfl, hb6⟩
        have O6 := hide (O5.out.below hb6)
        have B6 := hide (B5.out.trans (hb6.mono B5.out.size))
        clear hb6

        go_wp2_with fail
        refine (l4Unlike_calls _ _ out xs _ O6.out.rd (R.out.below B6.out) OL.out (by rw [OL.out]; exact hlen)).mono ?_
        rw [UL.out]
        rintro e w7 ⟨v7, rfl, ho7, hb7⟩
        have O7 := hide (O6.out.below hb7)
        have B7 := hide (B6.out.trans (hb7.mono B6.out.size))
        obtain ⟨ua, uc, hv7, _, _, _⟩ := ho7.rd
        subst hv7
        clear ho7 hb7
        go_wp2
        go_ret3
        exact ⟨_, rfl, O7.out, B7.out⟩
      | false =>
        rw [NOT.out hio]
        have IO := hide hio
        clear hio

        go_enter Tryd.func27, Tryd.ntmps27
        go_wp2_with fail
        refine (Gf.l4Word_calls _ xs _ _ R.out).mono ?_
        rw [G.out]
        rintro e w' ⟨rfl, rfl⟩
        go_wp2_with fail
        refine (Gf.l4Is_calls _ xs n _ R.out EL.out n3).mono ?_
        rw [IB.out]
        rintro e w1 ⟨rfl, hb1⟩
        have B1 := hide hb1
        clear hb1
        go_wp2_with fail
        refine (Gf.l4Syndromes_calls _ xs n _ (R.out.below B1.out) EL.out n3).mono ?_
        rw [← HS.out]
        rintro e w2 ⟨v2, rfl, ho2, hb2⟩
        have R2 := hide ho2.rd
        have B2 := hide (B1.out.trans (hb2.mono B1.out.size))
        clear ho2 hb2
        go_wp2_with fail
        refine (Gf.l4Locator_calls _ (nat s) _ (by rw [SC.out]; exact R2.out) SN.out SL6.out).mono ?_
        rw [LO.out]
        rintro e w3 ⟨v3, rfl, ho3, hb3⟩
        have R3 := hide ho3.rd
        have R23 := hide (R2.out.below hb3)
        have B3 := hide (B2.out.trans (hb3.mono B2.out.size))
        obtain ⟨ca, cc, hv3, _, _, _⟩ := ho3.rd
        subst hv3
        clear ho3 hb3
        go_wp2_with fail
        refine (Gf.l4Places_calls _ c xs.length _ R3.out (Gf.goodP_all CG.out) hlen).mono ?_
        rw [HPC.out]
        rintro e w4 ⟨v4, rfl, ho4, hb4⟩
        have R4 := hide ho4.rd
        have R24 := hide (R23.out.below hb4)
        have B4 := hide (B3.out.trans (hb4.mono B3.out.size))
        obtain ⟨pa, pc, hv4, _, _, _⟩ := ho4.rd
        subst hv4
        clear ho4 hb4

        go_wp2_with fail
        refine (l4Fix_calls _ _ _ xs ps s _ (R.out.below B4.out) R4.out R24.out EL.out SEL.out PK.out PIN.out hp0 hp3 HSL.out hlen).mono ?_
        rw [HOUT.out]
        rintro e w5 ⟨v5, rfl, ho5, hb5⟩
        have O5 := hide (ho5.mono B4.out.size)
        have B5 := hide (B4.out.trans (hb5.mono B4.out.size))
        clear ho5 hb5
        go_wp2_with fail
        refine (Gf.l4Is_calls _ out n _ O5.out.rd OE.out n3).mono ?_
        rw [IO.out]
        rintro e w6 ⟨rfl, hb6⟩
        have O6 := hide (O5.out.below hb6)
        have B6 := hide (B5.out.trans (hb6.mono B5.out.size))
        clear hb6

        go_wp2
        go_ret3
        exact ⟨_, rfl, Gf.own_nil _ _, B6.out⟩
end Go.Proofs.YtogopakmebiomaaDoor

namespace Go.Proofs.YtogopakmebiomaaDoor
open Go.RowKit

set_option maxRecDepth 100000 in
set_option maxHeartbeats 3200000 in
theorem fnExactDecodeWord_walk (vm : Value) (m : List Int) (k : Int) (w : World) (hT : Gf.Tab w) (hm : Rd w vm m) (_ : (Lit.int .i64 k).wf = true) :
    Calls Tryd.prog 8 #[vm, .int .i64 k] w fun e w' => e = .returned (.bool true) ∧ Below w.heap.size w w' := by
  have Pm := hide hm
  obtain ⟨am, capm, rfl, _⟩ := hm
  have T := hide hT
  clear hT
  by_cases hnm : m.length ≤ 1048576
  case neg =>
    have h' : (1048576 : Int) < (m.length : Int) := by omega
    go_enter Tryd.func8, Tryd.ntmps8
    go_wp2
    go_ret
    exact ⟨rfl, Below.refl _ _⟩
  have hnm' : ¬ (1048576 : Int) < (m.length : Int) := by omega
  have S0 := hide (Hands.start w)
  go_enter Tryd.func8, Tryd.ntmps8
  go_wp2_with fail
  refine (toIntS_calls _ m _ (Pm.out.below S0.out.below) hnm).mono ?_
  rintro e w1 ⟨tm, rfl, o, b⟩
  have S1 := hide (S0.out.addI b o)
  clear o b S0
  go_wp2_with fail
  refine (sDecodeWord_calls _ m k _ (S1.out.rdI 0 rfl)).mono ?_
  rintro e w2 ⟨w0, rfl, o, b⟩
  have S2 := hide (S1.out.addI b o)
  clear o b S1
  go_wp2_with fail
  refine (toIntS_calls _ m _ (Pm.out.below S2.out.below) hnm).mono ?_
  rintro e w3 ⟨xm, rfl, o, b⟩
  have S3 := hide (S2.out.addI b o)
  clear o b S2
  go_wp2_with fail
  refine (decodeWord_calls _ m k _ (Gf.Tab.below T.out S3.out.below) (S3.out.rdI 0 rfl)).mono ?_
  rintro e w4 ⟨g0, rfl, o, b⟩
  have S4 := hide (S3.out.addI b o)
  clear o b S3
  go_wp2_with fail
  refine (eqIntS_same g0 w0 (decW m k).1 _ (S4.out.rdI 0 rfl) (S4.out.rdI 2 rfl)).mono ?_
  rintro e w5 ⟨rfl, b⟩
  have S5 := hide (S4.out.step b)
  clear b S4
  go_wp2_with fail
  refine (toIntS_calls _ m _ (Pm.out.below S5.out.below) hnm).mono ?_
  rintro e w6 ⟨ym, rfl, o, b⟩
  have S6 := hide (S5.out.addI b o)
  clear o b S5
  go_wp2_with fail
  refine (eqIntS_same xm ym m _ (S6.out.rdI 2 rfl) (S6.out.rdI 0 rfl)).mono ?_
  rintro e w7 ⟨rfl, b⟩
  have S7 := hide (S6.out.step b)
  clear b S6
  obtain ⟨lo8, hi8, ok8, lb8, ub8, put8⟩ := S7.out.open 2 rfl
  have OK8 := hide ok8
  have PUT8 := hide put8
  clear ok8 put8 lb8 ub8
  go_wp2_with fail
  refine (markIntS_calls xm m 1 lo8 _ OK8.out.1 (by omega) (by omega) hnm).mono ?_
  rintro e w8 ⟨rfl, o, g⟩
  have S8 := hide (PUT8.out _ (.ints (marks 1 m.length)) ⟨o, OK8.out.2⟩ (Chg.ofGrown g (fun k hk => ⟨(World.ownsRow.lt OK8.out.1 k hk).1, OK8.out.2 k hk⟩)))
  clear o g S7 OK8 PUT8
  have kk : ¬ ((1 + m.length) : Int) < 0 := by omega
  go_wp2_with fail
  refine (eqIntS_same g0 w0 (decW m k).1 _ (S8.out.rdI 1 rfl) (S8.out.rdI 3 rfl)).mono ?_
  rintro e w9 ⟨rfl, b⟩
  have S9 := hide (S8.out.step b)
  clear b S8
  obtain ⟨lo10, hi10, ok10, lb10, ub10, put10⟩ := S9.out.open 1 rfl
  have OK10 := hide ok10
  have PUT10 := hide put10
  clear ok10 put10 lb10 ub10
  go_wp2_with fail
  refine (markIntS_calls g0 (decW m k).1 1 lo10 _ OK10.out.1 (by omega) (by omega) (decW_len m k)).mono ?_
  rintro e w10 ⟨rfl, o, g⟩
  have S10 := hide (PUT10.out _ (.ints (marks 1 (decW m k).1.length)) ⟨o, OK10.out.2⟩ (Chg.ofGrown g (fun k hk => ⟨(World.ownsRow.lt OK10.out.1 k hk).1, OK10.out.2 k hk⟩)))
  clear o g S9 OK10 PUT10
  go_wp2_with fail
  refine (heldIntS_calls g0 (decW m k).1.length 1 _ (S10.out.rdI 1 rfl) (by omega) (by omega) (decW_len m k)).mono ?_
  rintro e w11 ⟨rfl, rfl⟩
  have qq : ¬ ((1 : Int) + ((decW m k).1.length : Nat) < 0) := by omega
  go_wp2_with fail
  refine (toIntS_calls _ m _ (Pm.out.below S10.out.below) hnm).mono ?_
  rintro e w12 ⟨zm, rfl, o, b⟩
  have S12 := hide (S10.out.addI b o)
  clear o b S10
  go_wp2_with fail
  refine (decodeWord_calls _ m k _ (Gf.Tab.below T.out S12.out.below) (S12.out.rdI 0 rfl)).mono ?_
  rintro e w13 ⟨h0, rfl, o, b⟩
  have S13 := hide (S12.out.addI b o)
  clear o b S12
  go_wp2_with fail
  refine (eqIntS_same h0 w0 (decW m k).1 _ (S13.out.rdI 0 rfl) (S13.out.rdI 5 rfl)).mono ?_
  rintro e w14 ⟨rfl, b⟩
  have S14 := hide (S13.out.step b)
  clear b S13
  go_wp2_with fail
  refine (heldIntS_calls g0 (decW m k).1.length 1 _ (S14.out.rdI 3 rfl) (by omega) (by omega) (decW_len m k)).mono ?_
  rintro e w15 ⟨rfl, rfl⟩
  go_wp2
  go_ret
  exact ⟨rfl, S14.out.below⟩
end Go.Proofs.YtogopakmebiomaaDoor

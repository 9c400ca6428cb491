/-
  A word put right at places: the program's putRight, call by call. The program's table of rests must hold its seven numbers.
-/
import Derived.Test.YtogopakmebiomaaDoorVanM
import Derived.Test.YtogopakmebiomaaDoorCauL
import Derived.Test.YtogopakmebiomaaDoorCp
import Derived.Test.YtogopakmebiomaaDoorLoc
namespace Go.Proofs.YtogopakmebiomaaDoor
open Go.RowKit
open Gf (ci nat ciM Sh AllLt)

set_option maxRecDepth 100000 in
set_option maxHeartbeats 6400000 in
theorem putRight_calls (xv pv sv : Value) (xs ps ss : List Int) (w : World) (hT : Gf.Tab w) (hx : Rd w xv xs) (hp : Rd w pv ps) (hs : Rd w sv ss) (ex : xs.all Gf.elOk = true) (es : ss.all Gf.elOk = true)
    (hok : PlOk ps) (hin : ∀ i, i < ps.length → ps.getD i 0 < (xs.length : Int)) (h1 : 1 ≤ ps.length) (h3 : ps.length ≤ 3) (hl : ps.length ≤ ss.length) (hxl : xs.length ≤ 24) :
    Calls Tryd.prog 92 #[xv, pv, sv] w fun e w' => ∃ v', e = .returned v' ∧ Own w' w.heap.size v' (fixW xs ps ss) ∧ Below w.heap.size w w' := by
  have T := hide hT
  have RX := hide hx
  have RP := hide hp
  have RS := hide hs
  have EX := hide ex
  have ES := hide es
  have OK := hide hok
  have IN := hide hin
  obtain ⟨xa, xc, rfl, _⟩ := hx
  obtain ⟨pa, pc, rfl, _⟩ := hp
  obtain ⟨sa, sc, rfl, hsc, _⟩ := hs
  obtain ⟨P, hP⟩ : ∃ P, P = vanM ps := ⟨_, rfl⟩
  have hPl : P.length = ps.length := by rw [hP, vanM_length]
  have hPg : ∀ k, k < ps.length → P.getD k [] = vanRow ps k := fun k hk => by rw [hP, vanM_get _ _ hk]
  have PL := hide hPl
  have PG := hide hPg
  have HP := hide hP
  obtain ⟨l, hll⟩ : ∃ l, l = ps.length := ⟨_, rfl⟩
  have HL := hide hll
  obtain ⟨res, hres⟩ : ∃ r, r = fixW xs ps ss := ⟨_, rfl⟩
  rw [← hres]
  have RES := hide hres
  clear hT ex es hok hin hP hPl hPg hll hres
  go_enter Tryd.func92, Tryd.ntmps92
  go_wp2_with fail
  refine (newRows_calls ps.length ps.length _ (by omega) (by omega)).mono ?_
  rintro e w3 ⟨v3, rfl, ⟨vs, hm⟩, hb3⟩
  have e0 : List.replicate ps.length (List.replicate ps.length (0 : Int)) = gTo P (List.replicate l 0) 0 := by rw [gTo_zero, PL.out, HL.out]
  rw [e0] at hm
  clear e0
  obtain ⟨g, cap, hv3, hg1, hg2, hg3, hg4⟩ := hm.open (by rw [gTo_length _ _ _ (Nat.zero_le _), PL.out]; omega)
  rw [gTo_length _ _ _ (Nat.zero_le _), PL.out] at hv3 hg3
  subst hv3
  have M3 := hide hm
  have B3 := hide hb3
  have S2 : 0 < w.heap.size := Gf.tab_pos T.out
  clear hm hb3
  go_wp2
  go_loopw [24] (fun vi wr => ∃ (k : Nat), k ≤ ps.length ∧ vi = .int .i64 k ∧ MatV wr w.heap.size w3.heap.size (.slice (some ⟨g, 0, none⟩) ps.length cap) vs (gTo P (List.replicate l 0) k) ∧ Chg w.heap.size w3.heap.size w3 wr) (fun vi _ => ps.length - (intOf vi).toNat)
  case atStart => exact ⟨0, Nat.zero_le _, rfl, M3.out, Chg.refl _ _ _⟩
  case round =>
    obtain ⟨k, hk, rfl, hM, hC⟩ := hrel
    by_cases hlt : k < ps.length
    · have hlt' : (k : Int) < (ps.length : Int) := by omega
      have BW := hide (B3.out.trans (hC.below (Nat.le_refl _) B3.out.size))
      obtain ⟨r, hr⟩ : ∃ r, r = vanRow ps k := ⟨_, rfl⟩
      have hrl : r.length = l := by rw [hr, vanRow_length, HL.out]
      have hrg : ∀ j, j < ps.length → r.getD j 0 = ((Gf.pow 2 ((ps.getD j 0).toNat * k) : Nat) : Int) := fun j hj => by rw [hr, vanRow_get _ _ _ hj]
      have hpg := PG.out k hlt
      rw [← hr] at hpg
      have hkl : k < (gTo P (List.replicate l 0) k).length := by rw [gTo_length _ _ _ (by rw [PL.out]; exact hk), PL.out]; exact hlt
      have hcu0 := hM.cell k hkl
      have hro0 := hM.row k hkl
      rw [gTo_get P (List.replicate l 0) k (by rw [PL.out]; exact hlt)] at hro0
      obtain ⟨u, huu⟩ : ∃ u, u = vs.getD k nilRow := ⟨_, rfl⟩
      rw [← huu] at hcu0 hro0
      obtain ⟨g', cap', hue, hq1, hq2, hq3, hq4⟩ := hro0.open1 (by rw [List.length_replicate, HL.out]; omega)
      rw [List.length_replicate, HL.out] at hue
      rw [hue] at hcu0 huu
      have UU := hide huu
      have M := hide hM
      have C := hide hC
      have PK := hide hpg
      have RL := hide hrl
      have RG := hide hrg
      have KL := hide hkl
      clear hM hC hpg hr hrl hrg hkl hro0 huu hue hq1 hq2 hq3 hq4
      go_wp2
      go_loopw [31] (fun vi wr2 => ∃ (j : Nat), j ≤ ps.length ∧ vi = .int .i64 j ∧ MatV wr2 w.heap.size w3.heap.size (.slice (some ⟨g, 0, none⟩) ps.length cap) vs ((gTo P (List.replicate l 0) k).set k (cpTo r j)) ∧ Chg w.heap.size w3.heap.size w3 wr2) (fun vi _ => ps.length - (intOf vi).toNat)
      case atStart =>
        refine ⟨0, Nat.zero_le _, rfl, ?_, C.out⟩
        have e := gTo_get P (List.replicate l 0) k (by rw [PL.out]; exact hlt)
        have e2 := set_same _ k [] KL.out
        rw [e] at e2
        rw [cpTo_zero, RL.out, e2]
        exact M.out
      case round =>
        obtain ⟨j, hj, rfl, hM2, hC2⟩ := hrel
        by_cases hltj : j < ps.length
        · have hltj' : (j : Int) < (ps.length : Int) := by omega
          have BW2 := hide (B3.out.trans (hC2.below (Nat.le_refl _) B3.out.size))
          obtain ⟨yb, yoff, yu, rfl, hyc, hyu⟩ := (RP.out.below BW2.out).row j hltj
          obtain ⟨y, hyy⟩ : ∃ y, y = ps.getD j 0 := ⟨_, rfl⟩
          rw [← hyy] at hyu
          subst hyu
          obtain ⟨ha, hb, _⟩ := OK.out j hltj
          rw [← hyy] at ha hb
          have hg := RG.out j hltj
          rw [← hyy] at hg
          obtain ⟨Y, rfl⟩ := Int.eq_ofNat_of_zero_le ha
          have hY : Y < 24 := by omega
          simp only [Int.toNat_natCast] at hg
          have hYk : Y * k ≤ 23 * 3 := Nat.mul_le_mul (by omega) (by omega)
          have hw : (Y : Int) * (k : Int) = ((Y * k : Nat) : Int) := by simp
          obtain ⟨z, hz⟩ : ∃ z, z = Gf.pow 2 (Y * k) := ⟨_, rfl⟩
          rw [← hz] at hg
          have CI : Hid (∀ w', Gf.Tab w' → Calls Tryd.prog 67 #[.int .i64 2, .int .i64 ((Y : Int) * (k : Int))] w' fun e w'' => e = .returned (.int .i64 ((z : Nat) : Int)) ∧ w' = w'') := by
            intro w' hT'
            rw [hw]
            obtain ⟨q, hq⟩ : ∃ q : Nat, q = Y * k := ⟨_, rfl⟩
            rw [← hq] at hz hYk ⊢
            clear hw hg
            refine (Gf.powE_calls 2 q w' hT' (by decide) (by decide) (by omega) (by omega)).mono ?_
            rintro e w'' ⟨rfl, rfl⟩
            refine ⟨?_, rfl⟩
            rw [Int.toNat_natCast]
            rw [show Gf.pow (Int.toNat 2) q = z from hz.symm]
          have hkl2 : k < ((gTo P (List.replicate l 0) k).set k (cpTo r j)).length := by rw [List.length_set]; exact KL.out
          have hro := hM2.row k hkl2
          rw [getD_set _ _ _ _ _ KL.out, if_pos rfl] at hro
          have hcl : (cpTo r j).length = l := by rw [cpTo_length r j (by rw [RL.out, HL.out]; exact hj), RL.out]
          rw [← UU.out] at hro
          obtain ⟨hf, hcell⟩ := hro.at j (by rw [hcl, HL.out]; exact hltj)
          obtain ⟨old, hold⟩ : ∃ o, o = (cpTo r j).getD j 0 := ⟨_, rfl⟩
          rw [← hold] at hcell
          have W := hide (hro.put j ((z : Nat) : Int))
          have hst : (cpTo r j).set j ((z : Nat) : Int) = cpTo r (j + 1) := by rw [← hg]; exact cpTo_step r j (by rw [RL.out, HL.out]; exact hltj)
          have ST := hide hst
          have M2 := hide hM2
          have C2 := hide hC2
          have TT := hide (Gf.Tab.below T.out BW2.out)
          have KL2 := hide hkl2
          clear hM2 hC2 hyy ha hb hg hz hkl2 hro hcl hold hst hw
          go_wp2_with fail
          refine (CI.out _ TT.out).mono ?_
          rintro e w' ⟨rfl, rfl⟩
          go_wp2
          go_roundw
          case rel =>
            have hww := W.out
            have hgg : wr.grownBy (wr.setCell ⟨g', j, none⟩ (.int .i64 ((z : Nat) : Int))) (vs.getD k nilRow).ownBlock := by
              rw [← UU.out]
              exact hww.2
            have ho : Own (wr.setCell ⟨g', j, none⟩ (.int .i64 ((z : Nat) : Int))) w.heap.size (vs.getD k nilRow) (cpTo r (j + 1)) := by
              rw [← UU.out, ← ST.out]
              exact hww.1
            refine ⟨j + 1, by omega, by go_num, ?_, C2.out.trans (M2.out.writeChg k KL2.out hgg)⟩
            have := M2.out.write k KL2.out _ ho hgg
            rw [List.set_set] at this
            exact this
          case measure => simp [intOf]; omega
        · obtain rfl : j = ps.length := by omega
          have M2 := hide hM2
          have C2 := hide hC2
          clear hM2 hC2
          go_wp2
          go_roundw
          case rel =>
            refine ⟨k + 1, by omega, by go_num, ?_, C2.out⟩
            have := M2.out
            have e := cpTo_end r
            rw [RL.out, HL.out] at e
            rw [e, ← PK.out, gTo_step _ _ k (by rw [PL.out]; exact hlt)] at this
            exact this
          case measure => simp [intOf]; omega
    · obtain rfl : k = ps.length := by omega
      have hm := hM
      have e := gTo_end P (List.replicate l 0)
      rw [PL.out] at e
      rw [e] at hm
      have RM := hide hm.rd
      have BB := hide (B3.out.trans (hC.below (Nat.le_refl _) B3.out.size))
      clear hM hC hm e M3 B3
      obtain ⟨WW, rfl⟩ : ∃ W, W = wr := ⟨_, rfl⟩
      have hsok : (slvR P (ss.take ps.length)).2 = true := by
        rw [HP.out]
        refine van_ok OK.out h1 h3 (by rw [List.length_take]; omega) ?_
        rw [List.all_eq_true]
        intro x hx
        exact List.all_eq_true.1 ES.out x (List.mem_of_mem_take hx)
      obtain ⟨S, hS1, hS2, _, _, hS3, _⟩ := slv_facts hsok
      rw [PL.out] at hS2
      have SOK := hide hsok
      have HS1 := hide hS1
      have HS2 := hide hS2
      have HS3 := hide hS3
      have hRS : res = ci (fixN (nat xs) S ps ps.length) := by
        rw [RES.out]
        unfold fixW
        rw [← HP.out, hS1, nat_ci]
      have HRS := hide hRS
      have RT : Hid (Rd WW (.slice sa ps.length sc) (ss.take ps.length)) := rd_takep (RS.out.below BB.out) hl
      have f1 : (ps.length : Int) ≤ (sc : Int) := by omega
      clear hsok hS1 hS2 hS3 hRS
      go_wp2_with fail
      refine (solveBy_calls _ _ P (ss.take ps.length) _ (T.out.below BB.out) RM.out RT.out).mono ?_
      rw [SOK.out, HS1.out]
      rintro e w4 ⟨dv, rfl, ho4, hb4⟩
      have O4 := hide ho4
      have B4 := hide (BB.out.trans (hb4.mono BB.out.size))
      clear ho4 hb4
      go_wp2_with fail
      refine (copyList_calls _ xs _ (RX.out.below B4.out) (by omega)).mono ?_
      rintro e w5 ⟨rv, rfl, ho5, hb5⟩
      have hx0 : 0 < xs.length := by have := IN.out 0 (by omega); have := (OK.out 0 (by omega)).1; omega
      obtain ⟨g5, cap5, hv5, hq1, hq2, _⟩ := Gf.Own.open ho5 hx0
      subst hv5
      have hxe := Gf.ci_nat EX.out
      have XL : Hid (AllLt (nat xs)) := Gf.nat_lt EX.out
      have NL : Hid ((nat xs).length = xs.length) := Gf.nat_length xs
      have O5 : Hid (w5.ownsRow w.heap.size 3 1 (.slice (some ⟨g5, 0, none⟩) xs.length cap5) xs.length ((ci (fixN (nat xs) S ps 0)).map (Value.int .i64))) := by
        have := ho5.mono (base' := w.heap.size) B4.out.size
        rw [fixN, hxe]
        exact this
      have OD := hide (O4.out.below hb5)
      have B5 := hide (B4.out.trans (hb5.mono B4.out.size))
      have s45 := hb5.size
      have far : Hid (∀ k, dv.ownBlock = some k → k < w4.heap.size) := fun k hk => (O4.out.lt k hk).2
      obtain ⟨da, dc, hdv, _, _, _⟩ := O4.out.rd
      rw [Gf.ci_length, HS2.out] at hdv
      subst hdv
      clear ho5 hb5 hxe O4
      go_wp2
      go_loopw [58] (fun vi wr2 => ∃ i : Nat, i ≤ ps.length ∧ vi = .int .i64 i ∧ wr2.ownsRow w.heap.size 3 1 (.slice (some ⟨g5, 0, none⟩) xs.length cap5) xs.length ((ci (fixN (nat xs) S ps i)).map (Value.int .i64)) ∧ w5.grownBy wr2 (some g5)) (fun vi _ => ps.length - (intOf vi).toNat)
      case atStart => exact ⟨0, Nat.zero_le _, rfl, O5.out, World.grownBy.refl _ _⟩
      case round =>
        obtain ⟨i, hi, rfl, ho, hg⟩ := hrel
        have O := hide ho
        have GG := hide hg
        have BX : Hid (Below w.heap.size w wr) := B5.out.grown hg B5.out.size (fun k hk => by cases hk; have := B4.out.size; omega)
        clear ho hg
        by_cases hlti : i < ps.length
        · have hlti' : (i : Int) < (ps.length : Int) := by omega
          obtain ⟨pb, po, pu, rfl, hpc, hpu⟩ := (RP.out.below BX.out).row i hlti
          obtain ⟨y, hyy⟩ : ∃ y, y = ps.getD i 0 := ⟨_, rfl⟩
          rw [← hyy] at hpu
          subst hpu
          obtain ⟨ha, hb, _⟩ := OK.out i hlti
          have hc := IN.out i hlti
          rw [← hyy] at ha hb hc
          obtain ⟨Y, rfl⟩ := Int.eq_ofNat_of_zero_le ha
          have hYx : Y < xs.length := by omega
          have OD2 : Rd wr (.slice da ps.length dc) (ci S) := by
            refine Own.rd (base := WW.heap.size) (World.ownsRow.kept OD.out GG.out ?_)
            right
            intro e
            have := far.out g5 e
            omega
          obtain ⟨db, dof, rfl, hdc⟩ := Gf.Rd.rowN OD2 i (by rw [HS2.out]; exact hlti)
          obtain ⟨d, hd⟩ : ∃ d, d = S.getD i 0 := ⟨_, rfl⟩
          rw [← hd] at hdc
          have hd256 : d < 256 := by rw [hd]; exact HS3.out i
          have hcf := O.out.frozenAt Y
          have hcc := O.out.cellAt Y (by omega)
          have hll : Y < (ci (fixN (nat xs) S ps i)).length := by rw [Gf.ci_length, fixN_length, NL.out]; exact hYx
          rw [List.getElem?_map, List.getElem?_eq_getElem hll] at hcc
          have h9 := Gf.ci_getD (fixN (nat xs) S ps i) Y
          rw [List.getD_eq_getElem?_getD, List.getElem?_eq_getElem hll, Option.getD_some] at h9
          obtain ⟨c, hcq⟩ : ∃ c, c = (fixN (nat xs) S ps i).getD Y 0 := ⟨_, rfl⟩
          rw [h9, ← hcq] at hcc
          have hc256 : c < 256 := by rw [hcq]; exact fixN_lt XL.out HS3.out i Y
          have NX : Hid (Gf.xorAt (fixN (nat xs) S ps i) Y d = fixN (nat xs) S ps (i + 1)) := by rw [fixN, ← hyy, ← hd, Int.toNat_natCast]; exact hide rfl
          have CQ := hide hcq
          have i2 : (Y : Int) < (xs.length : Int) := by omega
          clear hyy hd hcq h9 hll OD2 ha hb hc
          go_wp2
          go_region_with (fail)
          all_goals
            go_wp2
            go_roundw
            case rel =>
              refine ⟨i + 1, by omega, by go_num, ?_, ?_⟩
              · have := (O.out.stored Y (.int .i64 (c ^^^ d : Nat))).1
                rw [← List.map_set, Gf.ci_set, CQ.out] at this
                rw [Gf.i64_xor _ _ (by omega) (by omega), CQ.out, ← NX.out]
                exact this.drew
              · exact Gf.grownBy_drew (Gf.grownBy_trans GG.out (O.out.stored Y _).2)
            case measure => simp [intOf]; omega
        · obtain rfl : i = ps.length := by omega
          have O6 : Hid (Own wr w.heap.size (.slice (some ⟨g5, 0, none⟩) xs.length cap5) res) := by
            show World.ownsRow _ _ _ _ _ res.length _
            rw [HRS.out, Gf.ci_length, fixN_length, NL.out]
            exact O.out
          clear O
          go_wp2
          go_ret
          exact ⟨_, rfl, O6.out, BX.out⟩
end Go.Proofs.YtogopakmebiomaaDoor

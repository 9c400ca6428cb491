/-
  A word put right at places: the model's l4Fix, call by call. No condition.
-/
import Derived.Test.YtogopakmebiomaaDoorFix
import Derived.Test.YtogopakmebiomaaDoorSLoc
namespace Go.Proofs.YtogopakmebiomaaDoor
open Go.RowKit
open Gf (ci nat ciM Sh AllLt)

set_option maxRecDepth 100000 in
set_option maxHeartbeats 6400000 in
theorem l4Fix_calls (xv pv sv : Value) (xs ps ss : List Int) (w : World) (hx : Rd w xv xs) (hp : Rd w pv ps) (hs : Rd w sv ss) (ex : xs.all Gf.elOk = true) (es : ss.all Gf.elOk = true)
    (hok : PlOk ps) (hin : ∀ i, i < ps.length → ps.getD i 0 < (xs.length : Int)) (h1 : 1 ≤ ps.length) (h3 : ps.length ≤ 3) (hl : ps.length ≤ ss.length) (hxl : xs.length ≤ 24) :
    Calls Tryd.prog 88 #[xv, pv, sv] w fun e w' => ∃ v', e = .returned (.tuple #[v', .bool true]) ∧ Own w' w.heap.size v' (fixW xs ps ss) ∧ Below w.heap.size w w' := by
  have RX := hide hx
  have RP := hide hp
  have RS := hide hs
  have EX := hide ex
  have ES := hide es
  have OK := hide hok
  have IN := hide hin
  obtain ⟨xa, xc, rfl, _⟩ := hx
  obtain ⟨pa, pc, rfl, _⟩ := hp
  obtain ⟨sa, sc, rfl, hsc, _⟩ := hs
  obtain ⟨P, hP⟩ : ∃ P, P = vanM ps := ⟨_, rfl⟩
  have hPl : P.length = ps.length := by rw [hP, vanM_length]
  have hPg : ∀ k, k < ps.length → P.getD k [] = vanRow ps k := fun k hk => by rw [hP, vanM_get _ _ hk]
  have PL := hide hPl
  have PG := hide hPg
  have HP := hide hP
  obtain ⟨res, hres⟩ : ∃ r, r = fixW xs ps ss := ⟨_, rfl⟩
  rw [← hres]
  have RES := hide hres
  clear ex es hok hin hP hPl hPg hres
  go_enter Tryd.func88, Tryd.ntmps88
  go_wp2
  go_loopw [8, 20] (fun vo vi wr => ∃ (k : Nat) (vs : List Value), k ≤ ps.length ∧ vi = .int .i64 k ∧ MatV wr w.heap.size wr.heap.size vo vs (P.take k) ∧ Below w.heap.size w wr) (fun _ vi _ => ps.length - (intOf vi).toNat)
  case atStart =>
    obtain ⟨vs, hv⟩ := Mat.nil w w.heap.size w.heap.size
    exact ⟨0, vs, Nat.zero_le _, rfl, hv, Below.refl _ _⟩
  case round =>
    obtain ⟨k, vs, hk, rfl, hm, hb⟩ := hrel
    have M := hide hm
    have B := hide hb
    clear hm hb
    by_cases hlt : k < ps.length
    · have hlt' : (k : Int) < (ps.length : Int) := by omega
      obtain ⟨r, hr⟩ : ∃ r, r = vanRow ps k := ⟨_, rfl⟩
      have hrl : r.length = ps.length := by rw [hr, vanRow_length]
      have hrg : ∀ j, j < ps.length → r.getD j 0 = ((Gf.pow 2 ((ps.getD j 0).toNat * k) : Nat) : Int) := fun j hj => by rw [hr, vanRow_get _ _ _ hj]
      have hnext : P.take k ++ [r] = P.take (k + 1) := by
        rw [take_snoc P [] k (by rw [PL.out]; exact hlt), PG.out k hlt, hr]
      have RL := hide hrl
      have RG := hide hrg
      have NX := hide hnext
      obtain ⟨W1, rfl⟩ : ∃ W1, W1 = wr := ⟨_, rfl⟩
      clear hr hrl hrg hnext
      go_wp2
      go_loopw [10, 25] (fun vr vi wr2 => ∃ (j : Nat), j ≤ ps.length ∧ vi = .int .i64 j ∧ Own wr2 W1.heap.size vr (r.take j) ∧ Below W1.heap.size W1 wr2) (fun _ vi _ => ps.length - (intOf vi).toNat)
      case atStart => exact ⟨0, Nat.zero_le _, rfl, World.ownsRow_nil _ _ _ _, Below.refl _ _⟩
      case round =>
        obtain ⟨j, hj, rfl, ho, hb2⟩ := hrel
        have O := hide ho
        have B2 := hide hb2
        clear ho hb2
        by_cases hltj : j < ps.length
        · have hltj' : (j : Int) < (ps.length : Int) := by omega
          obtain ⟨yb, yoff, yu, rfl, hyc, hyu⟩ := ((RP.out.below B.out).below B2.out).row j hltj
          obtain ⟨y, hyy⟩ : ∃ y, y = ps.getD j 0 := ⟨_, rfl⟩
          rw [← hyy] at hyu
          subst hyu
          obtain ⟨ha, hb, _⟩ := OK.out j hltj
          rw [← hyy] at ha hb
          have hg := RG.out j hltj
          rw [← hyy] at hg
          obtain ⟨Y, rfl⟩ := Int.eq_ofNat_of_zero_le ha
          have hY : Y < 24 := by omega
          simp only [Int.toNat_natCast] at hg
          have hYk : Y * k ≤ 23 * 3 := Nat.mul_le_mul (by omega) (by omega)
          have hw : (Y : Int) * (k : Int) = ((Y * k : Nat) : Int) := by simp
          obtain ⟨z, hz⟩ : ∃ z, z = Gf.pow 2 (Y * k) := ⟨_, rfl⟩
          rw [← hz] at hg
          have CI : Hid (∀ w', Calls Tryd.prog 123 #[.int .i64 2, .int .i64 ((Y : Int) * (k : Int))] w' fun e w'' => e = .returned (.int .i64 ((z : Nat) : Int)) ∧ w' = w'') := by
            intro w'
            rw [hw]
            obtain ⟨q, hq⟩ : ∃ q : Nat, q = Y * k := ⟨_, rfl⟩
            rw [← hq] at hz hYk ⊢
            clear hw hg
            refine (Gf.l1Pow_calls 2 q w' (by decide) (by decide) (by omega) (by omega)).mono ?_
            rintro e w'' ⟨rfl, rfl⟩
            refine ⟨?_, rfl⟩
            rw [Int.toNat_natCast]
            rw [show Gf.pow (Int.toNat 2) q = z from hz.symm]
          have HG := hide hg
          have HL2 : Hid ((r.take j).length = j) := by show (r.take j).length = j; rw [List.length_take, RL.out]; omega
          clear hyy ha hb hg hz hw
          go_wp2_with fail
          refine (CI.out _).mono ?_
          rintro e w2 ⟨rfl, rfl⟩
          have O2 := hide (O.out.alloc (.cells #[.int .i64 ((z : Nat) : Int)] 3))
          go_wp2_with (at_builtin; refine wpList_append_rd rfl _ _ rfl W1.heap.size _ (r.take j).length (r.take j) [((z : Nat) : Int)] rfl O2.out _ rfl rd_single (by rw [HL2.out]; simp; omega) (by have := B2.out.size; simp; omega) ?_)
          intro v' w3 ho3 hg3
          have hb3 : Below W1.heap.size W1 w3 := (B2.out.alloc B2.out.size _).grown hg3 (by have := B2.out.size; simp; omega) (fun i hi => (O.out.lt i hi).1)
          have e : r.take j ++ [((z : Nat) : Int)] = r.take (j + 1) := by rw [take_snoc r 0 j (by rw [RL.out]; exact hltj), HG.out]
          rw [e] at ho3
          have O3 := hide ho3
          have B3 := hide hb3
          clear ho3 hg3 hb3 e
          go_wp2
          go_roundw
          case rel => exact ⟨j + 1, by omega, by go_num, O3.out, B3.out⟩
          case measure => simp [intOf]; omega
        · obtain rfl : j = ps.length := by omega
          have ho := O.out
          rw [← RL.out, List.take_of_length_le (Nat.le_refl _)] at ho
          obtain ⟨ra, rn, rc, rfl⟩ := ho.shape
          have OO := hide ho
          clear ho O
          go_wp2_with (at_builtin; refine wpList_append_row rfl _ _ rfl w.heap.size W1.heap.size _ vs (P.take k) rfl M.out (B2.out.alloc B2.out.size _) _ r (OO.out.below ((Below.refl _ _).alloc (Nat.le_refl _) _)) (Nat.le_refl _) B.out.size _ rfl (World.cell?_alloc_at _ _ _ _ (by simp)) (by simp; omega) ?_)
          intro v2 w2 hM2 hB2
          rw [NX.out] at hM2
          have M2 := hide hM2
          have B3 := hide hB2
          clear hM2 hB2
          go_wp2
          go_roundw
          case rel => exact ⟨k + 1, _, by omega, by go_num, M2.out, B.out.trans B3.out⟩
          case measure => simp [intOf]; omega
    · obtain rfl : k = ps.length := by omega
      obtain ⟨WW, rfl⟩ : ∃ W, W = wr := ⟨_, rfl⟩
      have RM : Hid (RdM WW u8 P) := by
        have := M.out.rd
        rw [← PL.out, List.take_of_length_le (Nat.le_refl _)] at this
        exact this
      have BB := B
      have hsok : (slvR P (ss.take ps.length)).2 = true := by
        rw [HP.out]
        refine van_ok OK.out h1 h3 (by rw [List.length_take]; omega) ?_
        rw [List.all_eq_true]
        intro x hx
        exact List.all_eq_true.1 ES.out x (List.mem_of_mem_take hx)
      obtain ⟨S, hS1, hS2, _, _, hS3, _⟩ := slv_facts hsok
      rw [PL.out] at hS2
      have SOK := hide hsok
      have HS1 := hide hS1
      have HS2 := hide hS2
      have HS3 := hide hS3
      have hRS : res = ci (fixN (nat xs) S ps ps.length) := by
        rw [RES.out]
        unfold fixW
        rw [← HP.out, hS1, nat_ci]
      have HRS := hide hRS
      have RT : Hid (Rd WW (.slice sa ps.length sc) (ss.take ps.length)) := rd_takep (RS.out.below BB.out) hl
      have f1 : (ps.length : Int) ≤ (sc : Int) := by omega
      clear hsok hS1 hS2 hS3 hRS
      go_wp2_with fail
      refine (sSolveBy_calls _ _ P (ss.take ps.length) _ RM.out RT.out).mono ?_
      rw [SOK.out, HS1.out]
      rintro e w4 ⟨dv, rfl, ho4, hb4⟩
      have O4 := hide ho4
      have B4 := hide (BB.out.trans (hb4.mono BB.out.size))
      clear ho4 hb4
      have OO : Hid ((w4.alloc (.cells #[] 3)).ownsRow w4.heap.size 3 1 (.slice (some ⟨w4.heap.size, 0, none⟩) 0 0) 0 (([] : List Int).map (Value.int .i64))) := World.ownsRow_lit w4 #[] 0 (Nat.le_refl _) (by decide) (by rfl)
      have PP := hide ((RX.out.below B4.out).below ((Below.refl w4.heap.size w4).alloc (Nat.le_refl _) (.cells #[] 3)))
      go_wp2_with (at_builtin; refine wpList_append_rd rfl (.tmp 53) (.tmp 54) rfl w4.heap.size _ 0 [] xs rfl OO.out _ rfl PP.out (by omega) (by simp) ?_)
      intro rv w5 ho5 hg5
      have hb5 : Below w4.heap.size w4 w5 := ((Below.refl w4.heap.size w4).alloc (Nat.le_refl _) _).grown hg5 (by simp) (fun i hi => by cases hi; exact Nat.le_refl _)
      have hx0 : 0 < xs.length := by have := IN.out 0 (by omega); have := (OK.out 0 (by omega)).1; omega
      have ho5 : Own w5 w4.heap.size rv xs := ho5
      obtain ⟨g5, cap5, hv5, hq1, hq2, _⟩ := Gf.Own.open ho5 hx0
      subst hv5
      have hxe := Gf.ci_nat EX.out
      have XL : Hid (AllLt (nat xs)) := Gf.nat_lt EX.out
      have NL : Hid ((nat xs).length = xs.length) := Gf.nat_length xs
      have O5 : Hid (w5.ownsRow w.heap.size 3 1 (.slice (some ⟨g5, 0, none⟩) xs.length cap5) xs.length ((ci (fixN (nat xs) S ps 0)).map (Value.int .i64))) := by
        have := ho5.mono (base' := w.heap.size) B4.out.size
        rw [fixN, hxe]
        exact this
      have OD := hide (O4.out.below hb5)
      have B5 := hide (B4.out.trans (hb5.mono B4.out.size))
      have s45 := hb5.size
      have far : Hid (∀ k, dv.ownBlock = some k → k < w4.heap.size) := fun k hk => (O4.out.lt k hk).2
      obtain ⟨da, dc, hdv, _, _, _⟩ := O4.out.rd
      rw [Gf.ci_length, HS2.out] at hdv
      subst hdv
      clear ho5 hb5 hg5 hxe O4 OO PP
      go_wp2
      go_loopw [58] (fun vi wr2 => ∃ i : Nat, i ≤ ps.length ∧ vi = .int .i64 i ∧ wr2.ownsRow w.heap.size 3 1 (.slice (some ⟨g5, 0, none⟩) xs.length cap5) xs.length ((ci (fixN (nat xs) S ps i)).map (Value.int .i64)) ∧ w5.grownBy wr2 (some g5)) (fun vi _ => ps.length - (intOf vi).toNat)
      case atStart => exact ⟨0, Nat.zero_le _, rfl, O5.out, World.grownBy.refl _ _⟩
      case round =>
        obtain ⟨i, hi, rfl, ho, hg⟩ := hrel
        have O := hide ho
        have GG := hide hg
        have BX : Hid (Below w.heap.size w wr) := B5.out.grown hg B5.out.size (fun k hk => by cases hk; have := B4.out.size; omega)
        clear ho hg
        by_cases hlti : i < ps.length
        · have hlti' : (i : Int) < (ps.length : Int) := by omega
          obtain ⟨pb, po, pu, rfl, hpc, hpu⟩ := (RP.out.below BX.out).row i hlti
          obtain ⟨y, hyy⟩ : ∃ y, y = ps.getD i 0 := ⟨_, rfl⟩
          rw [← hyy] at hpu
          subst hpu
          obtain ⟨ha, hb, _⟩ := OK.out i hlti
          have hc := IN.out i hlti
          rw [← hyy] at ha hb hc
          obtain ⟨Y, rfl⟩ := Int.eq_ofNat_of_zero_le ha
          have hYx : Y < xs.length := by omega
          have OD2 : Rd wr (.slice da ps.length dc) (ci S) := by
            refine Own.rd (base := WW.heap.size) (World.ownsRow.kept OD.out GG.out ?_)
            right
            intro e
            have := far.out g5 e
            omega
          obtain ⟨db, dof, rfl, hdc⟩ := Gf.Rd.rowN OD2 i (by rw [HS2.out]; exact hlti)
          obtain ⟨d, hd⟩ : ∃ d, d = S.getD i 0 := ⟨_, rfl⟩
          rw [← hd] at hdc
          have hd256 : d < 256 := by rw [hd]; exact HS3.out i
          have hcf := O.out.frozenAt Y
          have hcc := O.out.cellAt Y (by omega)
          have hll : Y < (ci (fixN (nat xs) S ps i)).length := by rw [Gf.ci_length, fixN_length, NL.out]; exact hYx
          rw [List.getElem?_map, List.getElem?_eq_getElem hll] at hcc
          have h9 := Gf.ci_getD (fixN (nat xs) S ps i) Y
          rw [List.getD_eq_getElem?_getD, List.getElem?_eq_getElem hll, Option.getD_some] at h9
          obtain ⟨c, hcq⟩ : ∃ c, c = (fixN (nat xs) S ps i).getD Y 0 := ⟨_, rfl⟩
          rw [h9, ← hcq] at hcc
          have hc256 : c < 256 := by rw [hcq]; exact fixN_lt XL.out HS3.out i Y
          have NX : Hid (Gf.xorAt (fixN (nat xs) S ps i) Y d = fixN (nat xs) S ps (i + 1)) := by rw [fixN, ← hyy, ← hd, Int.toNat_natCast]; exact hide rfl
          have CQ := hide hcq
          have i2 : (Y : Int) < (xs.length : Int) := by omega
          clear hyy hd hcq h9 hll OD2 ha hb hc
          go_wp2
          go_region_with (fail)
          all_goals
            go_wp2
            go_roundw
            case rel =>
              refine ⟨i + 1, by omega, by go_num, ?_, ?_⟩
              · have := (O.out.stored Y (.int .i64 (c ^^^ d : Nat))).1
                rw [← List.map_set, Gf.ci_set, CQ.out] at this
                rw [Gf.i64_xor _ _ (by omega) (by omega), CQ.out, ← NX.out]
                exact this.drew
              · exact Gf.grownBy_drew (Gf.grownBy_trans GG.out (O.out.stored Y _).2)
            case measure => simp [intOf]; omega
        · obtain rfl : i = ps.length := by omega
          have O6 : Hid (Own wr w.heap.size (.slice (some ⟨g5, 0, none⟩) xs.length cap5) res) := by
            show World.ownsRow _ _ _ _ _ res.length _
            rw [HRS.out, Gf.ci_length, fixN_length, NL.out]
            exact O.out
          clear O
          go_wp2
          go_ret2
          exact ⟨_, rfl, O6.out, BX.out⟩
end Go.Proofs.YtogopakmebiomaaDoor

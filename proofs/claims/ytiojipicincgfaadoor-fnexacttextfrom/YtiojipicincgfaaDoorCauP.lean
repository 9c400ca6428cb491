/-
  CauchyMatrix: the program's function and its model's, at all lists. The program's table of rests must hold its seven numbers where the program's own function is called.
-/
import Derived.Test.YtiojipicincgfaaDoorCauM
namespace Go.Proofs.YtiojipicincgfaaDoor
open Go.RowKit

def cauOk (xs ys : List Int) : Bool := decide (1 ≤ (xs.length : Int) ∧ (xs.length : Int) ≤ 8) && (decide (1 ≤ (ys.length : Int) ∧ (ys.length : Int) ≤ 8) && unl (xs ++ ys))
def cauR (xs ys : List Int) : List (List Int) × Bool := if cauOk xs ys = true then (cauM xs ys, true) else ([], false)
theorem cauOk_facts {xs ys : List Int} (h : cauOk xs ys = true) : (1 ≤ xs.length ∧ xs.length ≤ 8) ∧ (1 ≤ ys.length ∧ ys.length ≤ 8) ∧ unl (xs ++ ys) = true := by
  simp only [cauOk, Bool.and_eq_true, decide_eq_true_eq] at h
  exact ⟨by omega, by omega, h.2.2⟩
theorem unl_parts {xs ys : List Int} (h : unl (xs ++ ys) = true) : xs.all Gf.elOk = true ∧ ys.all Gf.elOk = true := by
  have := unl_els h
  rw [List.all_append, Bool.and_eq_true] at this
  exact this
theorem cauR_tot (xs ys : List Int) : (cauR xs ys).1.length + tot (cauR xs ys).1 ≤ 1048576 := by
  unfold cauR
  split
  · rename_i h
    obtain ⟨h1, h2, _⟩ := cauOk_facts h
    simp only []
    have : ∀ k, k ≤ xs.length → tot ((cauM xs ys).take k) ≤ 8 * k := by
      intro k
      induction k with
      | zero => intro _; simp [tot]
      | succ k ih =>
        intro hk
        rw [tot_take_succ _ k (by rw [cauM_length]; omega), cauM_get _ _ k (by omega), cauRow_length]
        have := ih (by omega)
        omega
    have := this xs.length (Nat.le_refl _)
    rw [List.take_of_length_le (by rw [cauM_length]; exact Nat.le_refl _)] at this
    rw [cauM_length]
    omega
  · simp [tot]
theorem rdM_pair {w : World} {xv yv : Value} {xs ys : List Int} (hx : Rd w xv xs) (hy : Rd w yv ys) : RdM (w.alloc (.cells #[xv, yv] 39)) (.slice (some ⟨w.heap.size, 0, none⟩) 2 2) [xs, ys] := by
  have hb : Below w.heap.size w (w.alloc (.cells #[xv, yv] 39)) := (Below.refl _ _).alloc (Nat.le_refl _) _
  refine ⟨_, 2, rfl, Nat.le_refl _, ⟨by unfold maxLen; omega, fun h => by cases h⟩, .inr ⟨_, 0, rfl, by simp, fun i hi => ?_⟩⟩
  simp at hi
  match i, hi with
  | 0, _ => exact ⟨xv, World.cell?_alloc_at _ _ _ _ (by simp), hx.below hb⟩
  | 1, _ => exact ⟨yv, World.cell?_alloc_at _ _ _ _ (by simp), hy.below hb⟩

set_option maxRecDepth 100000 in
set_option maxHeartbeats 3200000 in
theorem cauchy_good (xv yv : Value) (xs ys : List Int) (w : World) (hT : Gf.Tab w) (hx : Rd w xv xs) (hy : Rd w yv ys) (hok : cauOk xs ys = true) :
    Calls Tryd.prog 79 #[xv, yv] w fun e w' => ∃ v', e = .returned (.tuple #[v', .bool true]) ∧ Mat w' w.heap.size w'.heap.size v' (cauM xs ys) ∧ Below w.heap.size w w' := by
  obtain ⟨⟨hx1, hx8⟩, ⟨hy1, hy8⟩, hu⟩ := cauOk_facts hok
  obtain ⟨ex, ey⟩ := unl_parts hu
  have RX := hide hx
  have RY := hide hy
  have T := hide hT
  have EX := hide ex
  have EY := hide ey
  have U := hide hu
  have UP : Hid (unl ([xs, ys] : List (List Int)).flatten = true) := by
    show unl ([xs, ys] : List (List Int)).flatten = true
    simpa using hu
  obtain ⟨xa, xcap, rfl, _⟩ := hx
  obtain ⟨ya, ycap, rfl, _⟩ := hy
  have b1 : Hid (decide (1 ≤ (xs.length : Int) ∧ (xs.length : Int) ≤ 8) = true) := decide_eq_true (by omega)
  have b2 : Hid (decide (1 ≤ (ys.length : Int) ∧ (ys.length : Int) ≤ 8) = true) := decide_eq_true (by omega)
  obtain ⟨P, hP⟩ : ∃ P, P = cauM xs ys := ⟨_, rfl⟩
  rw [← hP]
  have hPl : P.length = xs.length := by rw [hP, cauM_length]
  have hPg : ∀ k, k < xs.length → P.getD k [] = cauRow (xs.getD k 0) ys := fun k hk => by rw [hP, cauM_get _ _ _ hk]
  have PL := hide hPl
  have PG := hide hPg
  obtain ⟨l, hl⟩ : ∃ l, l = ys.length := ⟨_, rfl⟩
  have HL := hide hl
  clear hT hok hu ex ey hP hPl hPg hl
  go_enter Tryd.func79, Tryd.ntmps79
  go_wp2_with fail
  refine (isSide_calls _ _).mono ?_
  rw [b1.out]
  rintro e w' ⟨rfl, rfl⟩
  go_wp2_with fail
  refine (isSide_calls _ _).mono ?_
  rw [b2.out]
  rintro e w' ⟨rfl, rfl⟩
  go_wp2_with fail
  refine (areUnlike_calls _ [xs, ys] _ (rdM_pair RX.out RY.out) (by simp) (fun i hi => by simp at hi; match i, hi with | 0, _ => (show xs.length ≤ _; omega) | 1, _ => (show ys.length ≤ _; omega))).mono ?_
  rw [UP.out]
  rintro e w2 ⟨rfl, hb2⟩
  have h0 : Below w.heap.size w (w.alloc (.cells #[.slice xa xs.length xcap, .slice ya ys.length ycap] 39)) := (Below.refl _ _).alloc (Nat.le_refl _) _
  have B2 := hide (h0.trans (hb2.mono h0.size))
  clear hb2 h0
  go_wp2_with fail
  refine (newRows_calls xs.length ys.length _ (by omega) (by omega)).mono ?_
  rintro e w3 ⟨v3, rfl, ⟨vs, hm⟩, hb3⟩
  rw [← HL.out, ← PL.out, ← gTo_zero] at hm
  obtain ⟨g, cap, hv3, hg1, hg2, hg3, hg4⟩ := hm.open (by rw [gTo_length _ _ _ (Nat.zero_le _), PL.out]; omega)
  rw [gTo_length _ _ _ (Nat.zero_le _), PL.out] at hv3 hg3
  subst hv3
  have M3 := hide hm
  have B3 := hide (B2.out.trans (hb3.mono B2.out.size))
  have hs23 : w.heap.size ≤ w2.heap.size := B2.out.size
  have S2 : 1 < w2.heap.size := Nat.lt_of_lt_of_le (Gf.tab_pos T.out) hs23
  clear hm hb3
  go_wp2
  go_loopw [35] (fun vi wr => ∃ (k : Nat), k ≤ xs.length ∧ vi = .int .i64 k ∧ MatV wr w2.heap.size w3.heap.size (.slice (some ⟨g, 0, none⟩) xs.length cap) vs (gTo P (List.replicate l 0) k) ∧ Chg w2.heap.size w3.heap.size w3 wr) (fun vi _ => xs.length - (intOf vi).toNat)
  case atStart => exact ⟨0, Nat.zero_le _, rfl, M3.out, Chg.refl _ _ _⟩
  case round =>
    obtain ⟨k, hk, rfl, hM, hC⟩ := hrel
    by_cases hlt : k < xs.length
    · have hlt' : (k : Int) < (xs.length : Int) := by omega
      have BW := hide (B3.out.trans (hC.below hs23 B3.out.size))
      obtain ⟨b, off, u, rfl, hc, hu⟩ := (RX.out.below BW.out).row k hlt
      obtain ⟨x, hxx⟩ : ∃ x, x = xs.getD k 0 := ⟨_, rfl⟩
      rw [← hxx] at hu
      subst hu
      have hex := Gf.elOk_tests (Gf.all_of_getD.1 EX.out k hlt)
      rw [← hxx] at hex
      have hpg := PG.out k hlt
      rw [← hxx] at hpg
      obtain ⟨A, rfl⟩ := Int.eq_ofNat_of_zero_le hex.1
      have hA : A < 256 := by omega
      obtain ⟨r, hr⟩ : ∃ r, r = cauRow ((A : Nat) : Int) ys := ⟨_, rfl⟩
      have hrl : r.length = l := by rw [hr, cauRow_length, HL.out]
      have hrg : ∀ j, j < ys.length → r.getD j 0 = ((Gf.inv (A ^^^ (ys.getD j 0).toNat) : Nat) : Int) := fun j hj => by rw [hr, cauRow_get _ _ _ hj]; simp
      rw [← hr] at hpg
      have hkl : k < (gTo P (List.replicate l 0) k).length := by rw [gTo_length _ _ _ (by rw [PL.out]; exact hk), PL.out]; exact hlt
      have M := hide hM
      have C := hide hC
      have PK := hide hpg
      have RL := hide hrl
      have RG := hide hrg
      have KL := hide hkl
      clear hM hC hxx hex hpg hr hrl hrg hkl
      go_wp2
      go_loopw [42] (fun vi wr2 => ∃ (j : Nat), j ≤ ys.length ∧ vi = .int .i64 j ∧ MatV wr2 w2.heap.size w3.heap.size (.slice (some ⟨g, 0, none⟩) xs.length cap) vs ((gTo P (List.replicate l 0) k).set k (cpTo r j)) ∧ Chg w2.heap.size w3.heap.size w3 wr2) (fun vi _ => ys.length - (intOf vi).toNat)
      case atStart =>
        refine ⟨0, Nat.zero_le _, rfl, ?_, C.out⟩
        have e := gTo_get P (List.replicate l 0) k (by rw [PL.out]; exact hlt)
        have e2 := set_same _ k [] KL.out
        rw [e] at e2
        rw [cpTo_zero, RL.out, e2]
        exact M.out
      case round =>
        obtain ⟨j, hj, rfl, hM2, hC2⟩ := hrel
        by_cases hltj : j < ys.length
        · have hltj' : (j : Int) < (ys.length : Int) := by omega
          have BW2 := hide (B3.out.trans (hC2.below hs23 B3.out.size))
          obtain ⟨yb, yoff, yu, rfl, hyc, hyu⟩ := (RY.out.below BW2.out).row j hltj
          obtain ⟨y, hyy⟩ : ∃ y, y = ys.getD j 0 := ⟨_, rfl⟩
          rw [← hyy] at hyu
          subst hyu
          have hey := Gf.elOk_tests (Gf.all_of_getD.1 EY.out j hltj)
          rw [← hyy] at hey
          have hg := RG.out j hltj
          rw [← hyy] at hg
          obtain ⟨Y, rfl⟩ := Int.eq_ofNat_of_zero_le hey.1
          have hY : Y < 256 := by omega
          simp only [Int.toNat_natCast] at hg
          have hxor : bits .xor .i64 ((A : Nat) : Int) ((Y : Nat) : Int) = ((A ^^^ Y : Nat) : Int) := Gf.i64_xor _ _ (by omega) (by omega)
          have hxl : A ^^^ Y < 256 := Nat.xor_lt_two_pow (n := 8) hA hY
          obtain ⟨z, hz⟩ : ∃ z, z = Gf.inv (A ^^^ Y) := ⟨_, rfl⟩
          rw [← hz] at hg
          have CI : Hid (∀ w', Gf.Tab w' → Calls Tryd.prog 90 #[.int .i64 (bits .xor .i64 ((A : Nat) : Int) ((Y : Nat) : Int))] w' fun e w'' => e = .returned (.int .i64 ((z : Nat) : Int)) ∧ w' = w'') := by
            intro w' hT'
            rw [hxor]
            refine (Gf.inv_calls _ w' hT' (by omega) (by omega)).mono ?_
            rintro e w'' ⟨rfl, rfl⟩
            refine ⟨?_, rfl⟩
            rw [Int.toNat_natCast, hz]
          have hkl2 : k < ((gTo P (List.replicate l 0) k).set k (cpTo r j)).length := by rw [List.length_set]; exact KL.out
          have hcu := hM2.cell k hkl2
          have hro := hM2.row k hkl2
          rw [getD_set _ _ _ _ _ KL.out, if_pos rfl] at hro
          obtain ⟨u, huu⟩ : ∃ u, u = vs.getD k nilRow := ⟨_, rfl⟩
          rw [← huu] at hcu hro
          have hcl : (cpTo r j).length = l := by rw [cpTo_length r j (by rw [RL.out, HL.out]; exact hj), RL.out]
          obtain ⟨g', cap', hue, hq1, hq2, hq3, hq4⟩ := hro.open1 (by rw [hcl, HL.out]; omega)
          rw [hcl, HL.out] at hue
          rw [hue] at hcu hro huu
          obtain ⟨hf, hcell⟩ := hro.at j (by rw [hcl, HL.out]; exact hltj)
          obtain ⟨old, hold⟩ : ∃ o, o = (cpTo r j).getD j 0 := ⟨_, rfl⟩
          rw [← hold] at hcell
          have W := hide (hro.put j ((z : Nat) : Int))
          have hst : (cpTo r j).set j ((z : Nat) : Int) = cpTo r (j + 1) := by rw [← hg]; exact cpTo_step r j (by rw [RL.out, HL.out]; exact hltj)
          have ST := hide hst
          have UU := hide huu
          have M2 := hide hM2
          have C2 := hide hC2
          have TT := hide (Gf.Tab.below T.out BW2.out)
          have KL2 := hide hkl2
          have i0 : (0 : Int) ≤ (k : Int) := by omega
          have i1 : (0 : Int) ≤ (j : Int) := by omega
          clear hM2 hC2 hyy hey hg hxor hxl hz hkl2 hro huu hue hcl hold hst
          go_wp2
          go_region_with (go_at_call 90; refine (CI.out _ (by exact TT.out)).mono ?_; rintro e w' ⟨rfl, rfl⟩)
          all_goals
            go_wp2
            go_roundw
            case rel =>
              have hw := W.out
              have hgg : wr.grownBy (wr.drew.setCell ⟨g', j, none⟩ (.int .i64 ((z : Nat) : Int))) (vs.getD k nilRow).ownBlock := by
                rw [← UU.out]
                exact ⟨hw.2.os, hw.2.tape, hw.2.output, hw.2.size, hw.2.block⟩
              have ho : Own (wr.drew.setCell ⟨g', j, none⟩ (.int .i64 ((z : Nat) : Int))) w2.heap.size (vs.getD k nilRow) (cpTo r (j + 1)) := by
                rw [← UU.out, ← ST.out]
                exact hw.1.drew
              refine ⟨j + 1, by omega, by go_num, ?_, C2.out.trans (M2.out.writeChg k KL2.out hgg)⟩
              have := M2.out.write k KL2.out _ ho hgg
              rw [List.set_set] at this
              exact this
            case measure => simp [intOf]; omega
        · obtain rfl : j = ys.length := by omega
          have M2 := hide hM2
          have C2 := hide hC2
          clear hM2 hC2
          go_wp2
          go_roundw
          case rel =>
            refine ⟨k + 1, by omega, by go_num, ?_, C2.out⟩
            have := M2.out
            have e := cpTo_end r
            rw [RL.out, HL.out] at e
            rw [e, ← PK.out, gTo_step _ _ k (by rw [PL.out]; exact hlt)] at this
            exact this
          case measure => simp [intOf]; omega
    · obtain rfl : k = xs.length := by omega
      have M := hide hM
      have C := hide hC
      clear hM hC
      go_wp2
      go_ret2
      have hm := M.out
      have e := gTo_end P (List.replicate l 0)
      rw [PL.out] at e
      rw [e] at hm
      exact ⟨_, rfl, ⟨_, hm.wider hs23 C.out.size⟩, B3.out.trans (C.out.below hs23 B3.out.size)⟩

set_option maxRecDepth 100000 in
set_option maxHeartbeats 1600000 in
theorem cauchy_calls (xv yv : Value) (xs ys : List Int) (w : World) (hT : Gf.Tab w) (hx : Rd w xv xs) (hy : Rd w yv ys) :
    Calls Tryd.prog 79 #[xv, yv] w fun e w' => ∃ v', e = .returned (.tuple #[v', .bool (cauR xs ys).2]) ∧ Mat w' w.heap.size w'.heap.size v' (cauR xs ys).1 ∧ Below w.heap.size w w' := by
  by_cases hok : cauOk xs ys = true
  · have e : cauR xs ys = (cauM xs ys, true) := by simp [cauR, hok]
    rw [e]
    exact cauchy_good xv yv xs ys w hT hx hy hok
  · have e : cauR xs ys = ([], false) := by simp only [cauR, if_neg hok]
    rw [e]
    clear e hT
    have RX := hide hx
    have RY := hide hy
    obtain ⟨xa, xcap, rfl, _⟩ := hx
    obtain ⟨ya, ycap, rfl, _⟩ := hy
    cases h1 : decide (1 ≤ (xs.length : Int) ∧ (xs.length : Int) ≤ 8) with
    | false =>
      have H1 := hide h1
      clear h1
      go_enter Tryd.func79, Tryd.ntmps79
      go_wp2_with fail
      refine (isSide_calls _ _).mono ?_
      rw [H1.out]
      rintro e w' ⟨rfl, rfl⟩
      go_wp2
      go_ret2
      exact ⟨_, rfl, Mat.nil _ _ _, Below.refl _ _⟩
    | true =>
      have H1 := hide h1
      cases h2 : decide (1 ≤ (ys.length : Int) ∧ (ys.length : Int) ≤ 8) with
      | false =>
        have H2 := hide h2
        clear h1 h2
        go_enter Tryd.func79, Tryd.ntmps79
        go_wp2_with fail
        refine (isSide_calls _ _).mono ?_
        rw [H1.out]
        rintro e w' ⟨rfl, rfl⟩
        go_wp2_with fail
        refine (isSide_calls _ _).mono ?_
        rw [H2.out]
        rintro e w' ⟨rfl, rfl⟩
        go_wp2
        go_ret2
        exact ⟨_, rfl, Mat.nil _ _ _, Below.refl _ _⟩
      | true =>
        have H2 := hide h2
        have hu : unl ([xs, ys] : List (List Int)).flatten = false := by
          cases hq : unl ([xs, ys] : List (List Int)).flatten with
          | false => rfl
          | true =>
            refine absurd ?_ hok
            rw [cauOk, h1, h2]
            simpa using hq
        have U := hide hu
        have hx8 := of_decide_eq_true h1
        have hy8 := of_decide_eq_true h2
        clear h1 h2 hu hok
        go_enter Tryd.func79, Tryd.ntmps79
        go_wp2_with fail
        refine (isSide_calls _ _).mono ?_
        rw [H1.out]
        rintro e w' ⟨rfl, rfl⟩
        go_wp2_with fail
        refine (isSide_calls _ _).mono ?_
        rw [H2.out]
        rintro e w' ⟨rfl, rfl⟩
        go_wp2_with fail
        refine (areUnlike_calls _ [xs, ys] _ (rdM_pair RX.out RY.out) (by simp) (fun i hi => by simp at hi; match i, hi with | 0, _ => (show xs.length ≤ _; omega) | 1, _ => (show ys.length ≤ _; omega))).mono ?_
        rw [U.out]
        rintro e w2 ⟨rfl, hb2⟩
        have h0 : Below w.heap.size w (w.alloc (.cells #[.slice xa xs.length xcap, .slice ya ys.length ycap] 39)) := (Below.refl _ _).alloc (Nat.le_refl _) _
        have B2 := hide (h0.trans (hb2.mono h0.size))
        clear hb2 h0
        go_wp2
        go_ret2
        exact ⟨_, rfl, Mat.nil _ _ _, B2.out⟩

end Go.Proofs.YtiojipicincgfaaDoor

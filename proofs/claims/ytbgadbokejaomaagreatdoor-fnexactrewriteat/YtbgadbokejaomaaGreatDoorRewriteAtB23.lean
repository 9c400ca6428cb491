/-
  CauchyMatrix: the program's function and its model's, at all lists. The program's table of rests must hold its seven numbers where the program's own function is called. How many data and parity pieces there may be: the program's function and its model's, call by call. No condition. The rows of a code: the program's functions and its model's, call by call. The program's table of rests must hold its seven numbers where the program's own functions are called.
-/
import Derived.Test.YtbgadbokejaomaaGreatDoorRewriteAtB22
import Derived.Test.YtbgadbokejaomaaGreatDoorRewriteAtB20
namespace Go.Proofs.YtbgadbokejaomaaGreatDoor
open Go.RowKit

def cauOk (xs ys : List Int) : Bool := decide (1 ≤ (xs.length : Int) ∧ (xs.length : Int) ≤ 8) && (decide (1 ≤ (ys.length : Int) ∧ (ys.length : Int) ≤ 8) && unl (xs ++ ys))
def cauR (xs ys : List Int) : List (List Int) × Bool := if cauOk xs ys = true then (cauM xs ys, true) else ([], false)
theorem cauOk_facts {xs ys : List Int} (h : cauOk xs ys = true) : (1 ≤ xs.length ∧ xs.length ≤ 8) ∧ (1 ≤ ys.length ∧ ys.length ≤ 8) ∧ unl (xs ++ ys) = true := by
  simp only [cauOk, Bool.and_eq_true, decide_eq_true_eq] at h
  exact ⟨by omega, by omega, h.2.2⟩
theorem unl_parts {xs ys : List Int} (h : unl (xs ++ ys) = true) : xs.all Gf.elOk = true ∧ ys.all Gf.elOk = true := by
  have := unl_els h
  rw [List.all_append, Bool.and_eq_true] at this
  exact this
theorem rdM_pair {w : World} {xv yv : Value} {xs ys : List Int} (hx : Rd w xv xs) (hy : Rd w yv ys) : RdM (w.alloc (.cells #[xv, yv] 27)) (.slice (some ⟨w.heap.size, 0, none⟩) 2 2) [xs, ys] := by
  have hb : Below w.heap.size w (w.alloc (.cells #[xv, yv] 27)) := (Below.refl _ _).alloc (Nat.le_refl _) _
  refine ⟨_, 2, rfl, Nat.le_refl _, ⟨by unfold maxLen; omega, fun h => by cases h⟩, .inr ⟨_, 0, rfl, by simp, fun i hi => ?_⟩⟩
  simp at hi
  match i, hi with
  | 0, _ => exact ⟨xv, World.cell?_alloc_at _ _ _ _ (by simp), hx.below hb⟩
  | 1, _ => exact ⟨yv, World.cell?_alloc_at _ _ _ _ (by simp), hy.below hb⟩

set_option maxRecDepth 100000 in
set_option maxHeartbeats 3200000 in
theorem cauchy_good (xv yv : Value) (xs ys : List Int) (w : World) (hT : Gf.Tab w) (hx : Rd w xv xs) (hy : Rd w yv ys) (hok : cauOk xs ys = true) :
    Calls Tryz.prog 223 #[xv, yv] w fun e w' => ∃ v', e = .returned (.tuple #[v', .bool true]) ∧ Mat w' w.heap.size w'.heap.size v' (cauM xs ys) ∧ Below w.heap.size w w' := by
  obtain ⟨⟨hx1, hx8⟩, ⟨hy1, hy8⟩, hu⟩ := cauOk_facts hok
  obtain ⟨ex, ey⟩ := unl_parts hu
  have RX := hide hx
  have RY := hide hy
  have T := hide hT
  have EX := hide ex
  have EY := hide ey
  have U := hide hu
  have UP : Hid (unl ([xs, ys] : List (List Int)).flatten = true) := by
    show unl ([xs, ys] : List (List Int)).flatten = true
    simpa using hu
  obtain ⟨xa, xcap, rfl, _⟩ := hx
  obtain ⟨ya, ycap, rfl, _⟩ := hy
  have b1 : Hid (decide (1 ≤ (xs.length : Int) ∧ (xs.length : Int) ≤ 8) = true) := decide_eq_true (by omega)
  have b2 : Hid (decide (1 ≤ (ys.length : Int) ∧ (ys.length : Int) ≤ 8) = true) := decide_eq_true (by omega)
  obtain ⟨P, hP⟩ : ∃ P, P = cauM xs ys := ⟨_, rfl⟩
  rw [← hP]
  have hPl : P.length = xs.length := by rw [hP, cauM_length]
  have hPg : ∀ k, k < xs.length → P.getD k [] = cauRow (xs.getD k 0) ys := fun k hk => by rw [hP, cauM_get _ _ _ hk]
  have PL := hide hPl
  have PG := hide hPg
  obtain ⟨l, hl⟩ : ∃ l, l = ys.length := ⟨_, rfl⟩
  have HL := hide hl
  clear hT hok hu ex ey hP hPl hPg hl
  go_enter Tryz.func223, Tryz.ntmps223
  go_wp2_with fail
  refine (isSide_calls _ _).mono ?_
  rw [b1.out]
  rintro e w' ⟨rfl, rfl⟩
  go_wp2_with fail
  refine (isSide_calls _ _).mono ?_
  rw [b2.out]
  rintro e w' ⟨rfl, rfl⟩
  go_wp2_with fail
  refine (areUnlike_calls _ [xs, ys] _ (rdM_pair RX.out RY.out) (by simp) (fun i hi => by simp at hi; match i, hi with | 0, _ => (show xs.length ≤ _; omega) | 1, _ => (show ys.length ≤ _; omega))).mono ?_
  rw [UP.out]
  rintro e w2 ⟨rfl, hb2⟩
  have h0 : Below w.heap.size w (w.alloc (.cells #[.slice xa xs.length xcap, .slice ya ys.length ycap] 27)) := (Below.refl _ _).alloc (Nat.le_refl _) _
  have B2 := hide (h0.trans (hb2.mono h0.size))
  clear hb2 h0
  go_wp2_with fail
  refine (newRows_calls xs.length ys.length _ (by omega) (by omega)).mono ?_
  rintro e w3 ⟨v3, rfl, ⟨vs, hm⟩, hb3⟩
  rw [← HL.out, ← PL.out, ← gTo_zero] at hm
  obtain ⟨g, cap, hv3, hg1, hg2, hg3, hg4⟩ := hm.open (by rw [gTo_length _ _ _ (Nat.zero_le _), PL.out]; omega)
  rw [gTo_length _ _ _ (Nat.zero_le _), PL.out] at hv3 hg3
  subst hv3
  have M3 := hide hm
  have B3 := hide (B2.out.trans (hb3.mono B2.out.size))
  have hs23 : w.heap.size ≤ w2.heap.size := B2.out.size
  have S2 : 1 < w2.heap.size := Nat.lt_of_lt_of_le (Gf.tab_pos T.out) hs23
  clear hm hb3
  go_wp2
  go_loopw [35] (fun vi wr => ∃ (k : Nat), k ≤ xs.length ∧ vi = .int .i64 k ∧ MatV wr w2.heap.size w3.heap.size (.slice (some ⟨g, 0, none⟩) xs.length cap) vs (gTo P (List.replicate l 0) k) ∧ Chg w2.heap.size w3.heap.size w3 wr) (fun vi _ => xs.length - (intOf vi).toNat)
  case atStart => exact ⟨0, Nat.zero_le _, rfl, M3.out, Chg.refl _ _ _⟩
  case round =>
    obtain ⟨k, hk, rfl, hM, hC⟩ := hrel
    by_cases hlt : k < xs.length
    · have hlt' : (k : Int) < (xs.length : Int) := by omega
      have BW := hide (B3.out.trans (hC.below hs23 B3.out.size))
      obtain ⟨b, off, u, rfl, hc, hu⟩ := (RX.out.below BW.out).row k hlt
      obtain ⟨x, hxx⟩ : ∃ x, x = xs.getD k 0 := ⟨_, rfl⟩
      rw [← hxx] at hu
      subst hu
      have hex := Gf.elOk_tests (Gf.all_of_getD.1 EX.out k hlt)
      rw [← hxx] at hex
      have hpg := PG.out k hlt
      rw [← hxx] at hpg
      obtain ⟨A, rfl⟩ := Int.eq_ofNat_of_zero_le hex.1
      have hA : A < 256 := by omega
      obtain ⟨r, hr⟩ : ∃ r, r = cauRow ((A : Nat) : Int) ys := ⟨_, rfl⟩
      have hrl : r.length = l := by rw [hr, cauRow_length, HL.out]
      have hrg : ∀ j, j < ys.length → r.getD j 0 = ((Gf.inv (A ^^^ (ys.getD j 0).toNat) : Nat) : Int) := fun j hj => by rw [hr, cauRow_get _ _ _ hj]; simp
      rw [← hr] at hpg
      have hkl : k < (gTo P (List.replicate l 0) k).length := by rw [gTo_length _ _ _ (by rw [PL.out]; exact hk), PL.out]; exact hlt
      have M := hide hM
      have C := hide hC
      have PK := hide hpg
      have RL := hide hrl
      have RG := hide hrg
      have KL := hide hkl
      clear hM hC hxx hex hpg hr hrl hrg hkl
      go_wp2
      go_loopw [42] (fun vi wr2 => ∃ (j : Nat), j ≤ ys.length ∧ vi = .int .i64 j ∧ MatV wr2 w2.heap.size w3.heap.size (.slice (some ⟨g, 0, none⟩) xs.length cap) vs ((gTo P (List.replicate l 0) k).set k (cpTo r j)) ∧ Chg w2.heap.size w3.heap.size w3 wr2) (fun vi _ => ys.length - (intOf vi).toNat)
      case atStart =>
        refine ⟨0, Nat.zero_le _, rfl, ?_, C.out⟩
        have e := gTo_get P (List.replicate l 0) k (by rw [PL.out]; exact hlt)
        have e2 := set_same _ k [] KL.out
        rw [e] at e2
        rw [cpTo_zero, RL.out, e2]
        exact M.out
      case round =>
        obtain ⟨j, hj, rfl, hM2, hC2⟩ := hrel
        by_cases hltj : j < ys.length
        · have hltj' : (j : Int) < (ys.length : Int) := by omega
          have BW2 := hide (B3.out.trans (hC2.below hs23 B3.out.size))
          obtain ⟨yb, yoff, yu, rfl, hyc, hyu⟩ := (RY.out.below BW2.out).row j hltj
          obtain ⟨y, hyy⟩ : ∃ y, y = ys.getD j 0 := ⟨_, rfl⟩
          rw [← hyy] at hyu
          subst hyu
          have hey := Gf.elOk_tests (Gf.all_of_getD.1 EY.out j hltj)
          rw [← hyy] at hey
          have hg := RG.out j hltj
          rw [← hyy] at hg
          obtain ⟨Y, rfl⟩ := Int.eq_ofNat_of_zero_le hey.1
          have hY : Y < 256 := by omega
          simp only [Int.toNat_natCast] at hg
          have hxor : bits .xor .i64 ((A : Nat) : Int) ((Y : Nat) : Int) = ((A ^^^ Y : Nat) : Int) := Gf.i64_xor _ _ (by omega) (by omega)
          have hxl : A ^^^ Y < 256 := Nat.xor_lt_two_pow (n := 8) hA hY
          obtain ⟨z, hz⟩ : ∃ z, z = Gf.inv (A ^^^ Y) := ⟨_, rfl⟩
          rw [← hz] at hg
          have CI : Hid (∀ w', Gf.Tab w' → Calls Tryz.prog 254 #[.int .i64 (bits .xor .i64 ((A : Nat) : Int) ((Y : Nat) : Int))] w' fun e w'' => e = .returned (.int .i64 ((z : Nat) : Int)) ∧ w' = w'') := by
            intro w' hT'
            rw [hxor]
            refine (Gf.inv_calls _ w' hT' (by omega) (by omega)).mono ?_
            rintro e w'' ⟨rfl, rfl⟩
            refine ⟨?_, rfl⟩
            rw [Int.toNat_natCast, hz]
          have hkl2 : k < ((gTo P (List.replicate l 0) k).set k (cpTo r j)).length := by rw [List.length_set]; exact KL.out
          have hcu := hM2.cell k hkl2
          have hro := hM2.row k hkl2
          rw [getD_set _ _ _ _ _ KL.out, if_pos rfl] at hro
          obtain ⟨u, huu⟩ : ∃ u, u = vs.getD k nilRow := ⟨_, rfl⟩
          rw [← huu] at hcu hro
          have hcl : (cpTo r j).length = l := by rw [cpTo_length r j (by rw [RL.out, HL.out]; exact hj), RL.out]
          obtain ⟨g', cap', hue, hq1, hq2, hq3, hq4⟩ := hro.open1 (by rw [hcl, HL.out]; omega)
          rw [hcl, HL.out] at hue
          rw [hue] at hcu hro huu
          obtain ⟨hf, hcell⟩ := hro.at j (by rw [hcl, HL.out]; exact hltj)
          obtain ⟨old, hold⟩ : ∃ o, o = (cpTo r j).getD j 0 := ⟨_, rfl⟩
          rw [← hold] at hcell
          have W := hide (hro.put j ((z : Nat) : Int))
          have hst : (cpTo r j).set j ((z : Nat) : Int) = cpTo r (j + 1) := by rw [← hg]; exact cpTo_step r j (by rw [RL.out, HL.out]; exact hltj)
          have ST := hide hst
          have UU := hide huu
          have M2 := hide hM2
          have C2 := hide hC2
          have TT := hide (Gf.Tab.below T.out BW2.out)
          have KL2 := hide hkl2
          have i0 : (0 : Int) ≤ (k : Int) := by omega
          have i1 : (0 : Int) ≤ (j : Int) := by omega
          clear hM2 hC2 hyy hey hg hxor hxl hz hkl2 hro huu hue hcl hold hst
          go_wp2
          go_region_with (go_at_call 254; refine (CI.out _ (by exact TT.out)).mono ?_; rintro e w' ⟨rfl, rfl⟩)
          all_goals
            go_wp2
            go_roundw
            case rel =>
              have hw := W.out
              have hgg : wr.grownBy (wr.drew.setCell ⟨g', j, none⟩ (.int .i64 ((z : Nat) : Int))) (vs.getD k nilRow).ownBlock := by
                rw [← UU.out]
                exact ⟨hw.2.os, hw.2.tape, hw.2.output, hw.2.size, hw.2.block⟩
              have ho : Own (wr.drew.setCell ⟨g', j, none⟩ (.int .i64 ((z : Nat) : Int))) w2.heap.size (vs.getD k nilRow) (cpTo r (j + 1)) := by
                rw [← UU.out, ← ST.out]
                exact hw.1.drew
              refine ⟨j + 1, by omega, by go_num, ?_, C2.out.trans (M2.out.writeChg k KL2.out hgg)⟩
              have := M2.out.write k KL2.out _ ho hgg
              rw [List.set_set] at this
              exact this
            case measure => simp [intOf]; omega
        · obtain rfl : j = ys.length := by omega
          have M2 := hide hM2
          have C2 := hide hC2
          clear hM2 hC2
          go_wp2
          go_roundw
          case rel =>
            refine ⟨k + 1, by omega, by go_num, ?_, C2.out⟩
            have := M2.out
            have e := cpTo_end r
            rw [RL.out, HL.out] at e
            rw [e, ← PK.out, gTo_step _ _ k (by rw [PL.out]; exact hlt)] at this
            exact this
          case measure => simp [intOf]; omega
    · obtain rfl : k = xs.length := by omega
      have M := hide hM
      have C := hide hC
      clear hM hC
      go_wp2
      go_ret2
      have hm := M.out
      have e := gTo_end P (List.replicate l 0)
      rw [PL.out] at e
      rw [e] at hm
      exact ⟨_, rfl, ⟨_, hm.wider hs23 C.out.size⟩, B3.out.trans (C.out.below hs23 B3.out.size)⟩

set_option maxRecDepth 100000 in
set_option maxHeartbeats 1600000 in
theorem cauchy_calls (xv yv : Value) (xs ys : List Int) (w : World) (hT : Gf.Tab w) (hx : Rd w xv xs) (hy : Rd w yv ys) :
    Calls Tryz.prog 223 #[xv, yv] w fun e w' => ∃ v', e = .returned (.tuple #[v', .bool (cauR xs ys).2]) ∧ Mat w' w.heap.size w'.heap.size v' (cauR xs ys).1 ∧ Below w.heap.size w w' := by
  by_cases hok : cauOk xs ys = true
  · have e : cauR xs ys = (cauM xs ys, true) := by simp [cauR, hok]
    rw [e]
    exact cauchy_good xv yv xs ys w hT hx hy hok
  · have e : cauR xs ys = ([], false) := by simp only [cauR, if_neg hok]
    rw [e]
    clear e hT
    have RX := hide hx
    have RY := hide hy
    obtain ⟨xa, xcap, rfl, _⟩ := hx
    obtain ⟨ya, ycap, rfl, _⟩ := hy
    cases h1 : decide (1 ≤ (xs.length : Int) ∧ (xs.length : Int) ≤ 8) with
    | false =>
      have H1 := hide h1
      clear h1
      go_enter Tryz.func223, Tryz.ntmps223
      go_wp2_with fail
      refine (isSide_calls _ _).mono ?_
      rw [H1.out]
      rintro e w' ⟨rfl, rfl⟩
      go_wp2
      go_ret2
      exact ⟨_, rfl, Mat.nil _ _ _, Below.refl _ _⟩
    | true =>
      have H1 := hide h1
      cases h2 : decide (1 ≤ (ys.length : Int) ∧ (ys.length : Int) ≤ 8) with
      | false =>
        have H2 := hide h2
        clear h1 h2
        go_enter Tryz.func223, Tryz.ntmps223
        go_wp2_with fail
        refine (isSide_calls _ _).mono ?_
        rw [H1.out]
        rintro e w' ⟨rfl, rfl⟩
        go_wp2_with fail
        refine (isSide_calls _ _).mono ?_
        rw [H2.out]
        rintro e w' ⟨rfl, rfl⟩
        go_wp2
        go_ret2
        exact ⟨_, rfl, Mat.nil _ _ _, Below.refl _ _⟩
      | true =>
        have H2 := hide h2
        have hu : unl ([xs, ys] : List (List Int)).flatten = false := by
          cases hq : unl ([xs, ys] : List (List Int)).flatten with
          | false => rfl
          | true =>
            refine absurd ?_ hok
            rw [cauOk, h1, h2]
            simpa using hq
        have U := hide hu
        have hx8 := of_decide_eq_true h1
        have hy8 := of_decide_eq_true h2
        clear h1 h2 hu hok
        go_enter Tryz.func223, Tryz.ntmps223
        go_wp2_with fail
        refine (isSide_calls _ _).mono ?_
        rw [H1.out]
        rintro e w' ⟨rfl, rfl⟩
        go_wp2_with fail
        refine (isSide_calls _ _).mono ?_
        rw [H2.out]
        rintro e w' ⟨rfl, rfl⟩
        go_wp2_with fail
        refine (areUnlike_calls _ [xs, ys] _ (rdM_pair RX.out RY.out) (by simp) (fun i hi => by simp at hi; match i, hi with | 0, _ => (show xs.length ≤ _; omega) | 1, _ => (show ys.length ≤ _; omega))).mono ?_
        rw [U.out]
        rintro e w2 ⟨rfl, hb2⟩
        have h0 : Below w.heap.size w (w.alloc (.cells #[.slice xa xs.length xcap, .slice ya ys.length ycap] 27)) := (Below.refl _ _).alloc (Nat.le_refl _) _
        have B2 := hide (h0.trans (hb2.mono h0.size))
        clear hb2 h0
        go_wp2
        go_ret2
        exact ⟨_, rfl, Mat.nil _ _ _, B2.out⟩

end Go.Proofs.YtbgadbokejaomaaGreatDoor

namespace Go.Proofs.YtbgadbokejaomaaGreatDoor
open Go.RowKit

def codeOk (d q : Int) : Bool := decide (1 ≤ d ∧ d ≤ 6) && decide (1 ≤ q ∧ q ≤ 4)
theorem codeOk_facts {d q : Int} (h : codeOk d q = true) : 1 ≤ d ∧ d ≤ 6 ∧ 1 ≤ q ∧ q ≤ 4 := by
  simp only [codeOk, Bool.and_eq_true, decide_eq_true_eq] at h
  omega
theorem codeOk_no {d q : Int} (h : ¬ (1 ≤ d ∧ d ≤ 6 ∧ 1 ≤ q ∧ q ≤ 4)) : codeOk d q = false := by
  cases e : codeOk d q with
  | false => rfl
  | true => exact absurd (codeOk_facts e) h
theorem codeOk_yes {d q : Int} (h : 1 ≤ d ∧ d ≤ 6 ∧ 1 ≤ q ∧ q ≤ 4) : codeOk d q = true := by
  simp only [codeOk, Bool.and_eq_true, decide_eq_true_eq]
  omega
set_option maxRecDepth 100000 in
theorem isCode_calls (d q : Int) (w : World) :
    Calls Tryz.prog 176 #[.int .i64 d, .int .i64 q] w fun e w' => e = .returned (.bool (codeOk d q)) ∧ w = w' := by
  by_cases h1 : 1 ≤ d
  · by_cases h2 : d ≤ 6
    · by_cases h3 : 1 ≤ q
      · by_cases h4 : q ≤ 4
        · rw [codeOk_yes ⟨h1, h2, h3, h4⟩]
          go_enter Tryz.func176, Tryz.ntmps176
          go_wp2
          go_ret
          exact ⟨rfl, rfl⟩
        · rw [codeOk_no (by omega)]
          go_enter Tryz.func176, Tryz.ntmps176
          go_wp2
          go_ret
          exact ⟨rfl, rfl⟩
      · rw [codeOk_no (by omega)]
        go_enter Tryz.func176, Tryz.ntmps176
        go_wp2
        go_ret
        exact ⟨rfl, rfl⟩
    · rw [codeOk_no (by omega)]
      go_enter Tryz.func176, Tryz.ntmps176
      go_wp2
      go_ret
      exact ⟨rfl, rfl⟩
  · rw [codeOk_no (by omega)]
    go_enter Tryz.func176, Tryz.ntmps176
    go_wp2
    go_ret
    exact ⟨rfl, rfl⟩
end Go.Proofs.YtbgadbokejaomaaGreatDoor

namespace Go.Proofs.YtbgadbokejaomaaGreatDoor
open Go.RowKit

def cnt (f n : Nat) : List Int := (List.range n).map fun k : Nat => ((f + k : Nat) : Int)
theorem cnt_length (f n : Nat) : (cnt f n).length = n := by simp [cnt]
theorem cnt_get (f n k : Nat) (h : k < n) : (cnt f n).getD k 0 = ((f + k : Nat) : Int) := by simp [cnt, h]
def codeM (d q : Nat) : List (List Int) := identM d ++ cauM (cnt 0 q) (cnt q d)
theorem codeM_length (d q : Nat) : (codeM d q).length = d + q := by simp [codeM, identM_length, cauM_length, cnt_length]
theorem cnt_ok : Gf.allB 6 (fun d => Gf.allB 4 (fun q => cauOk (cnt 0 (q + 1)) (cnt (q + 1) (d + 1)))) = true := by decide +kernel
theorem cauOk_cnt {d q : Nat} (h1 : 1 ≤ d) (h2 : d ≤ 6) (h3 : 1 ≤ q) (h4 : q ≤ 4) : cauOk (cnt 0 q) (cnt q d) = true := by
  obtain ⟨a, rfl⟩ : ∃ a, d = a + 1 := ⟨d - 1, by omega⟩
  obtain ⟨b, rfl⟩ : ∃ b, q = b + 1 := ⟨q - 1, by omega⟩
  exact Gf.allB_of (Gf.allB_of cnt_ok a (by omega)) b (by omega)
theorem codeM_rows (d q : Nat) : ∀ i, i < (codeM d q).length → ((codeM d q).getD i []).length = d ∧ ((codeM d q).getD i []).all Gf.elOk = true := by
  intro i hi
  rw [codeM_length] at hi
  unfold codeM
  rw [getD_app, identM_length]
  split
  · rename_i h
    rw [identM_get _ _ h]
    refine ⟨unitRow_length _ _, Gf.all_of_getD.2 fun j hj => ?_⟩
    rw [unitRow_length] at hj
    unfold unitRow
    rw [getD_set _ _ _ _ _ (by simp; exact h)]
    split
    · rfl
    · simp [List.getD_eq_getElem?_getD, hj, Gf.elOk]
  · rw [cauM_get _ _ _ (by rw [cnt_length]; omega)]
    refine ⟨by rw [cauRow_length, cnt_length], Gf.all_of_getD.2 fun j hj => ?_⟩
    rw [cauRow_length] at hj
    rw [cauRow_get _ _ _ hj]
    have := Gf.inv_lt (((cnt 0 q).getD (i - d) 0).toNat ^^^ ((cnt q d).getD j 0).toNat)
    simp only [Gf.elOk, decide_eq_true_eq]
    omega

set_option maxRecDepth 100000 in
set_option maxHeartbeats 800000 in
theorem countFrom_calls (f n : Nat) (w : World) (hf : f ≤ 4096) (hn : n ≤ 4096) :
    Calls Tryz.prog 100 #[.int .i64 f, .int .i64 n] w fun e w' => ∃ v', e = .returned v' ∧ Own w' w.heap.size v' (cnt f n) ∧ Below w.heap.size w w' := by
  obtain ⟨xs, hxs⟩ : ∃ xs, xs = cnt f n := ⟨_, rfl⟩
  rw [← hxs]
  have hl : xs.length = n := by rw [hxs, cnt_length]
  have hg : ∀ k, k < n → xs.getD k 0 = ((f + k : Nat) : Int) := fun k hk => by rw [hxs, cnt_get _ _ _ hk]
  have HL := hide hl
  have HG := hide hg
  clear hxs hl hg
  go_enter Tryz.func100, Tryz.ntmps100
  go_wp2_with (at_make; refine wpList_make_ints rfl _ _ rfl w.heap.size _ _ n rfl rfl (by omega) (by omega) (by omega) (Nat.le_refl _) ?_)
  intro w0 ho0 hg0
  have hb0 : Below w.heap.size w w0 := (Below.refl _ _).grown hg0 (Nat.le_refl _) (fun k h => by cases h)
  have O0 := hide ho0
  have B0 := hide hb0
  clear ho0 hg0 hb0
  go_wp2
  go_loopw [11] (fun vi wr => ∃ k : Nat, k ≤ n ∧ vi = .int .i64 k ∧ Own wr w.heap.size (.slice (some ⟨w.heap.size, 0, none⟩) n n) (cpTo xs k) ∧ Below w.heap.size w wr) (fun vi _ => n - (intOf vi).toNat)
  case atStart =>
    refine ⟨0, Nat.zero_le _, rfl, ?_, B0.out⟩
    rw [cpTo_zero, HL.out]
    exact O0.out
  case round =>
    obtain ⟨k, hk, rfl, ho, hb⟩ := hrel
    by_cases hlt : k < n
    · have hlt' : (k : Int) < (n : Int) := by omega
      have hcl : (cpTo xs k).length = n := by rw [cpTo_length xs k (by rw [HL.out]; exact hk), HL.out]
      obtain ⟨hfz, hcell⟩ := ho.at k (by rw [hcl]; exact hlt)
      obtain ⟨old, hold⟩ : ∃ o, o = (cpTo xs k).getD k 0 := ⟨_, rfl⟩
      rw [← hold] at hcell
      have hst : (cpTo xs k).set k ((f : Int) + (k : Int)) = cpTo xs (k + 1) := by
        have := cpTo_step xs k (by rw [HL.out]; exact hlt)
        rw [HG.out k hlt] at this
        rw [← this]
        congr 1
      have W := hide (ho.put k ((f : Int) + (k : Int)))
      have ST := hide hst
      have B := hide hb
      clear hold ho hb hst hcl
      go_wp2
      go_roundw
      case rel =>
        refine ⟨k + 1, by omega, by go_num, ?_, B.out.setCell (Nat.le_refl _) _⟩
        have := W.out.1
        rw [ST.out] at this
        exact this
      case measure => simp [intOf]; omega
    · obtain rfl : k = n := by omega
      have O := hide ho
      have B := hide hb
      clear ho hb
      go_wp2
      go_ret
      have h := O.out
      have e := cpTo_end xs
      rw [HL.out] at e
      rw [e] at h
      exact ⟨_, rfl, h, B.out⟩

set_option maxRecDepth 100000 in
set_option maxHeartbeats 800000 in
theorem codeRows_calls (d q : Nat) (w : World) (hT : Gf.Tab w) (h1 : 1 ≤ d) (h2 : d ≤ 6) (h3 : 1 ≤ q) (h4 : q ≤ 4) :
    Calls Tryz.prog 192 #[.int .i64 d, .int .i64 q] w fun e w' => ∃ v', e = .returned v' ∧ Mat w' w.heap.size w'.heap.size v' (codeM d q) ∧ Below w.heap.size w w' := by
  have T := hide hT
  clear hT
  obtain ⟨xs, hxs⟩ : ∃ xs, xs = cnt 0 q := ⟨_, rfl⟩
  obtain ⟨ys, hys⟩ : ∃ ys, ys = cnt q d := ⟨_, rfl⟩
  have hR : cauR xs ys = (cauM xs ys, true) := by
    rw [hxs, hys]
    simp [cauR, cauOk_cnt h1 h2 h3 h4]
  have hC : codeM d q = identM d ++ cauM xs ys := by rw [hxs, hys]; rfl
  have hcl : (cauM xs ys).length = q := by rw [hxs, cauM_length, cnt_length]
  obtain ⟨R, hRR⟩ : ∃ R, R = cauM xs ys := ⟨_, rfl⟩
  rw [← hRR] at hR hC hcl
  rw [hC]
  have XS := hide hxs
  have YS := hide hys
  have HR := hide hR
  have CL := hide hcl
  clear hxs hys hR hC hcl hRR
  go_enter Tryz.func192, Tryz.ntmps192
  go_wp2_with fail
  refine (countFrom_calls 0 q _ (by omega) (by omega)).mono ?_
  rw [← XS.out]
  rintro e w1 ⟨v1, rfl, ho1, hb1⟩
  have RX := hide ho1.rd
  have B1 := hide hb1
  clear ho1 hb1
  go_wp2_with fail
  refine (countFrom_calls q d _ (by omega) (by omega)).mono ?_
  rw [← YS.out]
  rintro e w2 ⟨v2, rfl, ho2, hb2⟩
  have RY := hide ho2.rd
  have RX2 := hide (RX.out.below hb2)
  have B2 := hide (B1.out.trans (hb2.mono B1.out.size))
  clear ho2 hb2
  go_wp2_with fail
  refine (cauchy_calls _ _ xs ys _ (Gf.Tab.below T.out B2.out) RX2.out RY.out).mono ?_
  rw [HR.out]
  rintro e w3 ⟨v3, rfl, hm3, hb3⟩
  have M3 := hide hm3
  have B3 := hide (B2.out.trans (hb3.mono B2.out.size))
  have s3 := hb3.size
  clear hm3 hb3
  go_wp2_with fail
  refine (identity_calls d _ h1 (by omega)).mono ?_
  rintro e w4 ⟨v4, rfl, ⟨vs4, hm4⟩, hb4⟩
  obtain ⟨vs3, hm3⟩ := M3.out.below hb4
  have V4 := hide hm4.vals
  have V3 := hide hm3.vals
  have M4 := hide hm4
  have M34 := hide hm3
  have B4 := hide (B3.out.trans (hb4.mono B3.out.size))
  have s4 := hb4.size
  have l4 := hm4.len
  have l3 := hm3.len
  rw [identM_length] at l4
  rw [CL.out] at l3
  have L4 := hide l4
  have L3 := hide l3
  have s0 : w.heap.size ≤ w2.heap.size := B2.out.size
  clear hm4 hb4 hm3 l4 l3
  go_wp2_with fail
  refine (joinLists_calls _ _ vs4 vs3 _ V4.out V3.out (by rw [L4.out]; omega) (by rw [L3.out]; omega) (by rw [L3.out]; omega)).mono ?_
  rintro e w5 ⟨rfl, ho5, hg5⟩
  have hb5 : Below w4.heap.size w4 w5 := (Below.refl _ _).grown hg5 (Nat.le_refl _) (fun k h => by cases h)
  have hown : w5.ownsRow w.heap.size 27 1 (.slice (some ⟨w4.heap.size, 0, none⟩) (vs4.length + vs3.length) (vs4.length + vs3.length)) ((identM d).length + R.length) (vs4 ++ vs3) := by
    rw [identM_length, CL.out]
    rw [L4.out, L3.out] at ho5 ⊢
    refine ⟨ho5.1, ?_⟩
    rcases ho5.2 with hn | ⟨g, cap, cur, hv, hb', rest⟩
    · exact .inl hn
    · exact .inr ⟨g, cap, cur, hv, by omega, rest⟩
  have hM := M4.out.cat M34.out (B := w.heap.size) (by omega) (by omega) (.inr (Nat.le_refl _)) (by omega) (Nat.le_refl _) none hg5 (fun i _ => by cases (vs4.getD i nilRow).ownBlock <;> simp) (fun i _ => by cases (vs3.getD i nilRow).ownBlock <;> simp) hown
  have MM := hide hM
  have B5 := hide (B4.out.trans (hb5.mono B4.out.size))
  clear ho5 hg5 hb5 hown hM
  go_wp2
  go_ret
  exact ⟨_, rfl, ⟨_, MM.out⟩, B5.out⟩

set_option maxRecDepth 100000 in
set_option maxHeartbeats 1600000 in
theorem l3Matrix_calls (d q : Nat) (w : World) (h1 : 1 ≤ d) (h2 : d ≤ 6) (h3 : 1 ≤ q) (h4 : q ≤ 4) :
    Calls Tryz.prog 171 #[.int .i64 d, .int .i64 q] w fun e w' => ∃ v', e = .returned v' ∧ Mat w' w.heap.size w'.heap.size v' (codeM d q) ∧ Below w.heap.size w w' := by
  obtain ⟨xs, hxs⟩ : ∃ xs, xs = cnt 0 q := ⟨_, rfl⟩
  obtain ⟨ys, hys⟩ : ∃ ys, ys = cnt q d := ⟨_, rfl⟩
  have hok := cauOk_cnt h1 h2 h3 h4
  rw [← hxs, ← hys] at hok
  obtain ⟨ex, ey⟩ := unl_parts (cauOk_facts hok).2.2
  have hC : codeM d q = identM d ++ cauM xs ys := by rw [hxs, hys]; rfl
  have hxl : xs.length = q := by rw [hxs, cnt_length]
  have hyl : ys.length = d := by rw [hys, cnt_length]
  have hcl : (cauM xs ys).length = q := by rw [cauM_length, hxl]
  have hxg : ∀ k, k < q → xs.getD k 0 = ((k : Nat) : Int) := fun k hk => by rw [hxs, cnt_get _ _ _ hk, Nat.zero_add]
  have hyg : ∀ k, k < d → ys.getD k 0 = (q : Int) + (k : Int) := fun k hk => by rw [hys, cnt_get _ _ _ hk]; omega
  rw [hC]
  have EX := hide ex
  have EY := hide ey
  have XL := hide hxl
  have YL := hide hyl
  have CL := hide hcl
  have XG := hide hxg
  have YG := hide hyg
  clear hxs hys hok ex ey hC hxl hyl hcl hxg hyg
  go_enter Tryz.func171, Tryz.ntmps171
  go_wp2
  go_loopw [5, 7] (fun vx vk wr => ∃ k : Nat, k ≤ q ∧ vk = .int .i64 k ∧ Own wr w.heap.size vx (xs.take k) ∧ Below w.heap.size w wr) (fun _ vk _ => q - (intOf vk).toNat)
  case atStart => exact ⟨0, Nat.zero_le _, rfl, World.ownsRow_nil _ _ _ _, Below.refl _ _⟩
  case round =>
    obtain ⟨k, hk, rfl, ho, hb⟩ := hrel
    have O := hide ho
    have B := hide hb
    clear ho hb
    by_cases hlt : k < q
    · have hlt' : (k : Int) < (q : Int) := by omega
      have O2 := hide (O.out.alloc (.cells #[.int .i64 ((k : Nat) : Int)] 3))
      have HL2 : Hid ((xs.take k).length = k) := by show (xs.take k).length = k; rw [List.length_take, XL.out]; omega
      go_wp2_with (at_builtin; refine wpList_append_rd rfl _ _ rfl w.heap.size _ (xs.take k).length (xs.take k) [((k : Nat) : Int)] rfl O2.out _ rfl rd_single (by rw [HL2.out]; simp; omega) (by have := B.out.size; simp; omega) ?_)
      intro v' w3 ho3 hg3
      have hb3 : Below w.heap.size w w3 := (B.out.alloc B.out.size _).grown hg3 (by have := B.out.size; simp; omega) (fun i hi => (O.out.lt i hi).1)
      have e : xs.take k ++ [((k : Nat) : Int)] = xs.take (k + 1) := by rw [take_snocM xs 0 k (by rw [XL.out]; exact hlt), XG.out k hlt]
      rw [e] at ho3
      have O3 := hide ho3
      have B3 := hide hb3
      clear ho3 hg3 hb3 e
      go_wp2
      go_roundw
      case rel => exact ⟨k + 1, by omega, by go_num, O3.out, B3.out⟩
      case measure => simp [intOf]; omega
    · obtain rfl : k = q := by omega
      have ho := O.out
      rw [List.take_of_length_le (by rw [XL.out]; exact Nat.le_refl _)] at ho
      have OX := hide ho
      clear ho O
      obtain ⟨W1, rfl⟩ : ∃ W1, W1 = wr := ⟨_, rfl⟩
      go_wp2
      go_loopw [6, 8] (fun vy vk wr => ∃ j : Nat, j ≤ d ∧ vk = .int .i64 j ∧ Own wr W1.heap.size vy (ys.take j) ∧ Below W1.heap.size W1 wr) (fun _ vk _ => d - (intOf vk).toNat)
      case atStart => exact ⟨0, Nat.zero_le _, rfl, World.ownsRow_nil _ _ _ _, Below.refl _ _⟩
      case round =>
        obtain ⟨j, hj, rfl, ho, hb⟩ := hrel
        have O := hide ho
        have B2 := hide hb
        clear ho hb
        by_cases hltj : j < d
        · have hltj' : (j : Int) < (d : Int) := by omega
          have O2 := hide (O.out.alloc (.cells #[.int .i64 ((k : Int) + (j : Int))] 3))
          have HL2 : Hid ((ys.take j).length = j) := by show (ys.take j).length = j; rw [List.length_take, YL.out]; omega
          go_wp2_with (at_builtin; refine wpList_append_rd rfl _ _ rfl W1.heap.size _ (ys.take j).length (ys.take j) [(k : Int) + (j : Int)] rfl O2.out _ rfl rd_single (by rw [HL2.out]; simp; omega) (by have := B2.out.size; simp; omega) ?_)
          intro v' w3 ho3 hg3
          have hb3 : Below W1.heap.size W1 w3 := (B2.out.alloc B2.out.size _).grown hg3 (by have := B2.out.size; simp; omega) (fun i hi => (O.out.lt i hi).1)
          have e : ys.take j ++ [(k : Int) + (j : Int)] = ys.take (j + 1) := by rw [take_snocM ys 0 j (by rw [YL.out]; exact hltj), YG.out j hltj]
          rw [e] at ho3
          have O3 := hide ho3
          have B3 := hide hb3
          clear ho3 hg3 hb3 e
          go_wp2
          go_roundw
          case rel => exact ⟨j + 1, by omega, by go_num, O3.out, B3.out⟩
          case measure => simp [intOf]; omega
        · obtain rfl : j = d := by omega
          have ho := O.out
          rw [List.take_of_length_le (by rw [YL.out]; exact Nat.le_refl _)] at ho
          have RY := hide ho.rd
          have RX := hide (OX.out.rd.below B2.out)
          have B02 := hide (B.out.trans (B2.out.mono B.out.size))
          obtain ⟨W2, rfl⟩ : ∃ W2, W2 = wr := ⟨_, rfl⟩
          clear ho O
          go_wp2_with fail
          refine (l2Identity_calls j _ h1 (by omega)).mono ?_
          rintro e w4 ⟨v4, rfl, hm4, hb4⟩
          have M4 := hide hm4
          have B4 := hide hb4
          have s4 := hb4.size
          clear hm4 hb4
          go_wp2_with fail
          refine (l2Cauchy_calls _ _ xs ys _ (RX.out.below B4.out) (RY.out.below B4.out) EX.out EY.out (by rw [XL.out]; omega) (by rw [YL.out]; omega)).mono ?_
          rintro e w5 ⟨v5, rfl, ⟨vs5, hm5⟩, hb5⟩
          obtain ⟨vs4, hm4⟩ := M4.out.below hb5
          have M5 := hide hm5
          have M45 := hide hm4
          have B5 := hide (B4.out.trans (hb5.mono B4.out.size))
          have s5 := hb5.size
          have s0 := B02.out.size
          have low : Hid (∀ k, v4.ownBlock = some k → W2.heap.size ≤ k) := fun k hk => (World.ownsRow.lt hm4.head k hk).1
          clear hm5 hb5 hm4
          go_wp2_with (at_builtin; refine wpList_append_mat rfl (.tmp 30) (.tmp 33) rfl W2.heap.size W2.heap.size w4.heap.size w4.heap.size w5.heap.size _ _ vs4 vs5 (identM j) (cauM xs ys) rfl rfl M45.out M5.out (Nat.le_refl _) s4 (.inl (Nat.le_refl _)) (Nat.le_refl _) s5 (by rw [CL.out]; omega) (by rw [identM_length]; omega) (by rw [CL.out]; omega) (by omega) ?_)
          intro v6 w6 hm6 hg6
          have hb6 : Below W2.heap.size W2 w6 := B5.out.grown hg6 (by omega) low.out
          have MM := hide (hm6.wider s0 (Nat.le_refl _))
          have B6 := hide (B02.out.trans (hb6.mono s0))
          clear hm6 hg6 hb6
          go_wp2
          go_ret
          exact ⟨_, rfl, ⟨_, MM.out⟩, B6.out⟩

end Go.Proofs.YtbgadbokejaomaaGreatDoor

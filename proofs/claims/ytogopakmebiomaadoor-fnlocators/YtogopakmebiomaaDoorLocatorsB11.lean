/-
  CauchyMatrix: the program's function and its model's, at all lists. The program's table of rests must hold its seven numbers where the program's own function is called. What draws of matrices and lists begin with: a cursor made new, what it leaves alone. Each contract says what it asks. What the laws of words draw: elements, and words with some bytes wrong. Each contract says what it asks. What the laws of words draw: words with some bytes wrong, and what comes of them. Each contract says what it asks. What the law of locators draws last: two lists that may be unlike. Each contract says what it asks. By how much a rule does not fit, and the shortest rule of syndromes: the program's functions, call by call. The program's table of rests must hold its seven numbers.
-/
import Derived.Test.YtogopakmebiomaaDoorLocatorsB10
import Derived.Test.YtogopakmebiomaaDoorLocatorsB9
import Derived.Test.YtogopakmebiomaaDoorLocatorsB3
import Derived.Test.YtogopakmebiomaaDoorLocatorsB8
import Derived.Test.YtogopakmebiomaaDoorLocatorsB4
namespace Go.Proofs.YtogopakmebiomaaDoor
open Go.RowKit

def cauOk (xs ys : List Int) : Bool := decide (1 ≤ (xs.length : Int) ∧ (xs.length : Int) ≤ 8) && (decide (1 ≤ (ys.length : Int) ∧ (ys.length : Int) ≤ 8) && unl (xs ++ ys))
def cauR (xs ys : List Int) : List (List Int) × Bool := if cauOk xs ys = true then (cauM xs ys, true) else ([], false)
theorem cauOk_facts {xs ys : List Int} (h : cauOk xs ys = true) : (1 ≤ xs.length ∧ xs.length ≤ 8) ∧ (1 ≤ ys.length ∧ ys.length ≤ 8) ∧ unl (xs ++ ys) = true := by
  simp only [cauOk, Bool.and_eq_true, decide_eq_true_eq] at h
  exact ⟨by omega, by omega, h.2.2⟩
theorem unl_parts {xs ys : List Int} (h : unl (xs ++ ys) = true) : xs.all Gf.elOk = true ∧ ys.all Gf.elOk = true := by
  have := unl_els h
  rw [List.all_append, Bool.and_eq_true] at this
  exact this
theorem cauR_tot (xs ys : List Int) : (cauR xs ys).1.length + tot (cauR xs ys).1 ≤ 1048576 := by
  unfold cauR
  split
  · rename_i h
    obtain ⟨h1, h2, _⟩ := cauOk_facts h
    simp only []
    have : ∀ k, k ≤ xs.length → tot ((cauM xs ys).take k) ≤ 8 * k := by
      intro k
      induction k with
      | zero => intro _; simp [tot]
      | succ k ih =>
        intro hk
        rw [tot_take_succ _ k (by rw [cauM_length]; omega), cauM_get _ _ k (by omega), cauRow_length]
        have := ih (by omega)
        omega
    have := this xs.length (Nat.le_refl _)
    rw [List.take_of_length_le (by rw [cauM_length]; exact Nat.le_refl _)] at this
    rw [cauM_length]
    omega
  · simp [tot]
theorem rdM_pair {w : World} {xv yv : Value} {xs ys : List Int} (hx : Rd w xv xs) (hy : Rd w yv ys) : RdM (w.alloc (.cells #[xv, yv] 22)) (.slice (some ⟨w.heap.size, 0, none⟩) 2 2) [xs, ys] := by
  have hb : Below w.heap.size w (w.alloc (.cells #[xv, yv] 22)) := (Below.refl _ _).alloc (Nat.le_refl _) _
  refine ⟨_, 2, rfl, Nat.le_refl _, ⟨by unfold maxLen; omega, fun h => by cases h⟩, .inr ⟨_, 0, rfl, by simp, fun i hi => ?_⟩⟩
  simp at hi
  match i, hi with
  | 0, _ => exact ⟨xv, World.cell?_alloc_at _ _ _ _ (by simp), hx.below hb⟩
  | 1, _ => exact ⟨yv, World.cell?_alloc_at _ _ _ _ (by simp), hy.below hb⟩

set_option maxRecDepth 100000 in
set_option maxHeartbeats 3200000 in
theorem cauchy_good (xv yv : Value) (xs ys : List Int) (w : World) (hT : Gf.Tab w) (hx : Rd w xv xs) (hy : Rd w yv ys) (hok : cauOk xs ys = true) :
    Calls Tryd.prog 145 #[xv, yv] w fun e w' => ∃ v', e = .returned (.tuple #[v', .bool true]) ∧ Mat w' w.heap.size w'.heap.size v' (cauM xs ys) ∧ Below w.heap.size w w' := by
  obtain ⟨⟨hx1, hx8⟩, ⟨hy1, hy8⟩, hu⟩ := cauOk_facts hok
  obtain ⟨ex, ey⟩ := unl_parts hu
  have RX := hide hx
  have RY := hide hy
  have T := hide hT
  have EX := hide ex
  have EY := hide ey
  have U := hide hu
  have UP : Hid (unl ([xs, ys] : List (List Int)).flatten = true) := by
    show unl ([xs, ys] : List (List Int)).flatten = true
    simpa using hu
  obtain ⟨xa, xcap, rfl, _⟩ := hx
  obtain ⟨ya, ycap, rfl, _⟩ := hy
  have b1 : Hid (decide (1 ≤ (xs.length : Int) ∧ (xs.length : Int) ≤ 8) = true) := decide_eq_true (by omega)
  have b2 : Hid (decide (1 ≤ (ys.length : Int) ∧ (ys.length : Int) ≤ 8) = true) := decide_eq_true (by omega)
  obtain ⟨P, hP⟩ : ∃ P, P = cauM xs ys := ⟨_, rfl⟩
  rw [← hP]
  have hPl : P.length = xs.length := by rw [hP, cauM_length]
  have hPg : ∀ k, k < xs.length → P.getD k [] = cauRow (xs.getD k 0) ys := fun k hk => by rw [hP, cauM_get _ _ _ hk]
  have PL := hide hPl
  have PG := hide hPg
  obtain ⟨l, hl⟩ : ∃ l, l = ys.length := ⟨_, rfl⟩
  have HL := hide hl
  clear hT hok hu ex ey hP hPl hPg hl
  go_enter Tryd.func145, Tryd.ntmps145
  go_wp2_with fail
  refine (isSide_calls _ _).mono ?_
  rw [b1.out]
  rintro e w' ⟨rfl, rfl⟩
  go_wp2_with fail
  refine (isSide_calls _ _).mono ?_
  rw [b2.out]
  rintro e w' ⟨rfl, rfl⟩
  go_wp2_with fail
  refine (areUnlike_calls _ [xs, ys] _ (rdM_pair RX.out RY.out) (by simp) (fun i hi => by simp at hi; match i, hi with | 0, _ => (show xs.length ≤ _; omega) | 1, _ => (show ys.length ≤ _; omega))).mono ?_
  rw [UP.out]
  rintro e w2 ⟨rfl, hb2⟩
  have h0 : Below w.heap.size w (w.alloc (.cells #[.slice xa xs.length xcap, .slice ya ys.length ycap] 22)) := (Below.refl _ _).alloc (Nat.le_refl _) _
  have B2 := hide (h0.trans (hb2.mono h0.size))
  clear hb2 h0
  go_wp2_with fail
  refine (newRows_calls xs.length ys.length _ (by omega) (by omega)).mono ?_
  rintro e w3 ⟨v3, rfl, ⟨vs, hm⟩, hb3⟩
  rw [← HL.out, ← PL.out, ← gTo_zero] at hm
  obtain ⟨g, cap, hv3, hg1, hg2, hg3, hg4⟩ := hm.open (by rw [gTo_length _ _ _ (Nat.zero_le _), PL.out]; omega)
  rw [gTo_length _ _ _ (Nat.zero_le _), PL.out] at hv3 hg3
  subst hv3
  have M3 := hide hm
  have B3 := hide (B2.out.trans (hb3.mono B2.out.size))
  have hs23 : w.heap.size ≤ w2.heap.size := B2.out.size
  have S2 : 0 < w2.heap.size := Nat.lt_of_lt_of_le (Gf.tab_pos T.out) hs23
  clear hm hb3
  go_wp2
  go_loopw [35] (fun vi wr => ∃ (k : Nat), k ≤ xs.length ∧ vi = .int .i64 k ∧ MatV wr w2.heap.size w3.heap.size (.slice (some ⟨g, 0, none⟩) xs.length cap) vs (gTo P (List.replicate l 0) k) ∧ Chg w2.heap.size w3.heap.size w3 wr) (fun vi _ => xs.length - (intOf vi).toNat)
  case atStart => exact ⟨0, Nat.zero_le _, rfl, M3.out, Chg.refl _ _ _⟩
  case round =>
    obtain ⟨k, hk, rfl, hM, hC⟩ := hrel
    by_cases hlt : k < xs.length
    · have hlt' : (k : Int) < (xs.length : Int) := by omega
      have BW := hide (B3.out.trans (hC.below hs23 B3.out.size))
      obtain ⟨b, off, u, rfl, hc, hu⟩ := (RX.out.below BW.out).row k hlt
      obtain ⟨x, hxx⟩ : ∃ x, x = xs.getD k 0 := ⟨_, rfl⟩
      rw [← hxx] at hu
      subst hu
      have hex := Gf.elOk_tests (Gf.all_of_getD.1 EX.out k hlt)
      rw [← hxx] at hex
      have hpg := PG.out k hlt
      rw [← hxx] at hpg
      obtain ⟨A, rfl⟩ := Int.eq_ofNat_of_zero_le hex.1
      have hA : A < 256 := by omega
      obtain ⟨r, hr⟩ : ∃ r, r = cauRow ((A : Nat) : Int) ys := ⟨_, rfl⟩
      have hrl : r.length = l := by rw [hr, cauRow_length, HL.out]
      have hrg : ∀ j, j < ys.length → r.getD j 0 = ((Gf.inv (A ^^^ (ys.getD j 0).toNat) : Nat) : Int) := fun j hj => by rw [hr, cauRow_get _ _ _ hj]; simp
      rw [← hr] at hpg
      have hkl : k < (gTo P (List.replicate l 0) k).length := by rw [gTo_length _ _ _ (by rw [PL.out]; exact hk), PL.out]; exact hlt
      have M := hide hM
      have C := hide hC
      have PK := hide hpg
      have RL := hide hrl
      have RG := hide hrg
      have KL := hide hkl
      clear hM hC hxx hex hpg hr hrl hrg hkl
      go_wp2
      go_loopw [42] (fun vi wr2 => ∃ (j : Nat), j ≤ ys.length ∧ vi = .int .i64 j ∧ MatV wr2 w2.heap.size w3.heap.size (.slice (some ⟨g, 0, none⟩) xs.length cap) vs ((gTo P (List.replicate l 0) k).set k (cpTo r j)) ∧ Chg w2.heap.size w3.heap.size w3 wr2) (fun vi _ => ys.length - (intOf vi).toNat)
      case atStart =>
        refine ⟨0, Nat.zero_le _, rfl, ?_, C.out⟩
        have e := gTo_get P (List.replicate l 0) k (by rw [PL.out]; exact hlt)
        have e2 := set_same _ k [] KL.out
        rw [e] at e2
        rw [cpTo_zero, RL.out, e2]
        exact M.out
      case round =>
        obtain ⟨j, hj, rfl, hM2, hC2⟩ := hrel
        by_cases hltj : j < ys.length
        · have hltj' : (j : Int) < (ys.length : Int) := by omega
          have BW2 := hide (B3.out.trans (hC2.below hs23 B3.out.size))
          obtain ⟨yb, yoff, yu, rfl, hyc, hyu⟩ := (RY.out.below BW2.out).row j hltj
          obtain ⟨y, hyy⟩ : ∃ y, y = ys.getD j 0 := ⟨_, rfl⟩
          rw [← hyy] at hyu
          subst hyu
          have hey := Gf.elOk_tests (Gf.all_of_getD.1 EY.out j hltj)
          rw [← hyy] at hey
          have hg := RG.out j hltj
          rw [← hyy] at hg
          obtain ⟨Y, rfl⟩ := Int.eq_ofNat_of_zero_le hey.1
          have hY : Y < 256 := by omega
          simp only [Int.toNat_natCast] at hg
          have hxor : bits .xor .i64 ((A : Nat) : Int) ((Y : Nat) : Int) = ((A ^^^ Y : Nat) : Int) := Gf.i64_xor _ _ (by omega) (by omega)
          have hxl : A ^^^ Y < 256 := Nat.xor_lt_two_pow (n := 8) hA hY
          obtain ⟨z, hz⟩ : ∃ z, z = Gf.inv (A ^^^ Y) := ⟨_, rfl⟩
          rw [← hz] at hg
          have CI : Hid (∀ w', Gf.Tab w' → Calls Tryd.prog 86 #[.int .i64 (bits .xor .i64 ((A : Nat) : Int) ((Y : Nat) : Int))] w' fun e w'' => e = .returned (.int .i64 ((z : Nat) : Int)) ∧ w' = w'') := by
            intro w' hT'
            rw [hxor]
            refine (Gf.inv_calls _ w' hT' (by omega) (by omega)).mono ?_
            rintro e w'' ⟨rfl, rfl⟩
            refine ⟨?_, rfl⟩
            rw [Int.toNat_natCast, hz]
          have hkl2 : k < ((gTo P (List.replicate l 0) k).set k (cpTo r j)).length := by rw [List.length_set]; exact KL.out
          have hcu := hM2.cell k hkl2
          have hro := hM2.row k hkl2
          rw [getD_set _ _ _ _ _ KL.out, if_pos rfl] at hro
          obtain ⟨u, huu⟩ : ∃ u, u = vs.getD k nilRow := ⟨_, rfl⟩
          rw [← huu] at hcu hro
          have hcl : (cpTo r j).length = l := by rw [cpTo_length r j (by rw [RL.out, HL.out]; exact hj), RL.out]
          obtain ⟨g', cap', hue, hq1, hq2, hq3, hq4⟩ := hro.open1 (by rw [hcl, HL.out]; omega)
          rw [hcl, HL.out] at hue
          rw [hue] at hcu hro huu
          obtain ⟨hf, hcell⟩ := hro.at j (by rw [hcl, HL.out]; exact hltj)
          obtain ⟨old, hold⟩ : ∃ o, o = (cpTo r j).getD j 0 := ⟨_, rfl⟩
          rw [← hold] at hcell
          have W := hide (hro.put j ((z : Nat) : Int))
          have hst : (cpTo r j).set j ((z : Nat) : Int) = cpTo r (j + 1) := by rw [← hg]; exact cpTo_step r j (by rw [RL.out, HL.out]; exact hltj)
          have ST := hide hst
          have UU := hide huu
          have M2 := hide hM2
          have C2 := hide hC2
          have TT := hide (Gf.Tab.below T.out BW2.out)
          have KL2 := hide hkl2
          have i0 : (0 : Int) ≤ (k : Int) := by omega
          have i1 : (0 : Int) ≤ (j : Int) := by omega
          clear hM2 hC2 hyy hey hg hxor hxl hz hkl2 hro huu hue hcl hold hst
          go_wp2
          go_region_with (go_at_call 86; refine (CI.out _ (by exact TT.out)).mono ?_; rintro e w' ⟨rfl, rfl⟩)
          all_goals
            go_wp2
            go_roundw
            case rel =>
              have hw := W.out
              have hgg : wr.grownBy (wr.drew.setCell ⟨g', j, none⟩ (.int .i64 ((z : Nat) : Int))) (vs.getD k nilRow).ownBlock := by
                rw [← UU.out]
                exact ⟨hw.2.os, hw.2.tape, hw.2.output, hw.2.size, hw.2.block⟩
              have ho : Own (wr.drew.setCell ⟨g', j, none⟩ (.int .i64 ((z : Nat) : Int))) w2.heap.size (vs.getD k nilRow) (cpTo r (j + 1)) := by
                rw [← UU.out, ← ST.out]
                exact hw.1.drew
              refine ⟨j + 1, by omega, by go_num, ?_, C2.out.trans (M2.out.writeChg k KL2.out hgg)⟩
              have := M2.out.write k KL2.out _ ho hgg
              rw [List.set_set] at this
              exact this
            case measure => simp [intOf]; omega
        · obtain rfl : j = ys.length := by omega
          have M2 := hide hM2
          have C2 := hide hC2
          clear hM2 hC2
          go_wp2
          go_roundw
          case rel =>
            refine ⟨k + 1, by omega, by go_num, ?_, C2.out⟩
            have := M2.out
            have e := cpTo_end r
            rw [RL.out, HL.out] at e
            rw [e, ← PK.out, gTo_step _ _ k (by rw [PL.out]; exact hlt)] at this
            exact this
          case measure => simp [intOf]; omega
    · obtain rfl : k = xs.length := by omega
      have M := hide hM
      have C := hide hC
      clear hM hC
      go_wp2
      go_ret2
      have hm := M.out
      have e := gTo_end P (List.replicate l 0)
      rw [PL.out] at e
      rw [e] at hm
      exact ⟨_, rfl, ⟨_, hm.wider hs23 C.out.size⟩, B3.out.trans (C.out.below hs23 B3.out.size)⟩

set_option maxRecDepth 100000 in
set_option maxHeartbeats 1600000 in
theorem cauchy_calls (xv yv : Value) (xs ys : List Int) (w : World) (hT : Gf.Tab w) (hx : Rd w xv xs) (hy : Rd w yv ys) :
    Calls Tryd.prog 145 #[xv, yv] w fun e w' => ∃ v', e = .returned (.tuple #[v', .bool (cauR xs ys).2]) ∧ Mat w' w.heap.size w'.heap.size v' (cauR xs ys).1 ∧ Below w.heap.size w w' := by
  by_cases hok : cauOk xs ys = true
  · have e : cauR xs ys = (cauM xs ys, true) := by simp [cauR, hok]
    rw [e]
    exact cauchy_good xv yv xs ys w hT hx hy hok
  · have e : cauR xs ys = ([], false) := by simp only [cauR, if_neg hok]
    rw [e]
    clear e hT
    have RX := hide hx
    have RY := hide hy
    obtain ⟨xa, xcap, rfl, _⟩ := hx
    obtain ⟨ya, ycap, rfl, _⟩ := hy
    cases h1 : decide (1 ≤ (xs.length : Int) ∧ (xs.length : Int) ≤ 8) with
    | false =>
      have H1 := hide h1
      clear h1
      go_enter Tryd.func145, Tryd.ntmps145
      go_wp2_with fail
      refine (isSide_calls _ _).mono ?_
      rw [H1.out]
      rintro e w' ⟨rfl, rfl⟩
      go_wp2
      go_ret2
      exact ⟨_, rfl, Mat.nil _ _ _, Below.refl _ _⟩
    | true =>
      have H1 := hide h1
      cases h2 : decide (1 ≤ (ys.length : Int) ∧ (ys.length : Int) ≤ 8) with
      | false =>
        have H2 := hide h2
        clear h1 h2
        go_enter Tryd.func145, Tryd.ntmps145
        go_wp2_with fail
        refine (isSide_calls _ _).mono ?_
        rw [H1.out]
        rintro e w' ⟨rfl, rfl⟩
        go_wp2_with fail
        refine (isSide_calls _ _).mono ?_
        rw [H2.out]
        rintro e w' ⟨rfl, rfl⟩
        go_wp2
        go_ret2
        exact ⟨_, rfl, Mat.nil _ _ _, Below.refl _ _⟩
      | true =>
        have H2 := hide h2
        have hu : unl ([xs, ys] : List (List Int)).flatten = false := by
          cases hq : unl ([xs, ys] : List (List Int)).flatten with
          | false => rfl
          | true =>
            refine absurd ?_ hok
            rw [cauOk, h1, h2]
            simpa using hq
        have U := hide hu
        have hx8 := of_decide_eq_true h1
        have hy8 := of_decide_eq_true h2
        clear h1 h2 hu hok
        go_enter Tryd.func145, Tryd.ntmps145
        go_wp2_with fail
        refine (isSide_calls _ _).mono ?_
        rw [H1.out]
        rintro e w' ⟨rfl, rfl⟩
        go_wp2_with fail
        refine (isSide_calls _ _).mono ?_
        rw [H2.out]
        rintro e w' ⟨rfl, rfl⟩
        go_wp2_with fail
        refine (areUnlike_calls _ [xs, ys] _ (rdM_pair RX.out RY.out) (by simp) (fun i hi => by simp at hi; match i, hi with | 0, _ => (show xs.length ≤ _; omega) | 1, _ => (show ys.length ≤ _; omega))).mono ?_
        rw [U.out]
        rintro e w2 ⟨rfl, hb2⟩
        have h0 : Below w.heap.size w (w.alloc (.cells #[.slice xa xs.length xcap, .slice ya ys.length ycap] 22)) := (Below.refl _ _).alloc (Nat.le_refl _) _
        have B2 := hide (h0.trans (hb2.mono h0.size))
        clear hb2 h0
        go_wp2
        go_ret2
        exact ⟨_, rfl, Mat.nil _ _ _, B2.out⟩

end Go.Proofs.YtogopakmebiomaaDoor

namespace Go.Proofs.YtogopakmebiomaaDoor
open Go.RowKit

theorem cur_new {w : World} {cv : Value} (h : RdB w cv) : CurS (w.alloc (.cells #[cv, .int .i64 0, .int .u64 0] 89)) w.heap.size cv 0 := by
  refine ⟨⟨0, 0, Nat.le_refl _, heap_alloc_new w _⟩, fun w' hg => ?_⟩
  have hb : Below w.heap.size w w' := ((Below.refl _ _).alloc (Nat.le_refl _) _).grown hg (by simp) (fun k hk => by simp at hk; omega)
  exact h.below hb

theorem cur_below {w w' : World} {cv : Value} (hg : (w.alloc (.cells #[cv, .int .i64 0, .int .u64 0] 89)).grownBy w' (some w.heap.size)) : Below w.heap.size w w' :=
  ((Below.refl _ _).alloc (Nat.le_refl _) _).grown hg (by simp) (fun k hk => by simp at hk; omega)


set_option maxRecDepth 100000 in
set_option maxHeartbeats 800000 in
theorem numberOf_calls (cv : Value) (w : World) (h : RdB w cv) :
    Calls Tryd.prog 31 #[cv] w fun e w' => ∃ n : Nat, n < 1000003 ∧ e = .returned (.int .i64 n) ∧ w = w' := by
  obtain ⟨a, cap, zs, rfl, h1, h2, h3⟩ := h
  have H := hide h3
  clear h3
  go_enter Tryd.func31, Tryd.ntmps31
  go_wp2
  go_loop [3, 8] (fun vn vi => ∃ k n : Nat, k ≤ zs.length ∧ vi = .int .i64 k ∧ vn = .int .i64 n ∧ n < 1000003) (fun _ vi => zs.length - (intOf vi).toNat)
  case atStart => exact ⟨0, 0, Nat.zero_le _, rfl, rfl, by omega⟩
  case round =>
    obtain ⟨k, n, hk, rfl, rfl, hn⟩ := hrel
    by_cases hlt : k < zs.length
    · rcases H.out with h3 | ⟨b, off, rfl, hbs, hc⟩
      · subst h3; simp at hlt
      have hc1 := hc k hlt
      clear hc
      obtain ⟨z, hz⟩ : ∃ z, z = zs.getD k 0 := ⟨_, rfl⟩
      have hz256 : z < 256 := by rw [hz]; exact h2 k
      rw [← hz] at hc1
      clear hz
      go_wp2
      go_round
      case rel => exact ⟨k + 1, (31 * n + z) % 1000003, by omega, by go_num, Gf.int_eq (by simp), by omega⟩
      case measure => simp [intOf]; omega
    · obtain rfl : k = zs.length := by omega
      go_wp2
      go_ret
      exact ⟨n, hn, rfl, rfl⟩

theorem curS_lt {w : World} {g k : Nat} {cv : Value} (h : CurS w g cv k) : g < w.heap.size := by
  obtain ⟨n, s, _, hh⟩ := h.at_
  exact (Array.getElem?_eq_some_iff.1 hh).1

theorem own_keep {w w' : World} {base g : Nat} {v : Value} {xs : List Int} (h : Own w base v xs) (hg : w.grownBy w' (some g)) (hb : g < base) : Own w' base v xs := by
  refine World.ownsRow.kept h hg ?_
  cases hv : v.ownBlock with
  | none => exact .inl rfl
  | some j =>
    right
    intro e
    have := (h.lt j hv).1
    simp at e
    omega

/-- A cursor stays behind a step that touches none but new blocks and one row of ours. -/
theorem CurS.far {w w' : World} {g k : Nat} {cv : Value} {row : Option Nat} (h : CurS w g cv k) (hg : w.grownBy w' row) (hr : ∀ j, row = some j → j ≠ g) (hrb : ∀ w2, w'.grownBy w2 (some g) → RdB w2 cv) : CurS w' g cv k := by
  obtain ⟨n, s, hn, hh⟩ := h.at_
  refine ⟨⟨n, s, hn, ?_⟩, hrb⟩
  rw [hg.block g (curS_lt h) (fun e => hr g e.symm rfl)]
  exact hh


theorem grown_far {w w2 w3 : World} {g : Nat} {row : Option Nat} (h : w.grownBy w2 (some g)) (k : w2.grownBy w3 row) (hr : ∀ j, row = some j → w.heap.size ≤ j) : w.grownBy w3 (some g) :=
  ⟨k.os.trans h.os, k.tape.trans h.tape, k.output.trans h.output, Nat.le_trans h.size k.size, fun j hj hne => (k.block j (Nat.lt_of_lt_of_le hj h.size) (fun e => by have := hr j e.symm; omega)).trans (h.block j hj hne)⟩

theorem grown_low {w w' : World} {g : Nat} (h : w.grownBy w' (some g)) (hg : g < w.heap.size) : Below g w w' :=
  ⟨h.os, h.tape, h.output, h.size, fun k hk => h.block k (by omega) (by simp; omega)⟩


theorem draw_low {w : World} {cv : Value} (h : RdB w cv) : ∀ w', Below w.heap.size (w.alloc (.cells #[cv, .int .i64 0, .int .u64 0] 89)) w' → RdB w' cv := fun _ hb =>
  h.below (((Below.refl _ _).alloc (Nat.le_refl _) _).trans hb)


end Go.Proofs.YtogopakmebiomaaDoor

namespace Go.Proofs.YtogopakmebiomaaDoor
open Go.RowKit
open Gf (wdOk wOk)

theorem all_snoc {xs : List Int} {q : Nat} (h : xs.all Gf.elOk = true) (hq : q < 256) : (xs ++ [(q : Int)]).all Gf.elOk = true := by
  rw [List.all_append, h, Bool.true_and]
  simp [Gf.elOk]
  omega
theorem all_setE {xs : List Int} {i q : Nat} (h : xs.all Gf.elOk = true) (hq : q < 256) : (xs.set i (q : Int)).all Gf.elOk = true := by
  rw [List.all_eq_true] at *
  intro x hx
  rcases List.mem_or_eq_of_mem_set hx with h1 | h1
  · exact h x h1
  · rw [h1]; exact Gf.elOk_iff.2 (by omega)
theorem wordW_el {xs : List Int} {n : Nat} (hn : n ≤ 3) (he : xs.all Gf.elOk = true) (hl : xs.length ≤ 24) : (Gf.wordW xs n).all Gf.elOk = true := by
  have h1 := Gf.goodP_mem (Gf.rest_good hn he hl)
  have h2 := List.all_eq_true.1 (Gf.rawW_all n he)
  rw [List.all_eq_true]
  intro x hx
  unfold Gf.wordW spl at hx
  rw [List.take_zero, List.nil_append, List.mem_append] at hx
  rcases hx with hx | hx
  · exact Gf.elOk_iff.2 (h1 x hx)
  · exact h2 x (List.mem_of_mem_drop hx)
theorem grown_of_below {w w' : World} (hb : Below w.heap.size w w') (row : Option Nat) : w.grownBy w' row := ⟨hb.os, hb.tape, hb.output, hb.size, fun k hk _ => hb.block k hk⟩
theorem CurS.keptW {w w' : World} {g k : Nat} {cv : Value} (h : CurS w g cv k) (hb : Below w.heap.size w w') (hrb : ∀ w2, w'.grownBy w2 (some g) → RdB w2 cv) : CurS w' g cv k :=
  CurS.far h (grown_of_below hb none) (fun j hj => by cases hj) hrb

set_option maxRecDepth 100000 in
set_option maxHeartbeats 3200000 in
theorem elements_calls (g : Nat) (cv : Value) (k n : Nat) (w : World) (h : CurS w g cv k) (hk : k ≤ 1000000) (hn : n ≤ 64) (hcb : ∀ w', Below g w w' → RdB w' cv) :
    Calls Tryd.prog 95 #[.pointer (some ⟨g, 0, none⟩), .int .i64 n] w fun e w' => ∃ (v' : Value) (xs : List Int), e = .returned v' ∧ xs.length = n ∧ xs.all Gf.elOk = true ∧ Own w' w.heap.size v' xs ∧ CurS w' g cv (k + 2 * n) ∧ w.grownBy w' (some g) := by
  have C0 := hide h
  have LO := hide hcb
  have lt0 := curS_lt h
  clear h hcb
  go_enter Tryd.func95, Tryd.ntmps95
  go_wp2
  go_loopw [1, 5] (fun vn vl wr => ∃ (r : Nat) (xs : List Int), vn = .int .i64 r ∧ xs.length + r = n ∧ xs.all Gf.elOk = true ∧ Own wr w.heap.size vl xs ∧ CurS wr g cv (k + 2 * xs.length) ∧ w.grownBy wr (some g)) (fun vn _ _ => (intOf vn).toNat)
  case atStart => exact ⟨n, [], rfl, by simp, rfl, World.ownsRow_nil _ _ _ _, C0.out.mono (by simp), World.grownBy.refl _ _⟩
  case round =>
    obtain ⟨r, xs, rfl, hlen, hel, hown, hcur, hgr⟩ := hrel
    have O := hide hown
    have C := hide hcur
    have G := hide hgr
    have XL := hide hlen
    have EL := hide hel
    have s1 := hgr.size
    have xl : xs.length ≤ 64 := by omega
    have r4 : r ≤ 64 := by omega
    clear hown hcur hgr hlen hel
    by_cases hr : 0 < r
    · have hr' : (0 : Int) < (r : Int) := by omega
      obtain ⟨vr, hvr⟩ : ∃ vr, vr = u5 := ⟨_, rfl⟩
      subst hvr
      go_wp2_with fail
      refine (pick_calls g _ (k + 2 * xs.length) 256 _ C.out (by omega) (by omega) (by omega)).mono ?_
      rintro e w4 ⟨q, hq, rfl, hc4, hg4⟩
      have C4 := hide hc4
      have G4 := hide (grown_trans G.out hg4)
      have O4 := hide (own_keep O.out hg4 lt0)
      have O5 : Hid (Own (w4.alloc (.cells #[.int .i64 (q : Int)] 3)) w.heap.size vr xs) := O4.out.alloc _
      have s4 := hg4.size
      clear hc4 hg4
      go_wp2_with (at_builtin; refine wpList_append_rd rfl (.tmp 10) (.tmp 13) rfl w.heap.size _ xs.length xs [(q : Int)] rfl O5.out _ rfl rd_single (by simp; omega) (by simp; omega) ?_)
      intro v' w5 ho5 hg5
      have hg5' : w4.grownBy w5 vr.ownBlock := Gf.grownBy_trans (World.grownBy_alloc _ _ _) hg5
      have hfar : ∀ b, vr.ownBlock = some b → w.heap.size ≤ b := fun b hb => (O4.out.lt b hb).1
      have G5 := hide (grown_far G4.out hg5' hfar)
      have C5 : Hid (CurS w5 g cv (k + 2 * (xs.length + 1))) := by
        refine (CurS.far C4.out hg5' (fun b hb => by have := hfar b hb; omega) (fun w' h' => LO.out w' (grown_low (grown_trans G5.out h') lt0))).mono ?_
        omega
      have O6 := hide ho5
      have E6 := hide (all_snoc EL.out hq)
      clear ho5 hg5 hg5' hfar
      go_wp2
      go_roundw
      case rel => exact ⟨r - 1, xs ++ [(q : Int)], Gf.int_eq (by omega), by simp; have := XL.out; omega, E6.out, O6.out, by simpa using C5.out, G5.out⟩
      case measure => simp [intOf]; omega
    · obtain rfl : r = 0 := by omega
      have hx : xs.length = n := by have := XL.out; omega
      go_wp2
      go_ret
      exact ⟨_, xs, rfl, hx, EL.out, O.out, by rw [← hx]; exact C.out, G.out⟩
end Go.Proofs.YtogopakmebiomaaDoor

namespace Go.Proofs.YtogopakmebiomaaDoor
open Go.RowKit
open Gf (wdOk wOk)

set_option maxRecDepth 100000 in
set_option maxHeartbeats 3200000 in
theorem spoiltWord_calls (g : Nat) (cv : Value) (k : Nat) (w : World) (h : CurS w g cv k) (hk : k ≤ 900000) (hcb : ∀ w', Below g w w' → RdB w' cv) :
    Calls Tryd.prog 96 #[.pointer (some ⟨g, 0, none⟩)] w fun e w' => ∃ (v' : Value) (xs : List Int) (t : Nat), e = .returned (.tuple #[v', .int .i64 t]) ∧ wdOk xs t = true ∧ t ≤ 3 ∧ Own w' w.heap.size v' xs ∧ CurS w' g cv (k + 1000) ∧ w.grownBy w' (some g) := by
  have C0 := hide h
  have LO := hide hcb
  have lt0 := curS_lt h
  clear h hcb
  go_enter Tryd.func96, Tryd.ntmps96
  go_wp2_with fail
  refine (pick_calls g _ k 3 _ C0.out (by omega) (by omega) (by omega)).mono ?_
  rintro e w1 ⟨p, hp, rfl, hc1, hg1⟩
  have C1 := hide hc1
  have G1 := hide hg1
  have s1 := hg1.size
  clear hc1 hg1
  go_wp2_with fail
  refine (pick_calls g _ (k + 2) 8 _ C1.out (by omega) (by omega) (by omega)).mono ?_
  rintro e w2 ⟨q, hq, rfl, hc2, hg2⟩
  have C2 := hide hc2
  have G2 := hide (grown_trans G1.out hg2)
  have s2 := hg2.size
  clear hc2 hg2
  go_wp2_with fail
  obtain ⟨N, hN⟩ : ∃ N : Nat, N = 1 + q := ⟨_, rfl⟩
  have eN : (1 : Int) + (q : Int) = (N : Int) := by omega
  rw [eN]
  refine (elements_calls g _ (k + 4) N _ C2.out (by omega) (by omega) (fun w' hb => LO.out w' ((grown_low G2.out lt0).trans hb))).mono ?_
  rintro e w3 ⟨v3, ms, rfl, hml, hme, ho3, hc3, hg3⟩
  have C3 := hide hc3
  have G3 := hide (grown_trans G2.out hg3)
  have R3 := hide ho3.rd
  have ME := hide hme
  have s3 := hg3.size
  have ms1 : 1 ≤ ms.length := by omega
  have ms8 : ms.length ≤ 8 := by omega
  have N8 : N ≤ 8 := by omega
  clear hc3 hg3 ho3 hme eN hml hN
  go_wp2_with fail
  obtain ⟨t, ht⟩ : ∃ t : Nat, t = 1 + p := ⟨_, rfl⟩
  have et : (1 : Int) + (p : Int) = (t : Int) := by omega
  have t1 : 1 ≤ t := by omega
  have t3 : t ≤ 3 := by omega
  have ok1 : Gf.meOk ms t = true := Gf.meOk_mk (Gf.wOk_iff.2 (by omega)) ms1 (by omega) ME.out
  have EO : Hid (Gf.encW ms t = (Gf.wordW ms t, true)) := by
    have := Gf.encW_yes ok1
    rwa [Int.toNat_natCast] at this
  clear ok1
  rw [et]
  clear et ht hp
  refine (Gf.sEncodeWord_calls _ ms t _ R3.out).mono ?_
  rw [EO.out]
  rintro e w4 ⟨v4, rfl, ho4, hb4⟩
  have G4 := hide (grown_trans G3.out (grown_of_below hb4 (some g)))
  have C4 := hide (CurS.keptW C3.out hb4 (fun w' h' => LO.out w' (grown_low (grown_trans G4.out h') lt0)))
  have s4 := hb4.size
  have hwl := Gf.wordW_length (n := t) t3 ME.out (by omega)
  obtain ⟨N4, hN4⟩ : ∃ N4, N4 = 2 * t + ms.length := ⟨_, rfl⟩
  rw [← hN4] at hwl
  have N4b : N4 ≤ 14 := by omega
  have N4c : 1 ≤ N4 := by omega
  have N4d : 2 * t < N4 := by omega
  obtain ⟨gl, cl, hv4, hgl1, hgl2, _⟩ := Gf.Own.open ho4 (by rw [hwl]; omega)
  rw [hwl] at hv4
  subst hv4
  have O4 : Hid (w4.ownsRow w3.heap.size 3 1 (.slice (some ⟨gl, 0, none⟩) N4 cl) N4 ((Gf.wordW ms t).map (Value.int .i64))) := by
    have := ho4
    unfold Own at this
    rwa [hwl] at this
  have WE := hide (wordW_el (n := t) t3 ME.out (by omega))
  have WL := hide hwl
  clear ho4 hb4 hwl hN4
  go_wp2_with fail
  obtain ⟨M, hM⟩ : ∃ M : Nat, M = t + 2 := ⟨_, rfl⟩
  have eM : (t : Int) + 2 = (M : Int) := by omega
  rw [eM]
  refine (pick_calls g _ (k + 4 + 2 * N) M _ C4.out (by omega) (by omega) (by omega)).mono ?_
  rintro e w5 ⟨m, hm, rfl, hc5, hg5⟩
  have C5 := hide hc5
  have G5 := hide (grown_trans G4.out hg5)
  have s5 := hg5.size
  have hglg : g < w3.heap.size := by omega
  have O5 : Hid (w5.ownsRow w3.heap.size 3 1 (.slice (some ⟨gl, 0, none⟩) N4 cl) N4 ((Gf.wordW ms t).map (Value.int .i64))) := O4.out.kept hg5 (.inr (by simp [Value.ownBlock]; omega))
  clear hc5 hg5 eM
  have hm5 : m ≤ 5 := by omega
  go_wp2
  go_loopw [7] (fun vn wr => ∃ (r : Nat) (xs : List Int), vn = .int .i64 r ∧ r ≤ 5 ∧ xs.length = N4 ∧ xs.all Gf.elOk = true ∧ wr.ownsRow w3.heap.size 3 1 (.slice (some ⟨gl, 0, none⟩) N4 cl) N4 (xs.map (Value.int .i64)) ∧ CurS wr g cv (k + 200 - 4 * r) ∧ w.grownBy wr (some g)) (fun vn _ => (intOf vn).toNat)
  case atStart => exact ⟨m, _, rfl, hm5, WL.out, WE.out, O5.out, C5.out.mono (by omega), G5.out⟩
  case round =>
    obtain ⟨r, xs, rfl, hr5, hxl, hxe, ho, hc, hg⟩ := hrel
    have O := hide ho
    have C := hide hc
    have G := hide hg
    have XL := hide hxl
    have XE := hide hxe
    clear ho hc hg hxl hxe
    by_cases hr : 0 < r
    · have hr' : (0 : Int) < (r : Int) := by omega
      go_wp2_with fail
      refine (pick_calls g _ (k + 200 - 4 * r) N4 _ C.out (by omega) (by omega) (by omega)).mono ?_
      rintro e w6 ⟨i, hi, rfl, hc6, hg6⟩
      have C6 := hide hc6
      have G6 := hide (grown_trans G.out hg6)
      have O6 : Hid (w6.ownsRow w3.heap.size 3 1 (.slice (some ⟨gl, 0, none⟩) N4 cl) N4 (xs.map (Value.int .i64))) := O.out.kept hg6 (.inr (by simp [Value.ownBlock]; omega))
      clear hc6 hg6
      go_wp2_with fail
      refine (pick_calls g _ (k + 200 - 4 * r + 2) 256 _ C6.out (by omega) (by omega) (by omega)).mono ?_
      rintro e w7 ⟨z, hz, rfl, hc7, hg7⟩
      have G7 := hide (grown_trans G6.out hg7)
      have C7 := hide hc7
      have O7 : Hid (w7.ownsRow w3.heap.size 3 1 (.slice (some ⟨gl, 0, none⟩) N4 cl) N4 (xs.map (Value.int .i64))) := O6.out.kept hg7 (.inr (by simp [Value.ownBlock]; omega))
      have hcf := O7.out.frozenAt i
      obtain ⟨old, hcc⟩ : ∃ old, w7.cell? ⟨gl, i, none⟩ = some old := by
        rw [O7.out.cellAt i (by omega)]
        exact ⟨_, List.getElem?_eq_getElem (by rw [List.length_map, XL.out]; exact hi)⟩
      have K := hide (O7.out.stored i (.int .i64 (z : Int)))
      have i2 : (i : Int) < (N4 : Int) := by omega
      clear hc7 hg7
      go_wp2
      go_roundw
      case rel =>
        have hk2 := K.out
        have hgf : w.grownBy (w7.setCell ⟨gl, i, none⟩ (.int .i64 (z : Int))) (some g) := grown_far G7.out hk2.2 (fun j hj => by cases hj; omega)
        refine ⟨r - 1, xs.set i (z : Int), Gf.int_eq (by omega), by omega, by rw [List.length_set, XL.out], all_setE XE.out hz, ?_, ?_, hgf⟩
        · have := hk2.1
          rw [← List.map_set] at this
          exact this
        · exact (CurS.far C7.out hk2.2 (fun j hj => by cases hj; omega) (fun w' h' => LO.out w' (grown_low (grown_trans hgf h') lt0))).mono (by omega)
      case measure => simp [intOf]; omega
    · obtain rfl : r = 0 := by omega
      have hwd : wdOk xs t = true := Gf.wdOk_mk (Gf.wOk_iff.2 (by omega)) (by rw [XL.out]; omega) (by rw [XL.out]; omega) XE.out
      have O8 : Hid (Own wr w.heap.size (.slice (some ⟨gl, 0, none⟩) N4 cl) xs) := by
        refine Own.mono (base := w3.heap.size) ?_ (by omega)
        show World.ownsRow _ _ _ _ _ xs.length _
        rw [XL.out]
        exact O.out
      have WD := hide hwd
      clear hwd
      go_wp2
      go_ret2
      exact ⟨_, xs, t, rfl, WD.out, t3, O8.out, C.out.mono (by omega), G.out⟩
set_option maxRecDepth 100000 in
set_option maxHeartbeats 1600000 in
theorem drawSyndromesOf_calls (cv : Value) (w : World) (h : RdB w cv) :
    Calls Tryd.prog 35 #[cv] w fun e w' => ∃ (v : Value) (xs : List Int) (t : Nat), e = .returned (.tuple #[v, .int .i64 t]) ∧ wdOk xs t = true ∧ t ≤ 3 ∧ Rd w' v xs ∧ Below w.heap.size w w' := by
  have C0 := hide (cur_new h)
  have LO := hide (draw_low h)
  obtain ⟨a0, cap0, zs0, rfl, _⟩ := h
  go_enter Tryd.func35, Tryd.ntmps35
  go_wp2_with fail
  refine (spoiltWord_calls w.heap.size _ 0 _ C0.out (by omega) (fun w' hb => LO.out w' hb)).mono ?_
  rintro e w1 ⟨v, xs, t, rfl, hwd, ht, ho, hc, hg⟩
  have R := hide ho.rd
  have B := hide (cur_below hg)
  clear ho hc hg
  go_wp2
  go_ret2
  exact ⟨_, xs, t, rfl, hwd, ht, R.out, B.out⟩
set_option maxRecDepth 100000 in
set_option maxHeartbeats 1600000 in
theorem drawDecodeWord_calls (cv : Value) (w : World) (h : RdB w cv) :
    Calls Tryd.prog 33 #[cv] w fun e w' => ∃ (v : Value) (xs : List Int) (t : Nat), e = .returned (.tuple #[v, .int .i64 t]) ∧ wdOk xs t = true ∧ t ≤ 3 ∧ Rd w' v xs ∧ Below w.heap.size w w' := by
  have H := hide h
  clear h
  go_enter Tryd.func33, Tryd.ntmps33
  go_wp2_with fail
  refine (drawSyndromesOf_calls cv _ H.out).mono ?_
  rintro e w1 ⟨v, xs, t, rfl, hwd, ht, hr, hb⟩
  have R := hide hr
  have B := hide hb
  clear hr hb
  go_wp2
  go_ret2
  exact ⟨_, xs, t, rfl, hwd, ht, R.out, B.out⟩
set_option maxRecDepth 100000 in
set_option maxHeartbeats 1600000 in
theorem drawGeneratorOf_calls (cv : Value) (w : World) (h : RdB w cv) :
    Calls Tryd.prog 36 #[cv] w fun e w' => ∃ t : Int, e = .returned (.int .i64 t) ∧ (-1 ≤ t ∧ t ≤ 4) ∧ Below w.heap.size w w' := by
  have C0 := hide (cur_new h)
  obtain ⟨a0, cap0, zs0, rfl, _⟩ := h
  go_enter Tryd.func36, Tryd.ntmps36
  go_wp2_with fail
  refine (pick_calls w.heap.size _ 0 6 _ C0.out (by omega) (by omega) (by omega)).mono ?_
  rintro e w1 ⟨p, hp, rfl, hc1, hg1⟩
  have B := hide (cur_below hg1)
  clear hc1 hg1
  go_wp2
  go_ret
  exact ⟨(p : Int) - 1, rfl, by omega, B.out⟩
set_option maxRecDepth 100000 in
set_option maxHeartbeats 1600000 in
theorem drawLocatorOf_calls (cv : Value) (w : World) (h : RdB w cv) :
    Calls Tryd.prog 34 #[cv] w fun e w' => ∃ (v : Value) (xs : List Int), e = .returned v ∧ Rd w' v xs ∧ xs.length ≤ 8 ∧ Below w.heap.size w w' := by
  have C0 := hide (cur_new h)
  have LO := hide (draw_low h)
  obtain ⟨a0, cap0, zs0, rfl, _⟩ := h
  go_enter Tryd.func34, Tryd.ntmps34
  go_wp2_with fail
  refine (one_calls w.heap.size _ 0 12 _ C0.out (by omega) (by omega) (by omega)).mono ?_
  rintro e w1 ⟨b, rfl, hc1, hg1⟩
  have C1 := hide hc1
  have G1 := hide hg1
  clear hc1 hg1 C0
  cases b with
  | true =>
    go_wp2_with fail
    refine (pick_calls w.heap.size _ 2 8 _ C1.out (by omega) (by omega) (by omega)).mono ?_
    rintro e w2 ⟨p, hp, rfl, hc2, hg2⟩
    have C2 := hide hc2
    have G2 := hide (grown_trans G1.out hg2)
    clear hc2 hg2
    go_wp2_with fail
    refine (elements_calls w.heap.size _ 4 p _ C2.out (by omega) (by omega) (fun w' hb => LO.out w' ((grown_low G2.out (by simp)).trans hb))).mono ?_
    rintro e w3 ⟨v3, xs, rfl, hl, he, ho, hc3, hg3⟩
    have R := hide ho.rd
    have B := hide (cur_below (grown_trans G2.out hg3))
    have XL : Hid (xs.length ≤ 8) := by show xs.length ≤ 8; omega
    clear ho hc3 hg3 hl
    go_wp2
    go_ret
    exact ⟨_, xs, rfl, R.out, XL.out, B.out⟩
  | false =>
    go_wp2_with fail
    refine (spoiltWord_calls w.heap.size _ 2 _ C1.out (by omega) (fun w' hb => LO.out w' ((grown_low G1.out (by simp)).trans hb))).mono ?_
    rintro e w2 ⟨v, xs, t, rfl, hwd, ht, ho, hc, hg⟩
    have R := hide ho.rd
    have B := hide (cur_below (grown_trans G1.out hg))
    have SY : Hid (Gf.synR xs t = (Gf.synI xs (2 * t), true)) := by
      have := Gf.synR_yes hwd
      rwa [Int.toNat_natCast] at this
    clear ho hc hg
    go_wp2_with fail
    refine (Gf.sSyndromesOf_calls _ xs t _ R.out).mono ?_
    rw [SY.out]
    rintro e w3 ⟨v3, rfl, ho3, hb3⟩
    have R3 := hide ho3.rd
    have B3 := hide (B.out.trans (hb3.mono B.out.size))
    clear ho3 hb3
    go_wp2
    go_ret
    exact ⟨_, _, rfl, R3.out, by rw [Gf.synI_length]; omega, B3.out⟩
set_option maxRecDepth 100000 in
set_option maxHeartbeats 1600000 in
theorem drawEncodeWord_calls (cv : Value) (w : World) (h : RdB w cv) :
    Calls Tryd.prog 29 #[cv] w fun e w' => ∃ (v : Value) (xs : List Int) (t : Nat), e = .returned (.tuple #[v, .int .i64 t]) ∧ xs.all Gf.elOk = true ∧ xs.length ≤ 24 ∧ t ≤ 4 ∧ Rd w' v xs ∧ Below w.heap.size w w' := by
  have C0 := hide (cur_new h)
  have LO := hide (draw_low h)
  obtain ⟨a0, cap0, zs0, rfl, _⟩ := h
  go_enter Tryd.func29, Tryd.ntmps29
  go_wp2_with fail
  refine (pick_calls w.heap.size _ 0 3 _ C0.out (by omega) (by omega) (by omega)).mono ?_
  rintro e w1 ⟨p, hp, rfl, hc1, hg1⟩
  have C1 := hide hc1
  have G1 := hide hg1
  clear hc1 hg1 C0
  go_wp2_with fail
  refine (one_calls w.heap.size _ 2 20 _ C1.out (by omega) (by omega) (by omega)).mono ?_
  rintro e w2 ⟨b, rfl, hc2, hg2⟩
  have C2 := hide hc2
  have G2 := hide (grown_trans G1.out hg2)
  clear hc2 hg2
  cases b with
  | true =>
    go_wp2_with fail
    refine (pick_calls w.heap.size _ 4 7 _ C2.out (by omega) (by omega) (by omega)).mono ?_
    rintro e w3 ⟨q, hq, rfl, hc3, hg3⟩
    have C3 := hide hc3
    have G3 := hide (grown_trans G2.out hg3)
    clear hc3 hg3
    go_wp2_with fail
    obtain ⟨N, hN⟩ : ∃ N : Nat, N = 17 + q := ⟨_, rfl⟩
    rw [show (17 : Int) + (q : Int) = (N : Int) by omega]
    refine (elements_calls w.heap.size _ 6 N _ C3.out (by omega) (by omega) (fun w' hb => LO.out w' ((grown_low G3.out (by simp)).trans hb))).mono ?_
    rintro e w4 ⟨v4, xs, rfl, hl, he, ho, hc4, hg4⟩
    have R := hide ho.rd
    have O := hide ho
    have C4 := hide hc4
    have G4 := hide (grown_trans G3.out hg4)
    have s3 := G3.out.size
    have XL : Hid (xs.length ≤ 24) := by show xs.length ≤ 24; omega
    have XE := hide he
    have N24 : N ≤ 24 := by omega
    have lt3 := curS_lt C3.out
    clear ho hc4 hg4 hl he hN
    go_wp2_with fail
    refine (pick_calls w.heap.size _ (6 + 2 * N) 5 _ C4.out (by omega) (by omega) (by omega)).mono ?_
    rintro e w5 ⟨t, ht, rfl, hc5, hg5⟩
    have R5 := hide (own_keep O.out hg5 lt3).rd
    have B := hide (cur_below (grown_trans G4.out hg5))
    clear hc5 hg5
    go_wp2
    go_ret2
    exact ⟨_, xs, t, rfl, XE.out, XL.out, by omega, R5.out, B.out⟩
  | false =>
    go_wp2_with fail
    refine (pick_calls w.heap.size _ 4 8 _ C2.out (by omega) (by omega) (by omega)).mono ?_
    rintro e w3 ⟨q, hq, rfl, hc3, hg3⟩
    have C3 := hide hc3
    have G3 := hide (grown_trans G2.out hg3)
    clear hc3 hg3
    go_wp2_with fail
    obtain ⟨N, hN⟩ : ∃ N : Nat, N = 1 + q := ⟨_, rfl⟩
    rw [show (1 : Int) + (q : Int) = (N : Int) by omega]
    refine (elements_calls w.heap.size _ 6 N _ C3.out (by omega) (by omega) (fun w' hb => LO.out w' ((grown_low G3.out (by simp)).trans hb))).mono ?_
    rintro e w4 ⟨v4, xs, rfl, hl, he, ho, hc4, hg4⟩
    have R := hide ho.rd
    have B := hide (cur_below (grown_trans G3.out hg4))
    have XL : Hid (xs.length ≤ 24) := by show xs.length ≤ 24; omega
    have XE := hide he
    clear ho hc4 hg4 hl he hN
    go_wp2
    go_ret2
    exact ⟨_, xs, 1 + p, rfl, XE.out, XL.out, by omega, R.out, B.out⟩
end Go.Proofs.YtogopakmebiomaaDoor

namespace Go.Proofs.YtogopakmebiomaaDoor
open Go.RowKit
open Gf (wdOk wOk)

set_option maxRecDepth 100000 in
set_option maxHeartbeats 3200000 in
theorem drawWrongPlaces_calls (cv : Value) (w : World) (h : RdB w cv) :
    Calls Tryd.prog 37 #[cv] w fun e w' => ∃ (v u : Value) (xs ys : List Int), e = .returned (.tuple #[v, u]) ∧ Rd w' v xs ∧ Rd w' u ys ∧ xs.length ≤ 25 ∧ ys.length ≤ 25 ∧ Below w.heap.size w w' := by
  have C0 := hide (cur_new h)
  have LO := hide (draw_low h)
  obtain ⟨a0, cap0, zs0, rfl, _⟩ := h
  obtain ⟨cv, hcv⟩ : ∃ cv, cv = Value.slice a0 zs0.length cap0 := ⟨_, rfl⟩
  have CW : Hid (CurS (w.alloc (.cells #[Value.slice a0 zs0.length cap0, .int .i64 0, .int .u64 0] 89)) w.heap.size cv 0) := by rw [hcv]; exact C0.out
  have LW : Hid (∀ w', Below w.heap.size (w.alloc (.cells #[Value.slice a0 zs0.length cap0, .int .i64 0, .int .u64 0] 89)) w' → RdB w' cv) := by rw [hcv]; exact LO.out
  clear hcv C0 LO
  go_enter Tryd.func37, Tryd.ntmps37
  go_wp2_with fail
  refine (spoiltWord_calls w.heap.size _ 0 _ CW.out (by omega) (fun w' hb => LW.out w' hb)).mono ?_
  rintro e w1 ⟨v1, xs, t, rfl, hwd, ht, ho1, hc1, hg1⟩
  have C1 := hide hc1
  have G1 := hide hg1
  have O1 := hide ho1
  have lt1 := curS_lt hc1
  have s1 := hg1.size
  have s1' : w.heap.size + 1 ≤ w1.heap.size := by simpa using s1
  obtain ⟨q1, q2, q3, q4⟩ := Gf.wdOk_yes hwd
  have q5 := (Gf.wOk_iff.1 q1).1
  have hx1 : 1 ≤ xs.length := by omega
  have hx24 : xs.length ≤ 24 := q3
  obtain ⟨a1, c1, hv1, _, _, _⟩ := ho1.rd
  subst hv1
  clear hc1 hg1 ho1 hwd q1 q2 q3 q4 q5 s1
  have OO : Hid ((w1.alloc (.cells #[] 3)).ownsRow w1.heap.size 3 1 (.slice (some ⟨w1.heap.size, 0, none⟩) 0 0) 0 (([] : List Int).map (Value.int .i64))) := World.ownsRow_lit w1 #[] 0 (Nat.le_refl _) (by decide) (by rfl)
  have PP := hide (O1.out.rd.below ((Below.refl w1.heap.size w1).alloc (Nat.le_refl _) (.cells #[] 3)))
  go_wp2_with (at_builtin; refine wpList_append_rd rfl (.tmp 17) (.tmp 18) rfl w1.heap.size _ 0 [] xs rfl OO.out _ rfl PP.out (by omega) (by simp) ?_)
  intro v2 w2 ho2 hg2
  have hb2 : Below w1.heap.size w1 w2 := ((Below.refl w1.heap.size w1).alloc (Nat.le_refl _) _).grown hg2 (by simp) (fun i hi => by cases hi; exact Nat.le_refl _)
  have ho2 : Own w2 w1.heap.size v2 xs := ho2
  have G2 := hide (grown_trans G1.out (grown_of_below hb2 (some w.heap.size)))
  have C2 := hide (CurS.keptW C1.out hb2 (fun w' h' => LW.out w' (grown_low (grown_trans G2.out h') (by simp))))
  have O12 := hide (O1.out.below hb2)
  have s2 := hb2.size
  obtain ⟨g2, c2, hv2, hq1, hq2, _⟩ := Gf.Own.open ho2 (by omega)
  subst hv2
  have O2 := hide ho2
  have far1 : Hid (∀ k, (Value.slice a1 xs.length c1).ownBlock = some k → k < w1.heap.size) := fun k hk => (O1.out.lt k hk).2
  clear hb2 hg2 ho2 OO PP C1
  go_wp2_with fail
  refine (pick_calls w.heap.size _ 1000 4 _ C2.out (by omega) (by omega) (by omega)).mono ?_
  rintro e w3 ⟨m, hm, rfl, hc3, hg3⟩
  have C3 := hide hc3
  have G3 := hide (grown_trans G2.out hg3)
  have O3 := hide (own_keep O2.out hg3 (by omega))
  have O13 := hide (own_keep O12.out hg3 (by simp))
  clear hc3 hg3
  go_wp2
  go_loopw [8] (fun vn wr => ∃ (r : Nat) (ys : List Int), vn = .int .i64 r ∧ r ≤ 3 ∧ ys.length = xs.length ∧ wr.ownsRow w1.heap.size 3 1 (.slice (some ⟨g2, 0, none⟩) xs.length c2) xs.length (ys.map (Value.int .i64)) ∧ Own wr (w.alloc (.cells #[Value.slice a0 zs0.length cap0, .int .i64 0, .int .u64 0] 89)).heap.size (.slice a1 xs.length c1) xs ∧ CurS wr w.heap.size cv (1100 - 4 * r) ∧ (w.alloc (.cells #[Value.slice a0 zs0.length cap0, .int .i64 0, .int .u64 0] 89)).grownBy wr (some w.heap.size)) (fun vn _ => (intOf vn).toNat)
  case atStart => exact ⟨m, xs, rfl, by omega, rfl, O3.out, O13.out, C3.out.mono (by omega), G3.out⟩
  case round =>
    obtain ⟨r, ys, rfl, hr3, hyl, ho, hox, hc, hg⟩ := hrel
    have O := hide ho
    have OX := hide hox
    have C := hide hc
    have G := hide hg
    have YL := hide hyl
    clear ho hc hg hyl hox
    have x0 : (0 : Int) < (xs.length : Int) := by omega
    by_cases hr : 0 < r
    · have hr' : (0 : Int) < (r : Int) := by omega
      go_wp2_with fail
      refine (pick_calls w.heap.size _ (1100 - 4 * r) xs.length _ C.out (by omega) (by omega) (by omega)).mono ?_
      rintro e w6 ⟨i, hi, rfl, hc6, hg6⟩
      have C6 := hide hc6
      have G6 := hide (grown_trans G.out hg6)
      have O6 : Hid (w6.ownsRow w1.heap.size 3 1 (.slice (some ⟨g2, 0, none⟩) xs.length c2) xs.length (ys.map (Value.int .i64))) := O.out.kept hg6 (.inr (by simp [Value.ownBlock]; omega))
      have OX6 := hide (own_keep OX.out hg6 (by simp))
      clear hc6 hg6
      go_wp2_with fail
      refine (pick_calls w.heap.size _ (1100 - 4 * r + 2) 256 _ C6.out (by omega) (by omega) (by omega)).mono ?_
      rintro e w7 ⟨z, hz, rfl, hc7, hg7⟩
      have G7 := hide (grown_trans G6.out hg7)
      have C7 := hide hc7
      have O7 : Hid (w7.ownsRow w1.heap.size 3 1 (.slice (some ⟨g2, 0, none⟩) xs.length c2) xs.length (ys.map (Value.int .i64))) := O6.out.kept hg7 (.inr (by simp [Value.ownBlock]; omega))
      have OX7 := hide (own_keep OX6.out hg7 (by simp))
      have hcf := O7.out.frozenAt i
      obtain ⟨old, hcc⟩ : ∃ old, w7.cell? ⟨g2, i, none⟩ = some old := by
        rw [O7.out.cellAt i (by omega)]
        exact ⟨_, List.getElem?_eq_getElem (by rw [List.length_map, YL.out]; exact hi)⟩
      have K := hide (O7.out.stored i (.int .i64 (z : Int)))
      have i2 : (i : Int) < (xs.length : Int) := by omega
      clear hc7 hg7
      go_wp2
      go_roundw
      case rel =>
        have hk2 := K.out
        have hgf : (w.alloc (.cells #[Value.slice a0 zs0.length cap0, .int .i64 0, .int .u64 0] 89)).grownBy (w7.setCell ⟨g2, i, none⟩ (.int .i64 (z : Int))) (some w.heap.size) := grown_far G7.out hk2.2 (fun j hj => by cases hj; simp; omega)
        refine ⟨r - 1, ys.set i (z : Int), Gf.int_eq (by omega), by omega, by rw [List.length_set, YL.out], ?_, ?_, ?_, hgf⟩
        · have := hk2.1
          rw [← List.map_set] at this
          exact this
        · refine World.ownsRow.kept OX7.out hk2.2 ?_
          right
          intro e
          have := far1.out g2 e
          omega
        · exact (CurS.far C7.out hk2.2 (fun j hj => by cases hj; omega) (fun w' h' => LW.out w' (grown_low (grown_trans hgf h') (by simp)))).mono (by omega)
      case measure => simp [intOf]; omega
    · obtain rfl : r = 0 := by omega
      go_wp2_with fail
      refine (one_calls w.heap.size _ 1100 20 _ C.out (by omega) (by omega) (by omega)).mono ?_
      rintro e w8 ⟨b, rfl, hc8, hg8⟩
      have G8 := hide (grown_trans G.out hg8)
      have O8 : Hid (Own w8 w1.heap.size (.slice (some ⟨g2, 0, none⟩) xs.length c2) ys) := by
        show World.ownsRow _ _ _ _ _ ys.length _
        rw [YL.out]
        exact O.out.kept hg8 (.inr (by simp [Value.ownBlock]; omega))
      have OX8 := hide (own_keep OX.out hg8 (by simp))
      have s8 := G8.out.size
      have s8' : w1.heap.size ≤ w8.heap.size := by have := (O8.out.lt g2 rfl).2; omega
      clear hc8 hg8
      cases b with
      | false =>
        have B := hide (cur_below G8.out)
        go_wp2
        go_ret2
        exact ⟨_, _, xs, ys, rfl, OX8.out.rd, O8.out.rd, by omega, by rw [YL.out]; omega, B.out⟩
      | true =>
        have O8r : Hid (w8.ownsRow w1.heap.size 3 1 (.slice (some ⟨g2, 0, none⟩) xs.length c2) xs.length (ys.map (Value.int .i64))) := by
          have := O8.out
          unfold Own at this
          rwa [YL.out] at this
        have A8 := hide (O8r.out.alloc (.cells #[.int .i64 1] 3))
        go_wp2_with (at_builtin; refine wpList_append_rd rfl (.tmp 41) (.tmp 42) rfl w1.heap.size _ xs.length ys [1] rfl A8.out _ rfl rd_single (by simp; omega) (by simp; omega) ?_)
        intro v9 w9 ho9 hg9
        have hg9' : w8.grownBy w9 (some g2) := Gf.grownBy_trans (World.grownBy_alloc _ _ _) hg9
        have B := hide (cur_below (grown_far G8.out hg9' (fun j hj => by cases hj; simp; omega)))
        have RX9 : Hid (Rd w9 (.slice a1 xs.length c1) xs) := Own.rd (World.ownsRow.kept OX8.out hg9' (.inr (fun e => by have := far1.out g2 e; omega)))
        have R9 := hide ho9.rd
        have L9 : Hid ((ys ++ [1]).length ≤ 25) := by show (ys ++ [1]).length ≤ 25; rw [List.length_append, YL.out]; simp; omega
        clear ho9 hg9 hg9'
        go_wp2
        go_ret2
        exact ⟨_, _, xs, ys ++ [1], rfl, RX9.out, R9.out, by omega, L9.out, B.out⟩
end Go.Proofs.YtogopakmebiomaaDoor

namespace Go.Proofs.YtogopakmebiomaaDoor
open Go.RowKit
namespace Gf

theorem Rd.rowN {w : World} {a : Option Addr} {n cap : Nat} {s : List Nat} (h : Rd w (.slice a n cap) (ci s)) (i : Nat) (hi : i < s.length) :
    ∃ b off, a = some ⟨b, off, none⟩ ∧ w.cell? ⟨b, off + i, none⟩ = some (.int .i64 (s.getD i 0 : Nat)) := by
  obtain ⟨b, off, u, h1, h2, h3⟩ := Rd.row h i (by rw [ci_length]; exact hi)
  rw [ci_getD] at h3
  exact ⟨b, off, h1, by rw [h2, h3]⟩
set_option maxRecDepth 100000 in
set_option maxHeartbeats 800000 in
theorem missOf_calls (rv sv : Value) (c s : List Nat) (w : World) (hT : Tab w) (hr : Rd w rv (ci c)) (hs : Rd w sv (ci s)) (hc : AllLt c) (hsl : AllLt s) (hl : c.length ≤ s.length) (hm : s.length ≤ 64) :
    Calls Tryd.prog 83 #[rv, sv] w fun e w' => e = .returned (.int .i64 (dsc (fn c) (fn s) (s.length - 1) c.length : Nat)) ∧ w = w' := by
  have T := hide hT
  have R := hide hr
  have S := hide hs
  have CL := hide hc
  have SL := hide hsl
  obtain ⟨ra, rc, rfl, _, _, _⟩ := hr
  obtain ⟨sa, sc, rfl, _, _, _⟩ := hs
  simp only [ci_length]
  clear hT hc hsl
  go_enter Tryd.func83, Tryd.ntmps83
  go_wp2
  go_loop [5, 10] (fun vm vk => ∃ k : Nat, k ≤ c.length ∧ vk = .int .i64 k ∧ vm = .int .i64 (dsc (fn c) (fn s) (s.length - 1) k : Nat)) (fun _ vk => c.length - (intOf vk).toNat)
  case atStart => exact ⟨0, Nat.zero_le _, rfl, rfl⟩
  case round =>
    obtain ⟨k, hk, rfl, rfl⟩ := hrel
    by_cases hlt : k < c.length
    · have hlt' : (k : Int) < (c.length : Int) := by omega
      have e1 : ((s.length : Int) - 1 - (k : Int)).toNat = s.length - 1 - k := by omega
      have h01 : (0 : Int) ≤ (s.length : Int) - 1 - (k : Int) := by omega
      have h02 : (s.length : Int) - 1 - (k : Int) < (s.length : Int) := by omega
      obtain ⟨b1, o1, rfl, hc1⟩ := Rd.rowN R.out k hlt
      obtain ⟨b2, o2, rfl, hc2⟩ := Rd.rowN S.out (s.length - 1 - k) (by omega)
      obtain ⟨x, hx⟩ : ∃ x, x = c.getD k 0 := ⟨_, rfl⟩
      obtain ⟨y, hy⟩ : ∃ y, y = s.getD (s.length - 1 - k) 0 := ⟨_, rfl⟩
      have hx256 : x < 256 := by rw [hx]; exact CL.out k
      have hy256 : y < 256 := by rw [hy]; exact SL.out _
      have hd256 := dsc_lt (s := fn s) (k := s.length - 1) CL.out k
      obtain ⟨d, hd⟩ : ∃ d, d = dsc (fn c) (fn s) (s.length - 1) k := ⟨_, rfl⟩
      have D : Hid (dsc (fn c) (fn s) (s.length - 1) (k + 1) = d ^^^ mul x y) := by rw [hd, hx, hy]; rfl
      rw [← hx] at hc1
      rw [← hy] at hc2
      change dsc (fn c) (fn s) (s.length - 1) k < 256 at hd256
      rw [← hd] at hd256 ⊢
      have hm256 := mul_lt (a := x) (b := y) hx256
      clear hx hy hd
      go_wp2_with fail
      refine (mulE_calls _ _ _ T.out (by omega) (by omega) (by omega) (by omega)).mono ?_
      rintro e w' ⟨rfl, rfl⟩
      simp only [Int.toNat_natCast]
      go_wp2
      go_round
      case rel => exact ⟨k + 1, by omega, by go_num, by rw [D.out, i64_xor _ _ (by omega) (by omega)]⟩
      case measure => simp [intOf]; omega
    · obtain rfl : k = c.length := by omega
      go_wp2
      go_ret
      exact ⟨rfl, rfl⟩
def locOk (xs : List Int) : Bool := decide (xs.length = 2 ∨ xs.length = 4 ∨ xs.length = 6) && xs.all elOk
theorem locOk_yes {xs : List Int} (h : locOk xs = true) : (xs.length = 2 ∨ xs.length = 4 ∨ xs.length = 6) ∧ xs.all elOk = true := by
  simp only [locOk, Bool.and_eq_true, decide_eq_true_eq] at h
  exact h
theorem locOk_no {xs : List Int} (h : ¬ ((xs.length = 2 ∨ xs.length = 4 ∨ xs.length = 6) ∧ xs.all elOk = true)) : locOk xs = false := by
  cases hh : locOk xs with
  | false => rfl
  | true => exact absurd (locOk_yes hh) h
def locR (xs : List Int) : List Int × Bool := if locOk xs = true then (ci (locN (nat xs)), true) else ([], false)
theorem locR_yes {xs : List Int} (h : locOk xs = true) : locR xs = (ci (locN (nat xs)), true) := if_pos h
theorem locR_no {xs : List Int} (h : locOk xs = false) : locR xs = ([], false) := if_neg (by rw [h]; decide)
theorem locN_le {s : List Nat} (hs : AllLt s) : (locN s).length ≤ s.length + 1 := by
  have := (bm_inv hs s.length (Nat.le_refl _)).len
  unfold locN
  rw [cutNl_length]
  have h2 := cutN_le (ci (bmTo s s.length).c) (bmTo s s.length).c.length
  omega
theorem locR_len (xs : List Int) : (locR xs).1.length ≤ 1048576 := by
  unfold locR
  split
  next h =>
    obtain ⟨h1, h2⟩ := locOk_yes h
    have := locN_le (nat_ltp (fun c hc => elOk_iff.1 (List.all_eq_true.1 h2 c hc)))
    show (ci (locN (nat xs))).length ≤ _
    rw [ci_length]
    rw [nat_length] at this
    omega
  next => show 0 ≤ _; omega
theorem dsc_cut (c s : List Nat) {k j : Nat} (hj : j ≤ k + 1) : dsc (fn (c.take j)) (fn (s.take (k + 1))) k j = dsc (fn c) (fn s) k j := by
  have key : ∀ i, i ≤ j → dsc (fn (c.take j)) (fn (s.take (k + 1))) k i = dsc (fn c) (fn s) k i := by
    intro i
    induction i with
    | zero => intro _; rfl
    | succ i ih =>
      intro hi
      rw [dsc, dsc, ih (by omega)]
      have e1 : fn (c.take j) i = fn c i := by simp [fn, List.getD_eq_getElem?_getD, show i < j by omega]
      have e2 : fn (s.take (k + 1)) (k - i) = fn s (k - i) := by simp [fn, List.getD_eq_getElem?_getD, show k - i < k + 1 by omega]
      rw [e1, e2]
  exact key j (Nat.le_refl _)
theorem own_keep4 {w w' : World} {base g : Nat} {v : Value} {xs : List Int} (h : Own w base v xs) (hg : w.grownBy w' (some g)) (hb : g < base) : Own w' base v xs := by
  refine World.ownsRow.kept h hg ?_
  cases hv : v.ownBlock with
  | none => exact .inl rfl
  | some j =>
    right
    intro e
    have := (h.lt j hv).1
    simp at e
    omega

set_option maxRecDepth 100000 in
set_option maxHeartbeats 1600000 in
theorem locatorOf_no (v : Value) (xs : List Int) (w : World) (h : Rd w v xs) (hw : locOk xs = false) :
    Calls Tryd.prog 26 #[v] w fun e w' => e = .returned (.tuple #[.slice none 0 0, .bool false]) ∧ w = w' := by
  have R := hide h
  obtain ⟨a, cap, rfl, g1, g2, _⟩ := h
  have hm : xs.length ≤ maxLen := by omega
  unfold maxLen at hm
  clear g1 g2
  by_cases h1 : xs.length % 2 = 0
  case neg =>
    have t1 : ((xs.length : Int) % 2 != 0) = true := by simp; omega
    clear h1 hw
    go_enter Tryd.func26, Tryd.ntmps26
    go_wp2
    go_ret2
    exact ⟨rfl, rfl⟩
  have t1 : ((xs.length : Int) % 2 != 0) = false := by simp; omega
  by_cases h2 : 1 ≤ xs.length / 2 ∧ xs.length / 2 ≤ 3
  case neg =>
    have W : Hid (wOk ((xs.length : Int) / 2) = false) := wOk_no.2 (by omega)
    clear h1 hw h2
    go_enter Tryd.func26, Tryd.ntmps26
    go_wp2_with fail
    refine (isWrong_calls _ _).mono ?_
    rw [W.out]
    rintro e w' ⟨rfl, rfl⟩
    go_wp2
    go_ret2
    exact ⟨rfl, rfl⟩
  have W : Hid (wOk ((xs.length : Int) / 2) = true) := wOk_iff.2 (by omega)
  have h4 : xs.all elOk = false := by
    cases hh : xs.all elOk with
    | false => rfl
    | true =>
      exfalso
      simp only [locOk, hh, Bool.and_true, decide_eq_false_iff_not] at hw
      omega
  have E := hide h4
  clear h1 hw h2 h4
  go_enter Tryd.func26, Tryd.ntmps26
  go_wp2_with fail
  refine (isWrong_calls _ _).mono ?_
  rw [W.out]
  rintro e w' ⟨rfl, rfl⟩
  go_wp2_with fail
  refine (areElements_calls _ xs _ R.out).mono ?_
  rw [E.out]
  rintro e w' ⟨rfl, rfl⟩
  go_wp2
  go_ret2
  exact ⟨rfl, rfl⟩

set_option maxRecDepth 100000 in
set_option maxHeartbeats 6400000 in
theorem locatorOf_yes (v : Value) (xs : List Int) (w : World) (hT : Tab w) (h : Rd w v xs) (hw : locOk xs = true) :
    Calls Tryd.prog 26 #[v] w fun e w' => ∃ v', e = .returned (.tuple #[v', .bool true]) ∧ Own w' w.heap.size v' (ci (locN (nat xs))) ∧ Below w.heap.size w w' := by
  have T := hide hT
  have R := hide h
  obtain ⟨a, cap, rfl, hcap, _, _⟩ := h
  obtain ⟨hn, hal⟩ := locOk_yes hw
  have t1 : ((xs.length : Int) % 2 != 0) = false := by simp; omega
  have W : Hid (wOk ((xs.length : Int) / 2) = true) := wOk_iff.2 (by omega)
  have E := hide hal
  have n1 : 1 ≤ xs.length := by omega
  have n6 : xs.length ≤ 6 := by omega
  obtain ⟨s, hs⟩ : ∃ s, s = nat xs := ⟨_, rfl⟩
  have hsx : ci s = xs := by rw [hs]; exact ci_natp (fun c hc => elOk_iff.1 (List.all_eq_true.1 hal c hc))
  have hsl : AllLt s := by rw [hs]; exact nat_ltp (fun c hc => elOk_iff.1 (List.all_eq_true.1 hal c hc))
  have hslen : s.length = xs.length := by rw [hs, nat_length]
  obtain ⟨L, hL⟩ : ∃ L, L = locN (nat xs) := ⟨_, rfl⟩
  rw [← hL]
  have HL : Hid (cutNl (bmTo s xs.length).c = L) := by rw [hL, ← hs, ← hslen]; rfl
  have SX := hide hsx
  have SL := hide hsl
  have SLEN := hide hslen
  have INV : Hid (∀ k, k ≤ xs.length → BmI xs.length k (bmTo s k)) := fun k hk => by
    have := bm_inv hsl k (by rw [hslen]; exact hk)
    rwa [hslen] at this
  obtain ⟨sb, so, rfl⟩ : ∃ b off, a = some ⟨b, off, none⟩ := by
    obtain ⟨b, off, u, h1, _⟩ := R.out.row 0 (by omega)
    exact ⟨b, off, h1⟩
  clear hw hT hal hn hs hsx hsl hslen hL
  go_enter Tryd.func26, Tryd.ntmps26
  go_wp2_with fail
  refine (isWrong_calls _ _).mono ?_
  rw [W.out]
  rintro e w' ⟨rfl, rfl⟩
  go_wp2_with fail
  refine (areElements_calls _ xs _ R.out).mono ?_
  rw [E.out]
  rintro e w' ⟨rfl, rfl⟩
  obtain ⟨N, hN⟩ : ∃ N : Nat, N = xs.length + 1 := ⟨_, rfl⟩
  have HN3 : Hid ((xs.length : Int) + 1 = (N : Int)) := by show (xs.length : Int) + 1 = (N : Int); omega
  have HN := hide hN
  have nN : xs.length < N := by omega
  have nN7 : N ≤ 7 := by omega
  clear hN
  go_wp2_with (at_make; refine wpList_make_ints rfl _ _ rfl w.heap.size _ _ N rfl rfl HN3.out HN3.out (by omega) (Nat.le_refl _) ?_)
  intro w1 ho1 hg1
  obtain ⟨G, hG⟩ : ∃ G, G = w.heap.size := ⟨_, rfl⟩
  rw [← hG] at ho1 ⊢
  have hrow1 : w1.ownsRow w.heap.size 3 1 (.slice (some ⟨G, 0, none⟩) N N) N ((List.replicate N (0 : Int)).map (Value.int .i64)) := by
    have := ho1
    unfold Own at this
    rw [List.length_replicate, hG] at this
    rw [hG]
    exact this
  have hf1 : w1.frozen? ⟨G, 0, none⟩ = false := hrow1.frozenAt 0
  obtain ⟨old, hc1⟩ : ∃ old, w1.cell? ⟨G, 0, none⟩ = some old := by
    rw [hrow1.cellAt 0 (by omega)]
    exact ⟨_, List.getElem?_eq_getElem (by simp; omega)⟩
  have B1 := hide ((Below.refl w.heap.size w).grown hg1 (Nat.le_refl _) (fun k h => by cases h))
  have ST := hide (hrow1.stored 0 (.int .i64 1))
  have HG := hide hG
  have hlt1 : G < w1.heap.size := (hrow1.lt G rfl).2
  have i0 : (0 : Int) < (N : Int) := by omega
  clear ho1 hg1 hrow1 hG
  have START : Hid (Own ((w1.setCell ⟨G, 0, none⟩ (.int .i64 1)).alloc (.cells #[.int .i64 1] 3)) w.heap.size (.slice (some ⟨G, 0, none⟩) N N) (ci (bmTo s 0).c)) := by
    have h1 := ST.out.1
    have e : ((List.replicate N (0 : Int)).map (Value.int .i64)).set 0 (.int .i64 1) = (ci (bmTo s 0).c).map (Value.int .i64) := by
      rw [HN.out, bmTo, SLEN.out, List.replicate_succ]
      simp [ci]
    rw [e] at h1
    have h2 : Own (w1.setCell ⟨G, 0, none⟩ (.int .i64 1)) w.heap.size (.slice (some ⟨G, 0, none⟩) N N) (ci (bmTo s 0).c) := by
      show World.ownsRow _ _ _ _ _ (ci (bmTo s 0).c).length _
      rw [ci_length, (INV.out 0 (Nat.zero_le _)).len, ← HN.out]
      exact h1
    exact h2.alloc _
  have sz1 : (w1.setCell ⟨G, 0, none⟩ (.int .i64 1)).heap.size = w1.heap.size := by
    have := ST.out.2.size
    simp
  go_wp2
  go_loopw [6, 7, 8, 9, 37] (fun vo vl vm vg vk wr => ∃ (k : Nat) (q : Bm), k ≤ xs.length ∧ q = bmTo s k ∧ vk = .int .i64 k ∧ vl = .int .i64 (q.last : Nat) ∧ vm = .int .i64 (q.m : Nat) ∧ vg = .int .i64 (q.long : Nat) ∧ Own wr w.heap.size (.slice (some ⟨G, 0, none⟩) N N) (ci q.c) ∧ Own wr (G + 1) vo (ci q.b) ∧ Below w.heap.size w wr) (fun _ _ _ _ vk _ => xs.length - (intOf vk).toNat)
  case atStart =>
    refine ⟨0, bmTo s 0, Nat.zero_le _, rfl, rfl, rfl, rfl, rfl, START.out, ?_, ?_⟩
    · have := World.ownsRow_lit (base := G + 1) (e := 3) (size := 1) (w1.setCell ⟨G, 0, none⟩ (.int .i64 1)) #[.int .i64 1] 1 (by rw [sz1]; omega) (by decide) (by rfl)
      rw [sz1] at this
      exact this
    · exact (B1.out.setCell (by rw [HG.out]; exact Nat.le_refl _) _).alloc (by rw [sz1]; exact B1.out.size) _
  case round =>
    obtain ⟨k, q, hk, hq, rfl, rfl, rfl, rfl, hor, hoo, hb⟩ := hrel
    have OR := hide hor
    have OO := hide hoo
    have B := hide hb
    have Q := hide hq
    have IV : Hid (BmI xs.length k q) := by rw [hq]; exact INV.out k hk
    clear hor hoo hb hq
    by_cases hlt : k < xs.length
    · have hlt' : (k : Int) < (xs.length : Int) := by omega
      have hlk := IV.out.lk
      have hfit := IV.out.fit
      have hm1 := IV.out.m1
      have hlen := IV.out.len
      obtain ⟨E1, hE1⟩ : ∃ E : Nat, E = q.long + 1 := ⟨_, rfl⟩
      obtain ⟨E2, hE2⟩ : ∃ E : Nat, E = k + 1 := ⟨_, rfl⟩
      have ws1 : IntKind.i64.wrap ((q.long : Int) + 1) = (E1 : Int) := by rw [wrap_i64]; omega
      have ws2 : IntKind.i64.wrap ((k : Int) + 1) = (E2 : Int) := by rw [wrap_i64]; omega
      have f1 : (E1 : Int) ≤ (N : Int) := by omega
      have f2 : (E2 : Int) ≤ (cap : Int) := by omega
      have HE1 := hide hE1
      have HE2 := hide hE2
      obtain ⟨d, hd⟩ : ∃ d, d = bmD s k q := ⟨_, rfl⟩
      have hd256 : d < 256 := by rw [hd]; exact bmD_lt IV.out.cl
      have MO : Hid (∀ m, Calls Tryd.prog 83 #[.slice (some ⟨G, 0, none⟩) E1 N, .slice (some ⟨sb, so, none⟩) E2 cap] (wr.drewN m) fun e w' => e = .returned (.int .i64 (d : Nat)) ∧ wr.drewN m = w') := fun m => by
        have hr : Rd (wr.drewN m) (.slice (some ⟨G, 0, none⟩) E1 N) (ci (q.c.take E1)) := by
          have h1 := (OR.out.rd).below (below_drewN' m)
          have h2 := rd_takep (n := E1) (by
            have := h1
            rwa [show N = (ci q.c).length from by rw [ci_length, hlen, HN.out]] at this) (by rw [ci_length]; omega)
          rw [ci_take] at h2
          rwa [show (ci q.c).length = N from by rw [ci_length, hlen, HN.out]] at h2
        have hs2 : Rd (wr.drewN m) (.slice (some ⟨sb, so, none⟩) E2 cap) (ci (s.take E2)) := by
          have h1 := ((R.out.below B.out)).below (below_drewN' (w := wr) m)
          have h2 := rd_takep (n := E2) h1 (by omega)
          rw [← SX.out, ci_take] at h2
          exact h2
        have l1 : (q.c.take E1).length = E1 := by rw [List.length_take]; omega
        have l2 : (s.take E2).length = E2 := by rw [List.length_take, SLEN.out]; omega
        have := missOf_calls _ _ (q.c.take E1) (s.take E2) _ ((T.out.below B.out).below (below_drewN' m)) hr hs2 (AllLt.take IV.out.cl _) (AllLt.take SL.out _) (by omega) (by omega)
        have e : dsc (fn (q.c.take E1)) (fn (s.take E2)) ((s.take E2).length - 1) (q.c.take E1).length = d := by
          rw [l1, l2, hd, hE2, Nat.add_sub_cancel]
          unfold bmD
          rw [hE1]
          exact dsc_cut _ _ (by omega)
        rw [e] at this
        exact this
      have DD := hide hd
      clear hE1 hE2 hd
      go_wp2
      go_quiet ((go_at_call 83; exact quiet_same (MO.out _)))
      clear ws1 ws2 f1 f2
      by_cases hd0 : d = 0
      · have td : (((d : Nat) : Int) == 0) = true := by simp [hd0]
        have HD0 := hide hd0
        have hnx : bmTo s (k + 1) = ⟨q.c, q.b, q.last, q.m + 1, q.long⟩ := by
          rw [bmTo, ← Q.out]
          unfold bmStep
          rw [← DD.out, if_pos HD0.out]
        have NX := hide hnx
        clear hd0 hnx
        go_wp2
        go_roundw
        case rel =>
          refine ⟨k + 1, bmTo s (k + 1), by omega, rfl, by go_num, ?_, ?_, ?_, ?_, ?_, ?_⟩
          · rw [NX.out]
          · rw [NX.out]; go_num
          · rw [NX.out]
          · rw [NX.out]; exact OR.out.below (below_drewN' _)
          · rw [NX.out]; exact OO.out.below (below_drewN' _)
          · exact below_drewN B.out _
        case measure => simp [intOf]; omega
      · have td : (((d : Nat) : Int) == 0) = false := by simp [hd0]
        have HD0 := hide hd0
        clear hd0
        go_wp2_with fail
        refine (without_calls _ (ci q.c) _ (OR.out.rd.below (below_drewN' _)) (by rw [ci_length, hlen]; omega)).mono ?_
        rintro e w2 ⟨v2, rfl, ho2, hb2⟩
        have B2 := hide ((below_drewN B.out _).trans (hb2.mono (below_drewN B.out _).size))
        have OR2 := hide ((OR.out.below (below_drewN' _)).below hb2)
        have OO2 := hide ((OO.out.below (below_drewN' _)).below hb2)
        have hGw : G < wr.heap.size := (World.ownsRow.lt OR.out G rfl).2
        have OW2 : Hid (Own w2 (G + 1) v2 (ci (cutNl q.c))) := by
          have := ho2.mono (base' := G + 1) (by simp; omega)
          rw [cutL_nl] at this
          exact this
        have T2 := hide (T.out.below B2.out)
        clear ho2 hb2 OR OO B
        have hll := IV.out.ll
        go_wp2_with fail
        refine (inv_calls _ _ T2.out (by omega) (by omega)).mono ?_
        rintro e w' ⟨rfl, rfl⟩
        rw [Int.toNat_natCast]
        have hi := inv_lt q.last
        go_wp2_with fail
        refine (mulE_calls _ _ _ T2.out (by omega) (by omega) (by omega) (by omega)).mono ?_
        rintro e w' ⟨rfl, rfl⟩
        simp only [Int.toNat_natCast]
        obtain ⟨F, hF⟩ : ∃ F, F = mul d (inv q.last) := ⟨_, rfl⟩
        rw [← hF]
        have hF256 : F < 256 := by rw [hF]; exact mul_lt hd256
        have HC : Hid (amTo q.c q.b F q.m q.b.length = bmC s k q) := by rw [hF, DD.out]; rfl
        clear hF hi
        go_wp2_with fail
        refine (addMultiple_calls _ _ q.c q.b F q.m w.heap.size w2 (fun w' hg => T.out.below (B2.out.grown hg B2.out.size (fun i hi => by cases hi; rw [HG.out]; exact Nat.le_refl _))) OR2.out (fun w' hg => (own_keep4 OO2.out hg (Nat.lt_succ_self _)).rd) (by omega) (by omega) (by omega) (by omega) (by omega) IV.out.cl IV.out.bl (by omega)).mono ?_
        rintro e w3 ⟨rfl, ho3, hg3⟩
        simp only [Int.toNat_natCast] at ho3
        rw [HC.out] at ho3
        have OR3 := hide ho3
        have OO3 := hide (own_keep4 OO2.out hg3 (Nat.lt_succ_self _))
        have OW3 := hide (own_keep4 OW2.out hg3 (Nat.lt_succ_self _))
        have B3 := hide (B2.out.grown hg3 B2.out.size (fun i hi => by cases hi; rw [HG.out]; exact Nat.le_refl _))
        clear ho3 hg3 OR2 OO2 OW2 B2
        by_cases h2 : k < 2 * q.long
        · have h2' : (k : Int) < 2 * (q.long : Int) := by omega
          have NX : Hid (bmTo s (k + 1) = ⟨bmC s k q, q.b, q.last, q.m + 1, q.long⟩) := by
            rw [bmTo, ← Q.out]
            unfold bmStep
            rw [← DD.out, if_neg HD0.out, if_pos h2]
            exact hide rfl
          clear h2
          go_wp2
          go_roundw
          case rel =>
            refine ⟨k + 1, bmTo s (k + 1), by omega, rfl, by go_num, ?_, ?_, ?_, ?_, ?_, B3.out⟩
            · rw [NX.out]
            · rw [NX.out]; go_num
            · rw [NX.out]
            · rw [NX.out]; exact OR3.out
            · rw [NX.out]; exact OO3.out
          case measure => simp [intOf]; omega
        · have h2' : ¬ (k : Int) < 2 * (q.long : Int) := by omega
          have NX : Hid (bmTo s (k + 1) = ⟨bmC s k q, cutNl q.c, d, 1, k + 1 - q.long⟩) := by
            rw [bmTo, ← Q.out]
            unfold bmStep
            rw [← DD.out, if_neg HD0.out, if_neg h2]
            exact hide rfl
          clear h2
          go_wp2
          go_roundw
          case rel =>
            refine ⟨k + 1, bmTo s (k + 1), by omega, rfl, by go_num, ?_, ?_, ?_, ?_, ?_, B3.out⟩
            · rw [NX.out]
            · rw [NX.out]; rfl
            · rw [NX.out]; show _ = Value.int .i64 ((k + 1 - q.long : Nat) : Int); congr 1; omega
            · rw [NX.out]; exact OR3.out
            · rw [NX.out]; exact OW3.out
          case measure => simp [intOf]; omega
    · obtain rfl : k = xs.length := by omega
      go_wp2_with fail
      refine (without_calls _ (ci q.c) _ OR.out.rd (by rw [ci_length, IV.out.len]; omega)).mono ?_
      rintro e w2 ⟨v2, rfl, ho2, hb2⟩
      have O2 : Hid (Own w2 w.heap.size v2 (ci L)) := by
        have := ho2.mono (base' := w.heap.size) B.out.size
        rw [cutL_nl, Q.out, HL.out] at this
        exact this
      have B2 := hide (B.out.trans (hb2.mono B.out.size))
      clear ho2 hb2
      go_wp2
      go_ret2
      exact ⟨_, rfl, O2.out, B2.out⟩
theorem locatorOf_calls (v : Value) (xs : List Int) (w : World) (hT : Tab w) (h : Rd w v xs) :
    Calls Tryd.prog 26 #[v] w fun e w' => ∃ v', e = .returned (.tuple #[v', .bool (locR xs).2]) ∧ Own w' w.heap.size v' (locR xs).1 ∧ Below w.heap.size w w' := by
  cases hw : locOk xs with
  | false =>
    rw [locR_no hw]
    exact (locatorOf_no v xs w h hw).mono fun e w' ⟨he, hw⟩ => ⟨_, he, World.ownsRow_nil _ _ _ _, hw ▸ Below.refl _ _⟩
  | true =>
    rw [locR_yes hw]
    exact locatorOf_yes v xs w hT h hw
end Gf
end Go.Proofs.YtogopakmebiomaaDoor

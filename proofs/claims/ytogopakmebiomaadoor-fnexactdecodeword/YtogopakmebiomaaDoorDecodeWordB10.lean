/-
  Cauchy's matrix: the program's function and its model's, at all lists. The program's table of rests must hold its seven numbers where the program's own function is called. CauchyMatrix: the program's function and its model's, at all lists. The program's table of rests must hold its seven numbers where the program's own function is called. Cauchy's matrices have inverses, and an answer by rows solves what was asked: plain mathematics over the functions' answers. No call is walked here. Facts for the law of Cauchy's matrices: parts of unlike lists, each element's inverse, each row times the answer. The product of two polynomials: the program's MulPoly and its model's at every argument that can be read, call by call: both answer the same list, of new memory, and the same word. The program's table of rests must hold its seven numbers where the program's own function is called. The polynomial that makes a code's words, and how many may be wrong: the program's functions and its model's, call by call. The program's table of rests must hold its seven numbers where the program's own functions are called.
-/
import Derived.Test.YtogopakmebiomaaDoorDecodeWordB9
import Derived.Test.YtogopakmebiomaaDoorDecodeWordB7
import Derived.Test.YtogopakmebiomaaDoorDecodeWordB4
import Derived.Test.YtogopakmebiomaaDoorDecodeWordB5
namespace Go.Proofs.YtogopakmebiomaaDoor
open Go.RowKit

theorem rd_single {w : World} {z : Int} : Rd (w.alloc (.cells #[.int .i64 z] 3)) (.slice (some ⟨w.heap.size, 0, none⟩) 1 1) [z] := by
  refine ⟨_, 1, rfl, Nat.le_refl _, ⟨by unfold maxLen; omega, fun h => by cases h⟩, .inr ⟨_, 0, rfl, by simp, fun i hi => ?_⟩⟩
  simp at hi
  subst hi
  exact World.cell?_alloc_at _ _ _ _ (by simp)
theorem cauRow_length (a : Int) (ys : List Int) : (cauRow a ys).length = ys.length := by simp [cauRow]
theorem cauRow_get (a : Int) (ys : List Int) (j : Nat) (h : j < ys.length) : (cauRow a ys).getD j 0 = ((Gf.inv (a.toNat ^^^ (ys.getD j 0).toNat) : Nat) : Int) := by simp [cauRow, List.getD_eq_getElem?_getD, h]
theorem cauM_length (xs ys : List Int) : (cauM xs ys).length = xs.length := by simp [cauM]
theorem cauM_get (xs ys : List Int) (i : Nat) (h : i < xs.length) : (cauM xs ys).getD i [] = cauRow (xs.getD i 0) ys := by simp [cauM, List.getD_eq_getElem?_getD, h]

set_option maxRecDepth 100000 in
set_option maxHeartbeats 1600000 in
theorem l2Cauchy_calls (xv yv : Value) (xs ys : List Int) (w : World) (hx : Rd w xv xs) (hy : Rd w yv ys) (ex : xs.all Gf.elOk = true) (ey : ys.all Gf.elOk = true) (hnx : xs.length ≤ 1048576) (hny : ys.length ≤ 1048576) :
    Calls Tryd.prog 153 #[xv, yv] w fun e w' => ∃ v', e = .returned v' ∧ Mat w' w.heap.size w'.heap.size v' (cauM xs ys) ∧ Below w.heap.size w w' := by
  have RX := hide hx
  have RY := hide hy
  have EX := hide ex
  have EY := hide ey
  obtain ⟨xa, xcap, rfl, _⟩ := hx
  obtain ⟨ya, ycap, rfl, _⟩ := hy
  clear ex ey
  go_enter Tryd.func153, Tryd.ntmps153
  go_wp2
  go_loopw [5, 13] (fun vo vi wr => ∃ (k : Nat) (vs : List Value), k ≤ xs.length ∧ vi = .int .i64 k ∧ MatV wr w.heap.size wr.heap.size vo vs ((cauM xs ys).take k) ∧ Below w.heap.size w wr) (fun _ vi _ => xs.length - (intOf vi).toNat)
  case atStart =>
    obtain ⟨vs, hv⟩ := Mat.nil w w.heap.size w.heap.size
    exact ⟨0, vs, Nat.zero_le _, rfl, hv, Below.refl _ _⟩
  case round =>
    obtain ⟨k, vs, hk, rfl, hm, hb⟩ := hrel
    have M := hide hm
    have B := hide hb
    clear hm hb
    by_cases hlt : k < xs.length
    · have hlt' : (k : Int) < (xs.length : Int) := by omega
      obtain ⟨b, off, u, rfl, hc, hu⟩ := (RX.out.below B.out).row k hlt
      obtain ⟨x, hxx⟩ : ∃ x, x = xs.getD k 0 := ⟨_, rfl⟩
      rw [← hxx] at hu
      subst hu
      obtain ⟨r, hr⟩ : ∃ r, r = cauRow x ys := ⟨_, rfl⟩
      have hrl : r.length = ys.length := by rw [hr, cauRow_length]
      have hrg : ∀ j, j < ys.length → r.getD j 0 = ((Gf.inv (x.toNat ^^^ (ys.getD j 0).toNat) : Nat) : Int) := fun j hj => by rw [hr, cauRow_get _ _ _ hj]
      have hnext : (cauM xs ys).take k ++ [r] = (cauM xs ys).take (k + 1) := by
        rw [take_snoc (cauM xs ys) [] k (by rw [cauM_length]; exact hlt), cauM_get _ _ _ hlt, ← hxx, hr]
      have hex := Gf.elOk_tests (Gf.all_of_getD.1 EX.out k hlt)
      rw [← hxx] at hex
      obtain ⟨A, rfl⟩ := Int.eq_ofNat_of_zero_le hex.1
      have hA : A < 256 := by omega
      have RL := hide hrl
      have RG := hide hrg
      have NX := hide hnext
      obtain ⟨W1, rfl⟩ : ∃ W1, W1 = wr := ⟨_, rfl⟩
      clear hxx hr hrl hrg hnext hex
      go_wp2
      go_loopw [8, 19] (fun vr vi wr2 => ∃ (j : Nat), j ≤ ys.length ∧ vi = .int .i64 j ∧ Own wr2 W1.heap.size vr (r.take j) ∧ Below W1.heap.size W1 wr2) (fun _ vi _ => ys.length - (intOf vi).toNat)
      case atStart => exact ⟨0, Nat.zero_le _, rfl, World.ownsRow_nil _ _ _ _, Below.refl _ _⟩
      case round =>
        obtain ⟨j, hj, rfl, ho, hb2⟩ := hrel
        have O := hide ho
        have B2 := hide hb2
        clear ho hb2
        by_cases hltj : j < ys.length
        · have hltj' : (j : Int) < (ys.length : Int) := by omega
          obtain ⟨yb, yoff, yu, rfl, hyc, hyu⟩ := ((RY.out.below B.out).below B2.out).row j hltj
          obtain ⟨y, hyy⟩ : ∃ y, y = ys.getD j 0 := ⟨_, rfl⟩
          rw [← hyy] at hyu
          subst hyu
          have hey := Gf.elOk_tests (Gf.all_of_getD.1 EY.out j hltj)
          rw [← hyy] at hey
          have hg := RG.out j hltj
          rw [← hyy] at hg
          obtain ⟨Y, rfl⟩ := Int.eq_ofNat_of_zero_le hey.1
          have hY : Y < 256 := by omega
          simp only [Int.toNat_natCast] at hg
          have hxor : bits .xor .i64 ((A : Nat) : Int) ((Y : Nat) : Int) = ((A ^^^ Y : Nat) : Int) := Gf.i64_xor _ _ (by omega) (by omega)
          have hxl : A ^^^ Y < 256 := Nat.xor_lt_two_pow (n := 8) hA hY
          obtain ⟨z, hz⟩ : ∃ z, z = Gf.inv (A ^^^ Y) := ⟨_, rfl⟩
          rw [← hz] at hg
          have CD : Hid (∀ w', Calls Tryd.prog 127 #[.int .i64 1, .int .i64 (bits .xor .i64 ((A : Nat) : Int) ((Y : Nat) : Int))] w' fun e w'' => e = .returned (.int .i64 ((z : Nat) : Int)) ∧ w' = w'') := by
            intro w'
            rw [hxor]
            refine (Gf.l1Div_calls 1 _ w' (by omega) (by omega) (by omega) (by omega)).mono ?_
            rintro e w'' ⟨rfl, rfl⟩
            refine ⟨?_, rfl⟩
            have e1 : Gf.mul (Int.toNat 1) (Gf.inv (Int.toNat ((A ^^^ Y : Nat) : Int))) = z := by
              rw [Int.toNat_natCast, hz]
              exact Gf.one_mul _ (Gf.inv_lt _)
            rw [e1]
          have HG := hide hg
          have hl2 : (r.take j).length = j := by rw [List.length_take, RL.out]; omega
          have HL2 := hide hl2
          clear hyy hey hg hxor hxl hz hl2
          go_wp2_with fail
          refine (CD.out _).mono ?_
          rintro e w2 ⟨rfl, rfl⟩
          have O2 := hide (O.out.alloc (.cells #[.int .i64 ((z : Nat) : Int)] 3))
          go_wp2_with (at_builtin; refine wpList_append_rd rfl _ _ rfl W1.heap.size _ (r.take j).length (r.take j) [((z : Nat) : Int)] rfl O2.out _ rfl rd_single (by rw [HL2.out]; simp; omega) (by have := B2.out.size; simp; omega) ?_)
          intro v' w3 ho3 hg3
          have hb3 : Below W1.heap.size W1 w3 := (B2.out.alloc B2.out.size _).grown hg3 (by have := B2.out.size; simp; omega) (fun i hi => (O.out.lt i hi).1)
          have e : r.take j ++ [((z : Nat) : Int)] = r.take (j + 1) := by rw [take_snoc r 0 j (by rw [RL.out]; exact hltj), HG.out]
          rw [e] at ho3
          have O3 := hide ho3
          have B3 := hide hb3
          clear ho3 hg3 hb3 e
          go_wp2
          go_roundw
          case rel => exact ⟨j + 1, by omega, by go_num, O3.out, B3.out⟩
          case measure => simp [intOf]; omega
        · obtain rfl : j = ys.length := by omega
          have ho := O.out
          rw [← RL.out, List.take_of_length_le (Nat.le_refl _)] at ho
          obtain ⟨ra, rn, rc, rfl⟩ := ho.shape
          have OO := hide ho
          clear ho O
          go_wp2_with (at_builtin; refine wpList_append_row rfl _ _ rfl w.heap.size W1.heap.size _ vs ((cauM xs ys).take k) rfl M.out (B2.out.alloc B2.out.size _) _ r (OO.out.below ((Below.refl _ _).alloc (Nat.le_refl _) _)) (Nat.le_refl _) B.out.size _ rfl (World.cell?_alloc_at _ _ _ _ (by simp)) (by simp; omega) ?_)
          intro v2 w2 hM2 hB2
          rw [NX.out] at hM2
          have M2 := hide hM2
          have B3 := hide hB2
          clear hM2 hB2
          go_wp2
          go_roundw
          case rel => exact ⟨k + 1, _, by omega, by go_num, M2.out, B.out.trans B3.out⟩
          case measure => simp [intOf]; omega
    · obtain rfl : k = xs.length := by omega
      go_wp2
      go_ret
      have hm := M.out
      rw [List.take_of_length_le (by rw [cauM_length]; exact Nat.le_refl _)] at hm
      exact ⟨_, rfl, ⟨_, hm⟩, B.out⟩
end Go.Proofs.YtogopakmebiomaaDoor

namespace Go.Proofs.YtogopakmebiomaaDoor
open Go.RowKit

def cauOk (xs ys : List Int) : Bool := decide (1 ≤ (xs.length : Int) ∧ (xs.length : Int) ≤ 8) && (decide (1 ≤ (ys.length : Int) ∧ (ys.length : Int) ≤ 8) && unl (xs ++ ys))
def cauR (xs ys : List Int) : List (List Int) × Bool := if cauOk xs ys = true then (cauM xs ys, true) else ([], false)
theorem cauOk_facts {xs ys : List Int} (h : cauOk xs ys = true) : (1 ≤ xs.length ∧ xs.length ≤ 8) ∧ (1 ≤ ys.length ∧ ys.length ≤ 8) ∧ unl (xs ++ ys) = true := by
  simp only [cauOk, Bool.and_eq_true, decide_eq_true_eq] at h
  exact ⟨by omega, by omega, h.2.2⟩
theorem unl_parts {xs ys : List Int} (h : unl (xs ++ ys) = true) : xs.all Gf.elOk = true ∧ ys.all Gf.elOk = true := by
  have := unl_els h
  rw [List.all_append, Bool.and_eq_true] at this
  exact this
theorem cauR_tot (xs ys : List Int) : (cauR xs ys).1.length + tot (cauR xs ys).1 ≤ 1048576 := by
  unfold cauR
  split
  · rename_i h
    obtain ⟨h1, h2, _⟩ := cauOk_facts h
    simp only []
    have : ∀ k, k ≤ xs.length → tot ((cauM xs ys).take k) ≤ 8 * k := by
      intro k
      induction k with
      | zero => intro _; simp [tot]
      | succ k ih =>
        intro hk
        rw [tot_take_succ _ k (by rw [cauM_length]; omega), cauM_get _ _ k (by omega), cauRow_length]
        have := ih (by omega)
        omega
    have := this xs.length (Nat.le_refl _)
    rw [List.take_of_length_le (by rw [cauM_length]; exact Nat.le_refl _)] at this
    rw [cauM_length]
    omega
  · simp [tot]
theorem rdM_pair {w : World} {xv yv : Value} {xs ys : List Int} (hx : Rd w xv xs) (hy : Rd w yv ys) : RdM (w.alloc (.cells #[xv, yv] 22)) (.slice (some ⟨w.heap.size, 0, none⟩) 2 2) [xs, ys] := by
  have hb : Below w.heap.size w (w.alloc (.cells #[xv, yv] 22)) := (Below.refl _ _).alloc (Nat.le_refl _) _
  refine ⟨_, 2, rfl, Nat.le_refl _, ⟨by unfold maxLen; omega, fun h => by cases h⟩, .inr ⟨_, 0, rfl, by simp, fun i hi => ?_⟩⟩
  simp at hi
  match i, hi with
  | 0, _ => exact ⟨xv, World.cell?_alloc_at _ _ _ _ (by simp), hx.below hb⟩
  | 1, _ => exact ⟨yv, World.cell?_alloc_at _ _ _ _ (by simp), hy.below hb⟩

set_option maxRecDepth 100000 in
set_option maxHeartbeats 3200000 in
theorem cauchy_good (xv yv : Value) (xs ys : List Int) (w : World) (hT : Gf.Tab w) (hx : Rd w xv xs) (hy : Rd w yv ys) (hok : cauOk xs ys = true) :
    Calls Tryd.prog 145 #[xv, yv] w fun e w' => ∃ v', e = .returned (.tuple #[v', .bool true]) ∧ Mat w' w.heap.size w'.heap.size v' (cauM xs ys) ∧ Below w.heap.size w w' := by
  obtain ⟨⟨hx1, hx8⟩, ⟨hy1, hy8⟩, hu⟩ := cauOk_facts hok
  obtain ⟨ex, ey⟩ := unl_parts hu
  have RX := hide hx
  have RY := hide hy
  have T := hide hT
  have EX := hide ex
  have EY := hide ey
  have U := hide hu
  have UP : Hid (unl ([xs, ys] : List (List Int)).flatten = true) := by
    show unl ([xs, ys] : List (List Int)).flatten = true
    simpa using hu
  obtain ⟨xa, xcap, rfl, _⟩ := hx
  obtain ⟨ya, ycap, rfl, _⟩ := hy
  have b1 : Hid (decide (1 ≤ (xs.length : Int) ∧ (xs.length : Int) ≤ 8) = true) := decide_eq_true (by omega)
  have b2 : Hid (decide (1 ≤ (ys.length : Int) ∧ (ys.length : Int) ≤ 8) = true) := decide_eq_true (by omega)
  obtain ⟨P, hP⟩ : ∃ P, P = cauM xs ys := ⟨_, rfl⟩
  rw [← hP]
  have hPl : P.length = xs.length := by rw [hP, cauM_length]
  have hPg : ∀ k, k < xs.length → P.getD k [] = cauRow (xs.getD k 0) ys := fun k hk => by rw [hP, cauM_get _ _ _ hk]
  have PL := hide hPl
  have PG := hide hPg
  obtain ⟨l, hl⟩ : ∃ l, l = ys.length := ⟨_, rfl⟩
  have HL := hide hl
  clear hT hok hu ex ey hP hPl hPg hl
  go_enter Tryd.func145, Tryd.ntmps145
  go_wp2_with fail
  refine (isSide_calls _ _).mono ?_
  rw [b1.out]
  rintro e w' ⟨rfl, rfl⟩
  go_wp2_with fail
  refine (isSide_calls _ _).mono ?_
  rw [b2.out]
  rintro e w' ⟨rfl, rfl⟩
  go_wp2_with fail
  refine (areUnlike_calls _ [xs, ys] _ (rdM_pair RX.out RY.out) (by simp) (fun i hi => by simp at hi; match i, hi with | 0, _ => (show xs.length ≤ _; omega) | 1, _ => (show ys.length ≤ _; omega))).mono ?_
  rw [UP.out]
  rintro e w2 ⟨rfl, hb2⟩
  have h0 : Below w.heap.size w (w.alloc (.cells #[.slice xa xs.length xcap, .slice ya ys.length ycap] 22)) := (Below.refl _ _).alloc (Nat.le_refl _) _
  have B2 := hide (h0.trans (hb2.mono h0.size))
  clear hb2 h0
  go_wp2_with fail
  refine (newRows_calls xs.length ys.length _ (by omega) (by omega)).mono ?_
  rintro e w3 ⟨v3, rfl, ⟨vs, hm⟩, hb3⟩
  rw [← HL.out, ← PL.out, ← gTo_zero] at hm
  obtain ⟨g, cap, hv3, hg1, hg2, hg3, hg4⟩ := hm.open (by rw [gTo_length _ _ _ (Nat.zero_le _), PL.out]; omega)
  rw [gTo_length _ _ _ (Nat.zero_le _), PL.out] at hv3 hg3
  subst hv3
  have M3 := hide hm
  have B3 := hide (B2.out.trans (hb3.mono B2.out.size))
  have hs23 : w.heap.size ≤ w2.heap.size := B2.out.size
  have S2 : 0 < w2.heap.size := Nat.lt_of_lt_of_le (Gf.tab_pos T.out) hs23
  clear hm hb3
  go_wp2
  go_loopw [35] (fun vi wr => ∃ (k : Nat), k ≤ xs.length ∧ vi = .int .i64 k ∧ MatV wr w2.heap.size w3.heap.size (.slice (some ⟨g, 0, none⟩) xs.length cap) vs (gTo P (List.replicate l 0) k) ∧ Chg w2.heap.size w3.heap.size w3 wr) (fun vi _ => xs.length - (intOf vi).toNat)
  case atStart => exact ⟨0, Nat.zero_le _, rfl, M3.out, Chg.refl _ _ _⟩
  case round =>
    obtain ⟨k, hk, rfl, hM, hC⟩ := hrel
    by_cases hlt : k < xs.length
    · have hlt' : (k : Int) < (xs.length : Int) := by omega
      have BW := hide (B3.out.trans (hC.below hs23 B3.out.size))
      obtain ⟨b, off, u, rfl, hc, hu⟩ := (RX.out.below BW.out).row k hlt
      obtain ⟨x, hxx⟩ : ∃ x, x = xs.getD k 0 := ⟨_, rfl⟩
      rw [← hxx] at hu
      subst hu
      have hex := Gf.elOk_tests (Gf.all_of_getD.1 EX.out k hlt)
      rw [← hxx] at hex
      have hpg := PG.out k hlt
      rw [← hxx] at hpg
      obtain ⟨A, rfl⟩ := Int.eq_ofNat_of_zero_le hex.1
      have hA : A < 256 := by omega
      obtain ⟨r, hr⟩ : ∃ r, r = cauRow ((A : Nat) : Int) ys := ⟨_, rfl⟩
      have hrl : r.length = l := by rw [hr, cauRow_length, HL.out]
      have hrg : ∀ j, j < ys.length → r.getD j 0 = ((Gf.inv (A ^^^ (ys.getD j 0).toNat) : Nat) : Int) := fun j hj => by rw [hr, cauRow_get _ _ _ hj]; simp
      rw [← hr] at hpg
      have hkl : k < (gTo P (List.replicate l 0) k).length := by rw [gTo_length _ _ _ (by rw [PL.out]; exact hk), PL.out]; exact hlt
      have M := hide hM
      have C := hide hC
      have PK := hide hpg
      have RL := hide hrl
      have RG := hide hrg
      have KL := hide hkl
      clear hM hC hxx hex hpg hr hrl hrg hkl
      go_wp2
      go_loopw [42] (fun vi wr2 => ∃ (j : Nat), j ≤ ys.length ∧ vi = .int .i64 j ∧ MatV wr2 w2.heap.size w3.heap.size (.slice (some ⟨g, 0, none⟩) xs.length cap) vs ((gTo P (List.replicate l 0) k).set k (cpTo r j)) ∧ Chg w2.heap.size w3.heap.size w3 wr2) (fun vi _ => ys.length - (intOf vi).toNat)
      case atStart =>
        refine ⟨0, Nat.zero_le _, rfl, ?_, C.out⟩
        have e := gTo_get P (List.replicate l 0) k (by rw [PL.out]; exact hlt)
        have e2 := set_same _ k [] KL.out
        rw [e] at e2
        rw [cpTo_zero, RL.out, e2]
        exact M.out
      case round =>
        obtain ⟨j, hj, rfl, hM2, hC2⟩ := hrel
        by_cases hltj : j < ys.length
        · have hltj' : (j : Int) < (ys.length : Int) := by omega
          have BW2 := hide (B3.out.trans (hC2.below hs23 B3.out.size))
          obtain ⟨yb, yoff, yu, rfl, hyc, hyu⟩ := (RY.out.below BW2.out).row j hltj
          obtain ⟨y, hyy⟩ : ∃ y, y = ys.getD j 0 := ⟨_, rfl⟩
          rw [← hyy] at hyu
          subst hyu
          have hey := Gf.elOk_tests (Gf.all_of_getD.1 EY.out j hltj)
          rw [← hyy] at hey
          have hg := RG.out j hltj
          rw [← hyy] at hg
          obtain ⟨Y, rfl⟩ := Int.eq_ofNat_of_zero_le hey.1
          have hY : Y < 256 := by omega
          simp only [Int.toNat_natCast] at hg
          have hxor : bits .xor .i64 ((A : Nat) : Int) ((Y : Nat) : Int) = ((A ^^^ Y : Nat) : Int) := Gf.i64_xor _ _ (by omega) (by omega)
          have hxl : A ^^^ Y < 256 := Nat.xor_lt_two_pow (n := 8) hA hY
          obtain ⟨z, hz⟩ : ∃ z, z = Gf.inv (A ^^^ Y) := ⟨_, rfl⟩
          rw [← hz] at hg
          have CI : Hid (∀ w', Gf.Tab w' → Calls Tryd.prog 86 #[.int .i64 (bits .xor .i64 ((A : Nat) : Int) ((Y : Nat) : Int))] w' fun e w'' => e = .returned (.int .i64 ((z : Nat) : Int)) ∧ w' = w'') := by
            intro w' hT'
            rw [hxor]
            refine (Gf.inv_calls _ w' hT' (by omega) (by omega)).mono ?_
            rintro e w'' ⟨rfl, rfl⟩
            refine ⟨?_, rfl⟩
            rw [Int.toNat_natCast, hz]
          have hkl2 : k < ((gTo P (List.replicate l 0) k).set k (cpTo r j)).length := by rw [List.length_set]; exact KL.out
          have hcu := hM2.cell k hkl2
          have hro := hM2.row k hkl2
          rw [getD_set _ _ _ _ _ KL.out, if_pos rfl] at hro
          obtain ⟨u, huu⟩ : ∃ u, u = vs.getD k nilRow := ⟨_, rfl⟩
          rw [← huu] at hcu hro
          have hcl : (cpTo r j).length = l := by rw [cpTo_length r j (by rw [RL.out, HL.out]; exact hj), RL.out]
          obtain ⟨g', cap', hue, hq1, hq2, hq3, hq4⟩ := hro.open1 (by rw [hcl, HL.out]; omega)
          rw [hcl, HL.out] at hue
          rw [hue] at hcu hro huu
          obtain ⟨hf, hcell⟩ := hro.at j (by rw [hcl, HL.out]; exact hltj)
          obtain ⟨old, hold⟩ : ∃ o, o = (cpTo r j).getD j 0 := ⟨_, rfl⟩
          rw [← hold] at hcell
          have W := hide (hro.put j ((z : Nat) : Int))
          have hst : (cpTo r j).set j ((z : Nat) : Int) = cpTo r (j + 1) := by rw [← hg]; exact cpTo_step r j (by rw [RL.out, HL.out]; exact hltj)
          have ST := hide hst
          have UU := hide huu
          have M2 := hide hM2
          have C2 := hide hC2
          have TT := hide (Gf.Tab.below T.out BW2.out)
          have KL2 := hide hkl2
          have i0 : (0 : Int) ≤ (k : Int) := by omega
          have i1 : (0 : Int) ≤ (j : Int) := by omega
          clear hM2 hC2 hyy hey hg hxor hxl hz hkl2 hro huu hue hcl hold hst
          go_wp2
          go_region_with (go_at_call 86; refine (CI.out _ (by exact TT.out)).mono ?_; rintro e w' ⟨rfl, rfl⟩)
          all_goals
            go_wp2
            go_roundw
            case rel =>
              have hw := W.out
              have hgg : wr.grownBy (wr.drew.setCell ⟨g', j, none⟩ (.int .i64 ((z : Nat) : Int))) (vs.getD k nilRow).ownBlock := by
                rw [← UU.out]
                exact ⟨hw.2.os, hw.2.tape, hw.2.output, hw.2.size, hw.2.block⟩
              have ho : Own (wr.drew.setCell ⟨g', j, none⟩ (.int .i64 ((z : Nat) : Int))) w2.heap.size (vs.getD k nilRow) (cpTo r (j + 1)) := by
                rw [← UU.out, ← ST.out]
                exact hw.1.drew
              refine ⟨j + 1, by omega, by go_num, ?_, C2.out.trans (M2.out.writeChg k KL2.out hgg)⟩
              have := M2.out.write k KL2.out _ ho hgg
              rw [List.set_set] at this
              exact this
            case measure => simp [intOf]; omega
        · obtain rfl : j = ys.length := by omega
          have M2 := hide hM2
          have C2 := hide hC2
          clear hM2 hC2
          go_wp2
          go_roundw
          case rel =>
            refine ⟨k + 1, by omega, by go_num, ?_, C2.out⟩
            have := M2.out
            have e := cpTo_end r
            rw [RL.out, HL.out] at e
            rw [e, ← PK.out, gTo_step _ _ k (by rw [PL.out]; exact hlt)] at this
            exact this
          case measure => simp [intOf]; omega
    · obtain rfl : k = xs.length := by omega
      have M := hide hM
      have C := hide hC
      clear hM hC
      go_wp2
      go_ret2
      have hm := M.out
      have e := gTo_end P (List.replicate l 0)
      rw [PL.out] at e
      rw [e] at hm
      exact ⟨_, rfl, ⟨_, hm.wider hs23 C.out.size⟩, B3.out.trans (C.out.below hs23 B3.out.size)⟩

set_option maxRecDepth 100000 in
set_option maxHeartbeats 1600000 in
theorem cauchy_calls (xv yv : Value) (xs ys : List Int) (w : World) (hT : Gf.Tab w) (hx : Rd w xv xs) (hy : Rd w yv ys) :
    Calls Tryd.prog 145 #[xv, yv] w fun e w' => ∃ v', e = .returned (.tuple #[v', .bool (cauR xs ys).2]) ∧ Mat w' w.heap.size w'.heap.size v' (cauR xs ys).1 ∧ Below w.heap.size w w' := by
  by_cases hok : cauOk xs ys = true
  · have e : cauR xs ys = (cauM xs ys, true) := by simp [cauR, hok]
    rw [e]
    exact cauchy_good xv yv xs ys w hT hx hy hok
  · have e : cauR xs ys = ([], false) := by simp only [cauR, if_neg hok]
    rw [e]
    clear e hT
    have RX := hide hx
    have RY := hide hy
    obtain ⟨xa, xcap, rfl, _⟩ := hx
    obtain ⟨ya, ycap, rfl, _⟩ := hy
    cases h1 : decide (1 ≤ (xs.length : Int) ∧ (xs.length : Int) ≤ 8) with
    | false =>
      have H1 := hide h1
      clear h1
      go_enter Tryd.func145, Tryd.ntmps145
      go_wp2_with fail
      refine (isSide_calls _ _).mono ?_
      rw [H1.out]
      rintro e w' ⟨rfl, rfl⟩
      go_wp2
      go_ret2
      exact ⟨_, rfl, Mat.nil _ _ _, Below.refl _ _⟩
    | true =>
      have H1 := hide h1
      cases h2 : decide (1 ≤ (ys.length : Int) ∧ (ys.length : Int) ≤ 8) with
      | false =>
        have H2 := hide h2
        clear h1 h2
        go_enter Tryd.func145, Tryd.ntmps145
        go_wp2_with fail
        refine (isSide_calls _ _).mono ?_
        rw [H1.out]
        rintro e w' ⟨rfl, rfl⟩
        go_wp2_with fail
        refine (isSide_calls _ _).mono ?_
        rw [H2.out]
        rintro e w' ⟨rfl, rfl⟩
        go_wp2
        go_ret2
        exact ⟨_, rfl, Mat.nil _ _ _, Below.refl _ _⟩
      | true =>
        have H2 := hide h2
        have hu : unl ([xs, ys] : List (List Int)).flatten = false := by
          cases hq : unl ([xs, ys] : List (List Int)).flatten with
          | false => rfl
          | true =>
            refine absurd ?_ hok
            rw [cauOk, h1, h2]
            simpa using hq
        have U := hide hu
        have hx8 := of_decide_eq_true h1
        have hy8 := of_decide_eq_true h2
        clear h1 h2 hu hok
        go_enter Tryd.func145, Tryd.ntmps145
        go_wp2_with fail
        refine (isSide_calls _ _).mono ?_
        rw [H1.out]
        rintro e w' ⟨rfl, rfl⟩
        go_wp2_with fail
        refine (isSide_calls _ _).mono ?_
        rw [H2.out]
        rintro e w' ⟨rfl, rfl⟩
        go_wp2_with fail
        refine (areUnlike_calls _ [xs, ys] _ (rdM_pair RX.out RY.out) (by simp) (fun i hi => by simp at hi; match i, hi with | 0, _ => (show xs.length ≤ _; omega) | 1, _ => (show ys.length ≤ _; omega))).mono ?_
        rw [U.out]
        rintro e w2 ⟨rfl, hb2⟩
        have h0 : Below w.heap.size w (w.alloc (.cells #[.slice xa xs.length xcap, .slice ya ys.length ycap] 22)) := (Below.refl _ _).alloc (Nat.le_refl _) _
        have B2 := hide (h0.trans (hb2.mono h0.size))
        clear hb2 h0
        go_wp2
        go_ret2
        exact ⟨_, rfl, Mat.nil _ _ _, B2.out⟩

end Go.Proofs.YtogopakmebiomaaDoor

namespace Go.Proofs.YtogopakmebiomaaDoor
open Go.RowKit
open Gf (ci nat ciM Sh AllLt dotTo solN identN colN colL invTo joinN clr opM hOf fOf piv)

namespace Gf
theorem dot_app {r s z y : List Nat} {n : Nat} (hr : r.length = n) (hz : z.length = n) : ∀ m, dotTo (r ++ s) (z ++ y) (n + m) = dotTo r z n ^^^ dotTo s y m := by
  have low : ∀ k, k ≤ n → dotTo (r ++ s) (z ++ y) k = dotTo r z k := by
    intro k
    induction k with
    | zero => intro _; rfl
    | succ k ih => intro h; rw [dotTo, dotTo, ih (by omega), getD_app_left _ _ _ (by omega), getD_app_left _ _ _ (by omega)]
  intro m
  induction m with
  | zero => rw [Nat.add_zero, low n (Nat.le_refl _)]; simp [dotTo]
  | succ m ih =>
    have e1 : (r ++ s).getD (n + m) 0 = s.getD m 0 := by rw [List.getD_eq_getElem?_getD, List.getElem?_append_right (by omega), hr, Nat.add_sub_cancel_left, ← List.getD_eq_getElem?_getD]
    have e2 : (z ++ y).getD (n + m) 0 = y.getD m 0 := by rw [List.getD_eq_getElem?_getD, List.getElem?_append_right (by omega), hz, Nat.add_sub_cancel_left, ← List.getD_eq_getElem?_getD]
    rw [← Nat.add_assoc, dotTo, ih, dotTo, e1, e2, Nat.xor_assoc]
/-- What the reduced pair, joined, takes to noughts the pair does. -/
theorem pair_kern {A S : List (List Nat)} {n c d : Nat} {z : List Nat} (ha : Sh A n c) (hs : Sh S n d) (hz : AllLt z) : ∀ k, k ≤ n → ∀ q, invTo A S k = some q → (∀ i, i < n → dotTo ((joinN q.1 q.2).getD i []) z (c + d) = 0) → ∀ i, i < n → dotTo ((joinN A S).getD i []) z (c + d) = 0 := by
  intro k
  induction k with
  | zero => intro _ q h hh; simp only [invTo, Option.some.injEq] at h; subst h; exact hh
  | succ k ih =>
    intro hk q h hh
    rw [invTo] at h
    cases e : invTo A S k with
    | none => rw [e] at h; simp at h
    | some r =>
      obtain ⟨h1, h2⟩ := invTo_sh ha hs k (by omega) r e
      rw [e] at h
      simp only [] at h
      cases e2 : piv r.1 k k with
      | none => rw [e2] at h; simp at h
      | some p =>
        rw [e2] at h
        simp only [Option.some.injEq] at h
        subst h
        obtain ⟨_, p2, p3⟩ := piv_facts e2
        rw [h1.len] at p2
        have hj := h1.join h2
        refine ih (by omega) r e (op_kern (at_ := k) (p := p) (x := hOf r.1 k p) (fs := fOf r.1 k k p) hj (by omega) p2 (h1.elt p k) p3 (fun i => (h1.swap k p (by omega) p2).elt i k) hz ?_)
        rw [op_join h1 h2 (by omega) p2]
        exact hh
theorem dot_identRow {r z : List Nat} {n i : Nat} (hz : AllLt z) (hU : ∀ j, j < n → r.getD j 0 = if i = j then 1 else 0) : ∀ k, k ≤ n → dotTo r z k = if i < k then z.getD i 0 else 0 := by
  intro k
  induction k with
  | zero => intro _; simp [dotTo]
  | succ k ih =>
    intro h
    rw [dotTo, ih (by omega), hU k (by omega)]
    by_cases e : i = k
    · subst e; rw [if_pos rfl, one_mul _ (hz i), if_neg (by omega), if_pos (by omega), Nat.zero_xor]
    · rw [if_neg e, zero_mul (hz k), Nat.xor_zero]
      by_cases h2 : i < k
      · rw [if_pos h2, if_pos (by omega)]
      · rw [if_neg h2, if_neg (by omega)]
/-- The answer by rows solves: each row times it is what was asked there. -/
theorem solve_right {A : List (List Nat)} {V : List Nat} {n : Nat} (ha : Sh A n n) (hV : AllLt V) (hl : V.length = n) (hok : (solN A (colN V)).2 = true) :
    ∀ i, i < n → dotTo (A.getD i []) ((solN A (colN V)).1.map fun r => r.getD 0 0) n = V.getD i 0 := by
  have hc : Sh (colN V) n 1 := sh_col hl hV
  cases e : invTo A (colN V) n with
  | none => unfold solN at hok; rw [ha.len, e] at hok; cases hok
  | some q =>
    obtain ⟨h1, h2⟩ := invTo_sh ha hc n (Nat.le_refl _) q e
    have hs : solN A (colN V) = (q.2, true) := by unfold solN; rw [ha.len, e]
    rw [hs]
    simp only []
    obtain ⟨s, hsd⟩ : ∃ s, s = q.2.map fun r => r.getD 0 0 := ⟨_, rfl⟩
    rw [← hsd]
    have sl : s.length = n := by rw [hsd, List.length_map, h2.len]
    have sg : ∀ i, i < n → s.getD i 0 = (q.2.getD i []).getD 0 0 := fun i hi => by rw [hsd, map_get _ _ _ _ (by rw [h2.len]; exact hi)]
    have slt : AllLt s := by
      intro j
      by_cases hj : j < n
      · rw [sg j hj]; exact h2.elt j 0
      · rw [List.getD_eq_getElem?_getD, List.getElem?_eq_none (by omega)]; decide
    have zlt : AllLt (s ++ [1]) := allLt_app slt (by intro j; cases j <;> simp)
    have U := inv_unit ha hc (Nat.le_refl _) n (Nat.le_refl _) q e
    have hq : ∀ i, i < n → dotTo ((joinN q.1 q.2).getD i []) (s ++ [1]) (n + 1) = 0 := by
      intro i hi
      rw [joinN_get _ _ _ (by rw [h1.len]; exact hi), dot_app (h1.row i hi) sl 1, dot_identRow slt (fun j hj => U i j hi hj) n (Nat.le_refl _), if_pos hi, dotTo, dotTo, Nat.zero_xor]
      have e1 : ([1] : List Nat).getD 0 0 = 1 := rfl
      rw [e1, mul_one _ (h2.elt i 0), sg i hi, Nat.xor_self]
    intro i hi
    have := pair_kern ha hc zlt n (Nat.le_refl _) q e hq i hi
    rw [joinN_get _ _ _ (by rw [ha.len]; exact hi), dot_app (ha.row i hi) sl 1, dotTo, dotTo, Nat.zero_xor] at this
    have e1 : ([1] : List Nat).getD 0 0 = 1 := rfl
    have e2 : ((colN V).getD i []).getD 0 0 = V.getD i 0 := by simp [colN, List.getD_eq_getElem?_getD, hl, hi]
    rw [e1, e2, mul_one _ (hV i)] at this
    exact xor_zero_eq this
end Gf
/-- Of Cauchy's matrix of unlike elements, as many rows as columns, there is an inverse. -/
theorem cau_inv {xs ys : List Int} {n : Nat} (hx : xs.length = n) (hy : ys.length = n) (hn : 1 ≤ n) (hn8 : n ≤ 8) (hu : unl (xs ++ ys) = true) : (invR (cauM xs ys)).2 = true := by
  obtain ⟨ex, ey⟩ := unl_parts hu
  have hrow : ∀ i, i < n → (cauM xs ys).getD i [] = cauRow (xs.getD i 0) ys := fun i hi => cauM_get _ _ _ (by rw [hx]; exact hi)
  have hel : ∀ i, i < n → ((cauM xs ys).getD i []).all Gf.elOk = true := fun i hi => by
    rw [hrow i hi]
    refine Gf.all_of_getD.2 fun j hj => ?_
    rw [cauRow_length] at hj
    rw [cauRow_get _ _ _ hj]
    have := Gf.inv_lt ((xs.getD i 0).toNat ^^^ (ys.getD j 0).toNat)
    simp only [Gf.elOk, decide_eq_true_eq]
    omega
  have hlen : (cauM xs ys).length = n := by rw [cauM_length, hx]
  have hr0 : ((cauM xs ys).getD 0 []).length = n := by rw [hrow 0 (by omega), cauRow_length, hy]
  have hg : goodM (cauM xs ys) = true := by
    unfold goodM
    simp only [Bool.and_eq_true]
    refine ⟨?_, ?_, ?_, ?_⟩
    · rw [hlen]; exact decide_eq_true (by omega)
    · rw [hr0]; exact decide_eq_true (by omega)
    · refine all_yes (d := []) fun i hi => ?_
      rw [hlen] at hi
      rw [hr0, hrow i hi, cauRow_length, hy]
      simp
    · refine all_yes (d := []) fun i hi => ?_
      rw [hlen] at hi
      exact hel i hi
  have hsq : sqOk (cauM xs ys) = true := by rw [sqOk, hg, hlen, hr0]; simp
  unfold invR
  rw [if_pos hsq]
  simp only []
  have hsh := sh_sq hsq
  rw [hlen] at hsh ⊢
  have nd : (xs ++ ys).Pairwise (· ≠ ·) := by
    unfold unl at hu
    simp only [Bool.and_eq_true, decide_eq_true_eq] at hu
    exact hu.1
  rw [List.pairwise_append] at nd
  obtain ⟨ndx, ndy, ndxy⟩ := nd
  have pw : ∀ (l : List Int), l.Pairwise (· ≠ ·) → l.all Gf.elOk = true → ∀ i j, i < l.length → j < l.length → i ≠ j → (l.getD i 0).toNat ≠ (l.getD j 0).toNat := by
    intro l hp he i j hi hj hij hh
    have a1 := Gf.elOk_tests (Gf.all_of_getD.1 he i hi)
    have a2 := Gf.elOk_tests (Gf.all_of_getD.1 he j hj)
    have e : l.getD i 0 = l.getD j 0 := by omega
    rw [List.getD_eq_getElem?_getD, List.getD_eq_getElem?_getD, List.getElem?_eq_getElem hi, List.getElem?_eq_getElem hj, Option.getD_some, Option.getD_some] at e
    rw [List.pairwise_iff_getElem] at hp
    rcases Nat.lt_or_gt_of_ne hij with h | h
    · exact hp i j hi hj h e
    · exact hp j i hj hi h e.symm
  have bd : ∀ (l : List Int), l.all Gf.elOk = true → ∀ i, (l.getD i 0).toNat < 256 := by
    intro l he i
    by_cases hi : i < l.length
    · have := Gf.elOk_tests (Gf.all_of_getD.1 he i hi); omega
    · rw [List.getD_eq_getElem?_getD, List.getElem?_eq_none (by omega)]; decide
  refine Gf.solN_ok hsh (Gf.sh_ident n) fun z hzl hz hk j hj => ?_
  refine Gf.cauchy_zero n (fun i => (xs.getD i 0).toNat) (fun j => (ys.getD j 0).toNat) (fun j => z.getD j 0) (bd xs ex) (bd ys ey) hz (fun i j hi hj => pw xs ndx ex i j (by omega) (by omega)) (fun i j hi hj => pw ys ndy ey i j (by omega) (by omega)) ?_ ?_ j hj
  · intro i j hi hj hh
    have a1 := Gf.elOk_tests (Gf.all_of_getD.1 ex i (by omega))
    have a2 := Gf.elOk_tests (Gf.all_of_getD.1 ey j (by omega))
    have e : xs.getD i 0 = ys.getD j 0 := by omega
    have m1 : xs.getD i 0 ∈ xs := by rw [List.getD_eq_getElem?_getD, List.getElem?_eq_getElem (by omega), Option.getD_some]; exact List.getElem_mem _
    have m2 : ys.getD j 0 ∈ ys := by rw [List.getD_eq_getElem?_getD, List.getElem?_eq_getElem (by omega), Option.getD_some]; exact List.getElem_mem _
    exact ndxy _ m1 _ m2 e
  · intro i hi
    have := hk i hi
    rw [Gf.dot_cs (x := (xs.getD i 0).toNat) (y := fun j => (ys.getD j 0).toNat) hz n (fun j hj => by
      rw [natM_get, hrow i hi]
      have h1 := Gf.ci_getD (nat (cauRow (xs.getD i 0) ys)) j
      rw [Gf.ci_nat (by have := hel i hi; rwa [hrow i hi] at this), cauRow_get _ _ _ (by omega)] at h1
      omega)] at this
    exact this
end Go.Proofs.YtogopakmebiomaaDoor

namespace Go.Proofs.YtogopakmebiomaaDoor
open Go.RowKit
open Gf (ci nat ciM colN colL solN identN dotTo AllLt Sh)

theorem unl_sub {l l' : List Int} (h : l'.Sublist l) (hu : unl l = true) : unl l' = true := by
  unfold unl at hu ⊢
  simp only [Bool.and_eq_true, decide_eq_true_eq, List.all_eq_true] at hu ⊢
  exact ⟨hu.1.sublist h, fun x hx => hu.2 x (h.subset hx)⟩

theorem cau_part {xs ys : List Int} {p n : Nat} (h : cauOk xs ys = true) (hn : 1 ≤ n) (hy : n ≤ ys.length) (hx : p + n ≤ xs.length) :
    cauOk ((xs.drop p).take n) (ys.drop (ys.length - n)) = true ∧ (invR (cauM ((xs.drop p).take n) (ys.drop (ys.length - n)))).2 = true := by
  obtain ⟨⟨h1, h2⟩, ⟨h3, h4⟩, hu⟩ := cauOk_facts h
  have lx : ((xs.drop p).take n).length = n := by simp; omega
  have ly : (ys.drop (ys.length - n)).length = n := by simp; omega
  have hu' : unl ((xs.drop p).take n ++ ys.drop (ys.length - n)) = true :=
    unl_sub (List.Sublist.append ((List.take_sublist _ _).trans (List.drop_sublist _ _)) (List.drop_sublist _ _)) hu
  refine ⟨?_, cau_inv lx ly hn (by omega) hu'⟩
  simp only [cauOk, Bool.and_eq_true, decide_eq_true_eq]
  exact ⟨by omega, by omega, hu'⟩

theorem el_at {xs : List Int} (h : xs.all Gf.elOk = true) (i : Nat) : 0 ≤ xs.getD i 0 ∧ xs.getD i 0 ≤ 255 := by
  by_cases hi : i < xs.length
  · exact Gf.elOk_iff.1 (Gf.all_of_getD.1 h i hi)
  · rw [List.getD_eq_getElem?_getD, List.getElem?_eq_none (by omega)]; simp

theorem cau_one {xs ys : List Int} (h : cauOk xs ys = true) {i k : Nat} (hi : i < xs.length) (hk : k < ys.length) :
    ∃ a x y : Nat, a < 256 ∧ x < 256 ∧ y < 256 ∧ ((cauM xs ys).getD i []).getD k 0 = (a : Int) ∧ xs.getD i 0 = (x : Int) ∧ ys.getD k 0 = (y : Int) ∧ bits .xor .i64 (x : Int) (y : Int) = ((x ^^^ y : Nat) : Int) ∧ x ^^^ y < 256 ∧ Gf.mul a (x ^^^ y) = 1 := by
  obtain ⟨_, _, hu⟩ := cauOk_facts h
  obtain ⟨ex, ey⟩ := unl_parts hu
  have bx := el_at ex i
  have bY := el_at ey k
  have nd : (xs ++ ys).Pairwise (· ≠ ·) := by
    unfold unl at hu
    simp only [Bool.and_eq_true, decide_eq_true_eq] at hu
    exact hu.1
  have hne : xs.getD i 0 ≠ ys.getD k 0 := by
    have := (List.pairwise_append.1 nd).2.2 xs[i] (List.getElem_mem hi) ys[k] (List.getElem_mem hk)
    simpa [List.getD_eq_getElem?_getD, hi, hk] using this
  obtain ⟨x, hx⟩ : ∃ x, x = (xs.getD i 0).toNat := ⟨_, rfl⟩
  obtain ⟨y, hy⟩ : ∃ y, y = (ys.getD k 0).toNat := ⟨_, rfl⟩
  have x256 : x < 256 := by omega
  have y256 : y < 256 := by omega
  have n0 : x ^^^ y ≠ 0 := fun e => hne (by have := Gf.xor_zero_eq e; omega)
  have xl := Gf.xor_lt x256 y256
  refine ⟨Gf.inv (x ^^^ y), x, y, Gf.inv_lt _, x256, y256, ?_, by omega, by omega, Gf.xor_o x256 y256, xl, ?_⟩
  · rw [cauM_get _ _ _ hi, cauRow_get _ _ _ hk, hx, hy]
  · rw [Gf.mul_comm _ _ (Gf.inv_lt _) xl]
    exact Gf.mul_inv _ xl n0

theorem nat_ci (l : List Nat) : nat (ci l) = l := by
  unfold Gf.nat Gf.ci
  rw [List.map_map]
  conv => rhs; rw [← List.map_id l]
  apply List.map_congr_left
  intro a _
  simp

theorem slv_facts {m : List (List Int)} {v : List Int} (h : (slvR m v).2 = true) :
    ∃ S : List Nat, (slvR m v).1 = ci S ∧ S.length = m.length ∧ v.length = m.length ∧ m.length ≤ 8 ∧ AllLt S ∧ v.all Gf.elOk = true ∧
      (∀ i, i < m.length → (m.getD i []).length = m.length ∧ (m.getD i []).all Gf.elOk = true) ∧ ∀ i, i < m.length → dotTo (nat (m.getD i [])) S m.length = (v.getD i 0).toNat := by
  unfold slvR at h ⊢
  by_cases hok : slvOk m v = true
  · rw [if_pos hok] at h ⊢
    simp only [] at h ⊢
    simp only [slvOk, Bool.and_eq_true, decide_eq_true_eq] at hok
    obtain ⟨hsq, hvl, hve⟩ := hok
    obtain ⟨hg, hs0⟩ := sqOk_facts hsq
    obtain ⟨g1, g2, g3, g4, g5⟩ := goodM_rows hg
    have ha := sh_sq hsq
    have hI := Gf.sh_ident m.length
    have hV : AllLt (nat v) := by
      intro j
      have := el_at hve j
      have e : (nat v).getD j 0 = (v.getD j 0).toNat := by
        unfold Gf.nat
        by_cases hj : j < v.length
        · simp [List.getD_eq_getElem?_getD, hj]
        · simp [List.getD_eq_getElem?_getD, hj]
      rw [e]
      omega
    have hVl : (nat v).length = m.length := by unfold Gf.nat; rw [List.length_map]; exact hvl
    cases e : Gf.invTo (m.map nat) (identN m.length) m.length with
    | none => unfold Gf.solN at h; rw [ha.len, e] at h; cases h
    | some q =>
      obtain ⟨h1, h2⟩ := Gf.invTo_sh ha hI m.length (Nat.le_refl _) q e
      have hs : solN (m.map nat) (identN m.length) = (q.2, true) := by unfold Gf.solN; rw [ha.len, e]
      have hc : solN (m.map nat) (colN (nat v)) = (q.2.map (colL (nat v) m.length), true) := by
        rw [Gf.col_ident hV hVl, Gf.solN_map (Gf.lin_col hV) ha hI, hs]
      have hr := Gf.solve_right ha hV hVl (by rw [hc])
      rw [hc] at hr
      simp only [] at hr
      have em : (q.2.map (colL (nat v) m.length)).map (fun r => r.getD 0 0) = mulC q.2 (nat v) := by
        unfold mulC
        rw [List.map_map, hVl]
        rfl
      rw [em] at hr
      rw [hs]
      simp only []
      refine ⟨_, rfl, by unfold mulC; rw [List.length_map, h2.len], hvl, g2, ?_, hve, fun i hi => ⟨by rw [(g5 i hi).1, ← hs0], (g5 i hi).2⟩, fun i hi => ?_⟩
      · intro j
        unfold mulC
        by_cases hj : j < q.2.length
        · have : (q.2.map fun r => dotTo r (nat v) (nat v).length).getD j 0 = dotTo (q.2.getD j []) (nat v) (nat v).length := by simp [List.getD_eq_getElem?_getD, hj]
          rw [this]
          exact Gf.dotTo_lt (fun k => h2.elt j k) _
        · rw [List.getD_eq_getElem?_getD, List.getElem?_eq_none (by simp; omega)]; decide
      · have := hr i hi
        have e1 : (m.map nat).getD i [] = nat (m.getD i []) := by simp [List.getD_eq_getElem?_getD, hi]
        have e2 : (nat v).getD i 0 = (v.getD i 0).toNat := by unfold Gf.nat; simp [List.getD_eq_getElem?_getD, hvl, hi]
        rw [e1, e2] at this
        exact this
  · rw [if_neg hok] at h
    cases h
end Go.Proofs.YtogopakmebiomaaDoor

namespace Go.Proofs.YtogopakmebiomaaDoor
open Go.RowKit
namespace Gf

theorem own_nil (w : World) (base : Nat) : Own w base (.slice none 0 0) [] := World.ownsRow_nil _ _ _ _
theorem mulR_badx {xs ys : List Int} (h : goodP xs = false) : mulR xs ys = ([], false) := by simp [mulR, h]
theorem mulR_bady {xs ys : List Int} (h : goodP ys = false) : mulR xs ys = ([], false) := by simp [mulR, h]
theorem mulR_empty {xs ys : List Int} (hx : goodP xs = true) (hy : goodP ys = true) (h : xs.length = 0 ∨ ys.length = 0) : mulR xs ys = ([], true) := by
  unfold mulR
  rw [if_pos ⟨hx, hy⟩, if_pos h]
theorem mulR_long {xs ys : List Int} (hx : goodP xs = true) (hy : goodP ys = true) (h : ¬ (xs.length = 0 ∨ ys.length = 0)) (hl : 40 < xs.length + ys.length - 1) : mulR xs ys = ([], false) := by
  unfold mulR
  rw [if_pos ⟨hx, hy⟩, if_neg h, if_pos hl]
theorem mulR_fit {xs ys : List Int} (hx : goodP xs = true) (hy : goodP ys = true) (h : ¬ (xs.length = 0 ∨ ys.length = 0)) (hl : ¬ 40 < xs.length + ys.length - 1) :
    mulR xs ys = (ci (mp (nat xs) (nat ys) (List.replicate (xs.length + ys.length - 1) 0) xs.length), true) := by
  unfold mulR
  rw [if_pos ⟨hx, hy⟩, if_neg h, if_neg hl]

set_option maxRecDepth 100000 in
set_option maxHeartbeats 1600000 in
theorem mulPoly_calls (pv qv : Value) (xs ys : List Int) (w : World) (hT : Tab w) (hp : Rd w pv xs) (hq : Rd w qv ys) :
    Calls Tryd.prog 66 #[pv, qv] w fun e w' => ∃ v', e = .returned (.tuple #[v', .bool (mulR xs ys).2]) ∧ Own w' w.heap.size v' (mulR xs ys).1 ∧ Below w.heap.size w w' := by
  have T := hide hT
  have P := hide hp
  have Q := hide hq
  clear hT hp hq
  cases hgx : goodP xs with
  | false =>
    have G := hide hgx
    rw [mulR_badx hgx]
    clear hgx
    go_enter Tryd.func66, Tryd.ntmps66
    go_wp2_with (go_at_call 124; refine (isPoly_calls pv xs _ P.out).mono ?_; rw [G.out]; rintro e w' ⟨rfl, rfl⟩)
    go_ret2
    exact ⟨_, rfl, own_nil _ _, Below.refl _ _⟩
  | true =>
    have G := hide hgx
    cases hgy : goodP ys with
    | false =>
      have G2 := hide hgy
      rw [mulR_bady hgy]
      clear hgx hgy
      go_enter Tryd.func66, Tryd.ntmps66
      go_wp2_with fail
      refine (isPoly_calls pv xs _ P.out).mono ?_
      rw [G.out]
      rintro e w' ⟨rfl, rfl⟩
      go_wp2_with fail
      refine (isPoly_calls qv ys _ Q.out).mono ?_
      rw [G2.out]
      rintro e w' ⟨rfl, rfl⟩
      go_wp2
      go_ret2
      exact ⟨_, rfl, own_nil _ _, Below.refl _ _⟩
    | true =>
      have G2 := hide hgy
      have lx := goodP_len hgx
      have ly := goodP_len hgy
      obtain ⟨pa, pcap, rfl, _, _, _⟩ := P.out
      obtain ⟨qa, qcap, rfl, _, _, _⟩ := Q.out
      by_cases he : xs.length = 0 ∨ ys.length = 0
      · rw [mulR_empty hgx hgy he]
        clear hgx hgy
        by_cases h0 : xs.length = 0
        · have t1 : ((xs.length : Int) == 0) = true := by simp [h0]
          clear he h0
          go_enter Tryd.func66, Tryd.ntmps66
          go_wp2_with fail
          refine (isPoly_calls _ xs _ P.out).mono ?_
          rw [G.out]
          rintro e w' ⟨rfl, rfl⟩
          go_wp2_with fail
          refine (isPoly_calls _ ys _ Q.out).mono ?_
          rw [G2.out]
          rintro e w' ⟨rfl, rfl⟩
          go_wp2
          go_ret2
          exact ⟨_, rfl, own_nil _ _, Below.refl _ _⟩
        · have t1 : ((xs.length : Int) == 0) = false := by simp; intro e; simp [e] at h0
          have t2 : ((ys.length : Int) == 0) = true := by simp; rcases he with h | h
                                                          · exact absurd h h0
                                                          · exact List.eq_nil_of_length_eq_zero h
          clear he h0
          go_enter Tryd.func66, Tryd.ntmps66
          go_wp2_with fail
          refine (isPoly_calls _ xs _ P.out).mono ?_
          rw [G.out]
          rintro e w' ⟨rfl, rfl⟩
          go_wp2_with fail
          refine (isPoly_calls _ ys _ Q.out).mono ?_
          rw [G2.out]
          rintro e w' ⟨rfl, rfl⟩
          go_wp2
          go_ret2
          exact ⟨_, rfl, own_nil _ _, Below.refl _ _⟩
      · have t1 : ((xs.length : Int) == 0) = false := by simp; intro e; simp [e] at he
        have t2 : ((ys.length : Int) == 0) = false := by simp; intro e; simp [e] at he
        have p1 : 0 < xs.length := by omega
        have p2 : 0 < ys.length := by omega
        by_cases hl : 40 < xs.length + ys.length - 1
        · rw [mulR_long hgx hgy he hl]
          have t3 : (40 : Int) < (xs.length : Int) + (ys.length : Int) - 1 := by omega
          clear hgx hgy he hl
          go_enter Tryd.func66, Tryd.ntmps66
          go_wp2_with fail
          refine (isPoly_calls _ xs _ P.out).mono ?_
          rw [G.out]
          rintro e w' ⟨rfl, rfl⟩
          go_wp2_with fail
          refine (isPoly_calls _ ys _ Q.out).mono ?_
          rw [G2.out]
          rintro e w' ⟨rfl, rfl⟩
          go_wp2
          go_ret2
          exact ⟨_, rfl, own_nil _ _, Below.refl _ _⟩
        · rw [mulR_fit hgx hgy he hl]
          have t3 : ¬ (40 : Int) < (xs.length : Int) + (ys.length : Int) - 1 := by omega
          have GX := hide (goodP_mem hgx)
          have GY := hide (goodP_mem hgy)
          obtain ⟨n, hn⟩ : ∃ n, n = xs.length + ys.length - 1 := ⟨_, rfl⟩
          rw [← hn]
          have en : (xs.length : Int) + (ys.length : Int) - 1 = (n : Int) := by omega
          have hn40 : n ≤ 40 := by omega
          have HN := hide hn
          clear hgx hgy he hl hn
          go_enter Tryd.func66, Tryd.ntmps66
          go_wp2_with fail
          refine (isPoly_calls _ xs _ P.out).mono ?_
          rw [G.out]
          rintro e w' ⟨rfl, rfl⟩
          go_wp2_with fail
          refine (isPoly_calls _ ys _ Q.out).mono ?_
          rw [G2.out]
          rintro e w' ⟨rfl, rfl⟩
          go_wp2_with (at_make; refine wpList_make_ints rfl _ _ rfl w.heap.size _ _ n rfl rfl (by omega) (by omega) (by omega) (Nat.le_refl _) ?_; intro w0 hown0 hgrow0)
          have B0 := hide ((Below.refl w.heap.size w).grown hgrow0 (Nat.le_refl _) (fun k h => by cases h))
          have O0 : Hid (w0.ownsRow w.heap.size 3 1 (.slice (some ⟨w.heap.size, 0, none⟩) n n) n ((ci (mp (nat xs) (nat ys) (List.replicate n 0) 0)).map (Value.int .i64))) := by
            have := hown0
            unfold Own at this
            rw [List.length_replicate] at this
            have e : (ci (mp (nat xs) (nat ys) (List.replicate n 0) 0)).map (Value.int .i64) = (List.replicate n (0 : Int)).map (Value.int .i64) := by simp [mp, ci]
            rw [← e] at this
            exact this
          clear hown0 hgrow0
          go_loopw [41] (fun vi wr => ∃ k : Nat, k ≤ xs.length ∧ vi = .int .i64 k ∧ wr.ownsRow w.heap.size 3 1 (.slice (some ⟨w.heap.size, 0, none⟩) n n) n ((ci (mp (nat xs) (nat ys) (List.replicate n 0) k)).map (Value.int .i64)) ∧ Below w.heap.size w wr) (fun vi _ => xs.length - (intOf vi).toNat)
          case atStart => exact ⟨0, Nat.zero_le _, rfl, O0.out, B0.out⟩
          case round =>
            obtain ⟨k, hk, rfl, hown, hb⟩ := hrel
            by_cases hlt : k < xs.length
            · have hRd := P.out.below hb
              obtain ⟨pa', pcap', hv, _, _, h3⟩ := hRd
              have hv2 : pa' = pa := by simp at hv; exact hv.1.symm
              subst hv2
              clear hv
              rcases h3 with h3 | ⟨b, off, rfl, hbs, hc⟩
              · subst h3; simp at hlt
              have hc1 := hc k hlt
              clear hc
              obtain ⟨z, hz⟩ : ∃ z, z = xs.getD k 0 := ⟨_, rfl⟩
              have hzb : 0 ≤ z ∧ z ≤ 255 := by rw [hz]; exact goodP_all G.out k hlt
              rw [← hz] at hc1
              have hzn : Hid (z.toNat = (nat xs).getD k 0) := by
                show z.toNat = _
                rw [hz]
                simp only [nat, List.getD_eq_getElem?_getD, List.getElem?_map]
                cases xs[k]? <;> simp
              clear hz
              have O := hide hown
              have Bk := hide hb
              clear hown hb
              have hlen : (mp (nat xs) (nat ys) (List.replicate n 0) k).length = n := by rw [mp_length, List.length_replicate]
              have HL := hide hlen
              clear hlen
              have keep : Hid (∀ w', wr.grownBy w' (some w.heap.size) → Below w.heap.size w w') := fun w' hg => Bk.out.grown hg Bk.out.size (fun k h => by simp at h; omega)
              go_wp2_with fail
              refine (addMultiple_calls _ _ (mp (nat xs) (nat ys) (List.replicate n 0) k) (nat ys) _ _ w.heap.size _ (fun w' hg => T.out.below (keep.out w' hg)) ?o1 ?q1 hzb.1 (by omega) (by omega) ?f1 ?f2 (mp_lt (allLt_zeros n) (nat_ltp GX.out) k) (nat_ltp GY.out) ?f3).mono ?_
              case o1 =>
                show World.ownsRow _ _ _ _ _ (ci _).length _
                rw [ci_length, HL.out]
                exact O.out
              case q1 =>
                intro w' hg
                rw [ci_natp GY.out]
                exact Q.out.below (keep.out w' hg)
              case f1 => rw [nat_length, HL.out]; have := HN.out; omega
              case f2 => rw [HL.out]; omega
              case f3 => rw [HL.out]; omega
              rintro e w2 ⟨rfl, hown2, hg2⟩
              have O2 : Hid (w2.ownsRow w.heap.size 3 1 (.slice (some ⟨w.heap.size, 0, none⟩) n n) n ((ci (mp (nat xs) (nat ys) (List.replicate n 0) (k + 1))).map (Value.int .i64))) := by
                have h := hown2
                unfold Own at h
                rw [ci_length, amTo_length, HL.out, hzn.out, Int.toNat_natCast] at h
                exact h
              have B2 := hide (keep.out w2 hg2)
              clear hown2 hg2
              go_wp2
              go_roundw
              case rel => exact ⟨k + 1, by omega, by go_num, O2.out, B2.out⟩
              case measure => simp [intOf]; omega
            · obtain rfl : k = xs.length := by omega
              go_wp2
              go_ret2
              refine ⟨_, rfl, ?_, hb⟩
              show World.ownsRow _ _ _ _ _ (ci _).length _
              rw [ci_length, mp_length, List.length_replicate]
              exact hown

theorem own_cell {w : World} {base g n cap : Nat} {l : List Nat} (h : w.ownsRow base 3 1 (.slice (some ⟨g, 0, none⟩) n cap) n ((ci l).map (Value.int .i64))) (i : Nat) (hi : i < l.length) :
    w.cell? ⟨g, i, none⟩ = some (.int .i64 (l.getD i 0 : Nat)) := by
  have hn : l.length = n := by have := h.1; simpa [ci] using this
  rw [h.cellAt i (by omega), List.getElem?_map]
  have hl : i < (ci l).length := by rw [ci_length]; exact hi
  rw [List.getElem?_eq_getElem hl]
  have := ci_getD l i
  rw [List.getD_eq_getElem?_getD, List.getElem?_eq_getElem hl, Option.getD_some] at this
  rw [this]; rfl

set_option maxRecDepth 100000 in
set_option maxHeartbeats 1600000 in
theorem l1MulPoly_calls (pv qv : Value) (xs ys : List Int) (w : World) (hp : Rd w pv xs) (hq : Rd w qv ys) (hx : goodP xs = true) (hy : goodP ys = true) :
    Calls Tryd.prog 122 #[pv, qv] w fun e w' => ∃ v', e = .returned v' ∧ Own w' w.heap.size v' (cutL (ci (mp (nat xs) (nat ys) (List.replicate (xs.length + ys.length) 0) xs.length))) ∧ Below w.heap.size w w' := by
  have P := hide hp
  have Q := hide hq
  have GX := hide (goodP_mem hx)
  have GY := hide (goodP_mem hy)
  have lx := goodP_len hx
  have ly := goodP_len hy
  have AX := hide (goodP_all hx)
  have AY := hide (goodP_all hy)
  clear hx hy
  obtain ⟨pa, pcap, rfl, _, _, _⟩ := hp
  obtain ⟨qa, qcap, rfl, _, _, _⟩ := hq
  obtain ⟨n, hn⟩ : ∃ n, n = xs.length + ys.length := ⟨_, rfl⟩
  rw [← hn]
  have en : (xs.length : Int) + (ys.length : Int) = (n : Int) := by omega
  have hn80 : n ≤ 80 := by omega
  have HN := hide hn
  clear hn
  go_enter Tryd.func122, Tryd.ntmps122
  go_wp2_with (at_make; refine wpList_make_ints rfl _ _ rfl w.heap.size _ _ n rfl rfl (by omega) (by omega) (by omega) (Nat.le_refl _) ?_; intro w0 hown0 hgrow0)
  have B0 := hide ((Below.refl w.heap.size w).grown hgrow0 (Nat.le_refl _) (fun k h => by cases h))
  have O0 : Hid (w0.ownsRow w.heap.size 3 1 (.slice (some ⟨w.heap.size, 0, none⟩) n n) n ((ci (mp (nat xs) (nat ys) (List.replicate n 0) 0)).map (Value.int .i64))) := by
    have := hown0
    unfold Own at this
    rw [List.length_replicate] at this
    have e : (ci (mp (nat xs) (nat ys) (List.replicate n 0) 0)).map (Value.int .i64) = (List.replicate n (0 : Int)).map (Value.int .i64) := by simp [mp, ci]
    rw [← e] at this
    exact this
  clear hown0 hgrow0
  go_loopw [18] (fun vi wr => ∃ k : Nat, k ≤ xs.length ∧ vi = .int .i64 k ∧ wr.ownsRow w.heap.size 3 1 (.slice (some ⟨w.heap.size, 0, none⟩) n n) n ((ci (mp (nat xs) (nat ys) (List.replicate n 0) k)).map (Value.int .i64)) ∧ Below w.heap.size w wr) (fun vi _ => xs.length - (intOf vi).toNat)
  case atStart => exact ⟨0, Nat.zero_le _, rfl, O0.out, B0.out⟩
  case round =>
    obtain ⟨k, hk, rfl, hown, hb⟩ := hrel
    by_cases hlt : k < xs.length
    · have hRd := P.out.below hb
      obtain ⟨pa', pcap', hv, _, _, h3⟩ := hRd
      have hv2 : pa' = pa := by simp at hv; exact hv.1.symm
      subst hv2
      clear hv
      rcases h3 with h3 | ⟨b, off, rfl, hbs, hc⟩
      · subst h3; simp at hlt
      have hc1 := hc k hlt
      clear hc
      obtain ⟨F, hF⟩ : ∃ F, F = (nat xs).getD k 0 := ⟨_, rfl⟩
      have hFx : xs.getD k 0 = (F : Int) := by
        have := ci_getD (nat xs) k
        rw [ci_natp GX.out] at this
        rw [this, hF]
      have hF256 : F < 256 := by have := AX.out k hlt; omega
      rw [hFx] at hc1
      have HF := hide hF
      clear hF hFx
      have O := hide hown
      have Bk := hide hb
      have HL : Hid ((mp (nat xs) (nat ys) (List.replicate n 0) k).length = n) := by
        show _ = _
        rw [mp_length, List.length_replicate]
      clear hown hb
      go_wp2
      go_loopw [25] (fun vj wi => ∃ j : Nat, j ≤ ys.length ∧ vj = .int .i64 j ∧ wi.ownsRow w.heap.size 3 1 (.slice (some ⟨w.heap.size, 0, none⟩) n n) n ((ci (amTo (mp (nat xs) (nat ys) (List.replicate n 0) k) (nat ys) F k j)).map (Value.int .i64)) ∧ Below w.heap.size w wi) (fun vj _ => ys.length - (intOf vj).toNat)
      case atStart => exact ⟨0, Nat.zero_le _, rfl, O.out, Bk.out⟩
      case round =>
        obtain ⟨j, hj, rfl, hown, hb⟩ := hrel
        by_cases hlj : j < ys.length
        · have hRd := Q.out.below hb
          obtain ⟨qa', qcap', hv, _, _, h3⟩ := hRd
          have hv2 : qa' = qa := by simp at hv; exact hv.1.symm
          subst hv2
          clear hv
          rcases h3 with h3 | ⟨b2, off2, rfl, hbs2, hc⟩
          · subst h3; simp at hlj
          have hc2 := hc j hlj
          clear hc
          obtain ⟨Z, hZ⟩ : ∃ Z, Z = (nat ys).getD j 0 := ⟨_, rfl⟩
          have hZy : ys.getD j 0 = (Z : Int) := by
            have := ci_getD (nat ys) j
            rw [ci_natp GY.out] at this
            rw [this, hZ]
          have hZ256 : Z < 256 := by have := AY.out j hlj; omega
          rw [hZy] at hc2
          have HZ := hide hZ
          clear hZ hZy
          have hkj : k + j < n := by have := HN.out; omega
          have hc3 := hown.frozenAt (k + j)
          obtain ⟨y, hy⟩ : ∃ y, y = (amTo (mp (nat xs) (nat ys) (List.replicate n 0) k) (nat ys) F k j).getD (k + j) 0 := ⟨_, rfl⟩
          have hy256 : y < 256 := by
            rw [hy]
            exact amTo_lt (mp_lt (allLt_zeros n) (nat_ltp GX.out) k) hF256 j _
          have hc4 := own_cell hown (k + j) (by rw [amTo_length, HL.out]; exact hkj)
          rw [← hy] at hc4
          have HY := hide hy
          clear hy
          have O2 := hide hown
          have B2 := hide hb
          clear hown hb
          have e1 : ((k : Int) + (j : Int)).toNat = k + j := by omega
          have i1 : (0 : Int) ≤ (k : Int) + (j : Int) := by omega
          have i2 : (k : Int) + (j : Int) < (n : Int) := by omega
          have i3 : (j : Int) < (ys.length : Int) := by omega
          have i4 : IntKind.i64.wrap ((k : Int) + (j : Int)) = (k : Int) + (j : Int) := by rw [wrap_i64]; omega
          go_wp2
          go_region_with (go_at_call 128; refine (l1Mul_calls _ _ _ (by omega) (by omega) (by omega) (by omega)).mono ?_; rintro e w' ⟨rfl, rfl⟩)
          all_goals
            go_wp2
            go_roundw
            case rel =>
              refine ⟨j + 1, by omega, by go_num, ?_, ?_⟩
              · have h := (O2.out.stored (k + j) (.int .i64 (y ^^^ mul F Z : Nat))).1
                rw [← List.map_set, ci_set, HY.out, HZ.out] at h
                rw [i64_xor _ _ (by omega) (by have := mul_lt (a := F) (b := Z) (by omega); omega), HY.out, HZ.out]
                exact h.drew
              · exact (B2.out.setCell (Nat.le_refl _) _).drew
            case measure => simp [intOf]; omega
        · obtain rfl : j = ys.length := by omega
          have O2 : Hid (_ ∧ _) := And.intro hown hb
          clear hown hb
          go_wp2
          go_roundw
          case rel =>
            refine ⟨k + 1, by omega, by go_num, ?_, O2.out.2⟩
            have h := O2.out.1
            have e : mp (nat xs) (nat ys) (List.replicate n 0) (k + 1) = amTo (mp (nat xs) (nat ys) (List.replicate n 0) k) (nat ys) F k ys.length := by
              rw [mp, HF.out, nat_length]
            rw [e]
            exact h
          case measure => simp [intOf]; omega
    · obtain rfl : k = xs.length := by omega
      have hfin : Own wr w.heap.size (.slice (some ⟨w.heap.size, 0, none⟩) n n) (ci (mp (nat xs) (nat ys) (List.replicate n 0) xs.length)) := by
        show World.ownsRow _ _ _ _ _ (ci _).length _
        rw [ci_length, mp_length, List.length_replicate]
        exact hown
      have F := hide hfin
      have Bk := hide hb
      clear hown hb hfin
      go_wp2_with fail
      refine (l1Cut_calls _ _ _ F.out.rd (by rw [ci_length, mp_length, List.length_replicate]; omega)).mono ?_
      rintro e w2 ⟨v', rfl, ho2, hb2⟩
      have O2 := hide (Own.mono ho2 Bk.out.size)
      have B2 := hide (Bk.out.trans (hb2.mono Bk.out.size))
      clear ho2 hb2
      go_wp2
      go_ret
      exact ⟨_, rfl, O2.out, B2.out⟩

theorem mp_nil_p {q s0 : List Nat} : mp [] q s0 0 = s0 := rfl
theorem cut_empty {xs ys : List Int} (h : xs.length = 0 ∨ ys.length = 0) : cutL (ci (mp (nat xs) (nat ys) (List.replicate (xs.length + ys.length) 0) xs.length)) = [] := by
  rcases h with h | h
  · have : xs = [] := List.eq_nil_of_length_eq_zero h
    subst this
    exact cutL_zeros _
  · have : ys = [] := List.eq_nil_of_length_eq_zero h
    subst this
    show cutL (ci (mp (nat xs) [] _ _)) = []
    rw [mp_nil_q]
    exact cutL_zeros _

end Gf
end Go.Proofs.YtogopakmebiomaaDoor

namespace Go.Proofs.YtogopakmebiomaaDoor
open Go.RowKit

theorem rd_two {w : World} {y z : Int} : Rd (w.alloc (.cells #[.int .i64 y, .int .i64 z] 3)) (.slice (some ⟨w.heap.size, 0, none⟩) 2 2) [y, z] := by
  refine ⟨_, 2, rfl, Nat.le_refl _, ⟨by unfold maxLen; omega, fun h => by cases h⟩, .inr ⟨_, 0, rfl, by simp, fun i hi => ?_⟩⟩
  match i, hi with
  | 0, _ => exact World.cell?_alloc_at _ _ _ _ (by simp)
  | 1, _ => exact World.cell?_alloc_at _ _ _ _ (by simp)
namespace Gf

def wOk (t : Int) : Bool := decide (1 ≤ t ∧ t ≤ 3)
theorem wOk_iff {t : Int} : wOk t = true ↔ 1 ≤ t ∧ t ≤ 3 := by simp [wOk]
theorem wOk_no {t : Int} : wOk t = false ↔ ¬ (1 ≤ t ∧ t ≤ 3) := by simp [wOk]
set_option maxRecDepth 100000 in
theorem isWrong_calls (t : Int) (w : World) :
    Calls Tryd.prog 64 #[.int .i64 t] w fun e w' => e = .returned (.bool (wOk t)) ∧ w = w' := by
  by_cases h : 1 ≤ t
  · by_cases h2 : t ≤ 3
    · rw [wOk_iff.2 ⟨h, h2⟩]
      go_enter Tryd.func64, Tryd.ntmps64
      go_wp2
      go_ret
      exact ⟨rfl, rfl⟩
    · rw [wOk_no.2 (by omega)]
      go_enter Tryd.func64, Tryd.ntmps64
      go_wp2
      go_ret
      exact ⟨rfl, rfl⟩
  · rw [wOk_no.2 (by omega)]
    go_enter Tryd.func64, Tryd.ntmps64
    go_wp2
    go_ret
    exact ⟨rfl, rfl⟩
theorem checksOf_calls (t : Nat) (w : World) (h : t ≤ 1048576) :
    Calls Tryd.prog 65 #[.int .i64 t] w fun e w' => e = .returned (.int .i64 ((2 * t : Nat) : Int)) ∧ w = w' := by
  go_enter Tryd.func65, Tryd.ntmps65
  go_wp2
  go_ret
  exact ⟨by congr 2, rfl⟩
set_option maxRecDepth 100000 in
theorem l4Wrong_calls (t : Int) (w : World) :
    Calls Tryd.prog 62 #[.int .i64 t] w fun e w' => e = .returned (.bool (wOk t)) ∧ w = w' := by
  go_enter Tryd.func62, Tryd.ntmps62
  go_wp2_with (go_at_call 68; refine (l1In_calls _ _ _ _).mono ?_; rintro e w' ⟨rfl, rfl⟩)
  go_ret
  exact ⟨ret_bool (by simp [wOk]), rfl⟩

/-- The product of the first k factors. -/
def genI : Nat → List Int
  | 0 => [1]
  | k + 1 => (mulR (genI k) [((pow 2 k : Nat) : Int), 1]).1
def genS (k : Nat) : List Int := cutL (ci (mp (nat (genI k)) (nat [((pow 2 k : Nat) : Int), 1]) (List.replicate ((genI k).length + [((pow 2 k : Nat) : Int), 1].length) 0) (genI k).length))
theorem gen_tab : allB 7 (fun k => goodP (genI k) && ((genI k).length == k + 1)) = true := by decide +kernel
theorem gen_tab2 : allB 6 (fun k => (mulR (genI k) [((pow 2 k : Nat) : Int), 1]).2 && (genS k == genI (k + 1))) = true := by decide +kernel
theorem gen_facts {k : Nat} (hk : k ≤ 6) : goodP (genI k) = true ∧ (genI k).length = k + 1 := by
  have := allB_of gen_tab k (by omega)
  simpa using this
theorem gen_next {k : Nat} (hk : k < 6) : (mulR (genI k) [((pow 2 k : Nat) : Int), 1]).2 = true ∧ genS k = genI (k + 1) := by
  have := allB_of gen_tab2 k hk
  simpa using this
theorem two_good {x : Nat} (h : x < 256) : goodP [(x : Int), 1] = true := by
  simp [goodP, elOk]
  omega
def genR (t : Int) : List Int × Bool := if wOk t = true then (genI (2 * t.toNat), true) else ([], false)
theorem genR_len (t : Int) : (genR t).1.length ≤ 1048576 := by
  unfold genR
  split
  next h =>
    have := wOk_iff.1 h
    show (genI (2 * t.toNat)).length ≤ _
    rw [(gen_facts (k := 2 * t.toNat) (by omega)).2]
    omega
  next => show 0 ≤ _; omega
theorem genR_yes {t : Int} (h : wOk t = true) : genR t = (genI (2 * t.toNat), true) := if_pos h
theorem genR_no {t : Int} (h : wOk t = false) : genR t = ([], false) := if_neg (by rw [h]; decide)

set_option maxRecDepth 100000 in
set_option maxHeartbeats 1600000 in
theorem generatorOf_calls (t : Int) (w : World) (hT : Tab w) :
    Calls Tryd.prog 14 #[.int .i64 t] w fun e w' => ∃ v', e = .returned (.tuple #[v', .bool (genR t).2]) ∧ Own w' w.heap.size v' (genR t).1 ∧ Below w.heap.size w w' := by
  have T := hide hT
  clear hT
  cases hw : wOk t with
  | false =>
    have G := hide hw
    rw [genR_no hw]
    clear hw
    go_enter Tryd.func14, Tryd.ntmps14
    go_wp2_with fail
    refine (isWrong_calls t _).mono ?_
    rw [G.out]
    rintro e w' ⟨rfl, rfl⟩
    go_wp2
    go_ret2
    exact ⟨_, rfl, own_nil _ _, Below.refl _ _⟩
  | true =>
    rw [genR_yes hw]
    obtain ⟨h1, h3⟩ := wOk_iff.1 hw
    obtain ⟨n, rfl⟩ := Int.eq_ofNat_of_zero_le (a := t) (by omega)
    have G := hide hw
    rw [Int.toNat_natCast]
    clear hw
    go_enter Tryd.func14, Tryd.ntmps14
    go_wp2_with fail
    refine (isWrong_calls _ _).mono ?_
    rw [G.out]
    rintro e w' ⟨rfl, rfl⟩
    go_wp2_with fail
    refine (checksOf_calls n _ (by omega)).mono ?_
    rintro e w' ⟨rfl, rfl⟩
    obtain ⟨N, hN⟩ : ∃ N, N = 2 * n := ⟨_, rfl⟩
    rw [← hN]
    have hN6 : N ≤ 6 := by omega
    have HN := hide hN
    clear hN
    go_wp2
    go_loopw [4, 12] (fun vg vk wr => ∃ k : Nat, k ≤ N ∧ vk = .int .i64 k ∧ Own wr w.heap.size vg (genI k) ∧ Below w.heap.size w wr) (fun _ vk _ => N - (intOf vk).toNat)
    case atStart =>
      refine ⟨0, Nat.zero_le _, rfl, ?_, (Below.refl _ _).alloc (Nat.le_refl _) _⟩
      exact World.ownsRow_lit w #[.int .i64 1] 1 (Nat.le_refl _) (by decide) (by rfl)
    case round =>
      obtain ⟨k, hk, rfl, ho, hb⟩ := hrel
      have O := hide ho
      have B := hide hb
      clear ho hb
      by_cases hlt : k < N
      · have hlt' : (k : Int) < (N : Int) := by omega
        go_wp2_with fail
        refine (powE_calls 2 k _ (T.out.below B.out) (by omega) (by omega) (by omega) (by omega)).mono ?_
        rintro e w' ⟨rfl, rfl⟩
        rw [Int.toNat_natCast]
        obtain ⟨x, hx⟩ : ∃ x, x = pow 2 k := ⟨_, rfl⟩
        rw [show pow (Int.toNat 2) k = x from hx.symm]
        have X := hide hx
        have hx256 : x < 256 := by rw [hx]; exact pow_lt _ _
        clear hx
        have hsz := B.out.size
        go_wp2_with fail
        refine (mulPoly_calls _ _ (genI k) [(x : Int), 1] _ ((T.out.below B.out).below ((Below.refl _ _).alloc (Nat.le_refl _) _)) (O.out.rd.below ((Below.refl _ _).alloc (Nat.le_refl _) _)) rd_two).mono ?_
        rintro e w1 ⟨v1, rfl, ho1, hb1⟩
        have O1 : Hid (Own w1 w.heap.size v1 (genI (k + 1))) := by
          have := ho1.mono (base' := w.heap.size) (by simp; omega)
          rw [X.out] at this
          exact this
        have B1 := hide ((B.out.alloc hsz _).trans (hb1.mono (by simp; omega)))
        clear ho1 hb1 O
        go_wp2
        go_roundw
        case rel => exact ⟨k + 1, by omega, by go_num, O1.out, B1.out⟩
        case measure => simp [intOf]; omega
      · obtain rfl : k = N := by omega
        go_wp2
        go_ret2
        exact ⟨_, rfl, by rw [← HN.out]; exact O.out, B.out⟩

set_option maxRecDepth 100000 in
set_option maxHeartbeats 1600000 in
theorem l4Generator_calls (n : Nat) (w : World) (h3 : n ≤ 3) :
    Calls Tryd.prog 63 #[.int .i64 n] w fun e w' => ∃ v', e = .returned v' ∧ Own w' w.heap.size v' (genI (2 * n)) ∧ Below w.heap.size w w' := by
  go_enter Tryd.func63, Tryd.ntmps63
  go_wp2
  go_loopw [3, 4] (fun vg vk wr => ∃ k : Nat, k ≤ 2 * n ∧ vk = .int .i64 k ∧ Own wr w.heap.size vg (genI k) ∧ Below w.heap.size w wr) (fun _ vk _ => 2 * n - (intOf vk).toNat)
  case atStart =>
    refine ⟨0, Nat.zero_le _, rfl, ?_, (Below.refl _ _).alloc (Nat.le_refl _) _⟩
    exact World.ownsRow_lit w #[.int .i64 1] 1 (Nat.le_refl _) (by decide) (by rfl)
  case round =>
    obtain ⟨k, hk, rfl, ho, hb⟩ := hrel
    have O := hide ho
    have B := hide hb
    clear ho hb
    by_cases hlt : k < 2 * n
    · have hlt' : (k : Int) < 2 * (n : Int) := by omega
      go_wp2_with fail
      refine (l1Pow_calls 2 k _ (by omega) (by omega) (by omega) (by omega)).mono ?_
      rintro e w' ⟨rfl, rfl⟩
      rw [Int.toNat_natCast]
      obtain ⟨x, hx⟩ : ∃ x, x = pow 2 k := ⟨_, rfl⟩
      rw [show pow (Int.toNat 2) k = x from hx.symm]
      have X := hide hx
      have hx256 : x < 256 := by rw [hx]; exact pow_lt _ _
      clear hx
      have hsz := B.out.size
      go_wp2_with fail
      refine (l1MulPoly_calls _ _ (genI k) [(x : Int), 1] _ (O.out.rd.below ((Below.refl _ _).alloc (Nat.le_refl _) _)) rd_two (gen_facts (by omega)).1 (two_good hx256)).mono ?_
      rintro e w1 ⟨v1, rfl, ho1, hb1⟩
      have O1 : Hid (Own w1 w.heap.size v1 (genI (k + 1))) := by
        have := ho1.mono (base' := w.heap.size) (by simp; omega)
        rw [X.out] at this
        have e := (gen_next (k := k) (by omega)).2
        rw [← e]
        exact this
      have B1 := hide ((B.out.alloc hsz _).trans (hb1.mono (by simp; omega)))
      clear ho1 hb1 O
      go_wp2
      go_roundw
      case rel => exact ⟨k + 1, by omega, by go_num, O1.out, B1.out⟩
      case measure => simp [intOf]; omega
    · obtain rfl : k = 2 * n := by omega
      have hlt' : ¬ ((2 * n : Nat) : Int) < 2 * (n : Int) := by omega
      go_wp2
      go_ret
      exact ⟨_, rfl, O.out, B.out⟩

set_option maxRecDepth 100000 in
set_option maxHeartbeats 1600000 in
theorem sGeneratorOf_calls (t : Int) (w : World) :
    Calls Tryd.prog 13 #[.int .i64 t] w fun e w' => ∃ v', e = .returned (.tuple #[v', .bool (genR t).2]) ∧ Own w' w.heap.size v' (genR t).1 ∧ Below w.heap.size w w' := by
  cases hw : wOk t with
  | false =>
    have G := hide hw
    rw [genR_no hw]
    clear hw
    go_enter Tryd.func13, Tryd.ntmps13
    go_wp2_with fail
    refine (l4Wrong_calls t _).mono ?_
    rw [G.out]
    rintro e w' ⟨rfl, rfl⟩
    go_wp2
    go_ret2
    exact ⟨_, rfl, own_nil _ _, Below.refl _ _⟩
  | true =>
    rw [genR_yes hw]
    obtain ⟨h1, h3⟩ := wOk_iff.1 hw
    obtain ⟨n, rfl⟩ := Int.eq_ofNat_of_zero_le (a := t) (by omega)
    have G := hide hw
    rw [Int.toNat_natCast]
    clear hw
    go_enter Tryd.func13, Tryd.ntmps13
    go_wp2_with fail
    refine (l4Wrong_calls _ _).mono ?_
    rw [G.out]
    rintro e w' ⟨rfl, rfl⟩
    go_wp2_with fail
    refine (l4Generator_calls n _ (by omega)).mono ?_
    rintro e w1 ⟨v1, rfl, ho1, hb1⟩
    have O1 := hide ho1
    have B1 := hide hb1
    clear ho1 hb1
    go_wp2
    go_ret2
    exact ⟨_, rfl, O1.out, B1.out⟩
end Gf
end Go.Proofs.YtogopakmebiomaaDoor

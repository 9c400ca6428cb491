/-
  Cauchy's matrix: the program's function and its model's, at all lists. The program's table of rests must hold its seven numbers where the program's own function is called.
-/
import Derived.Test.YtiojipicincgfaaDoorCau
namespace Go.Proofs.YtiojipicincgfaaDoor
open Go.RowKit

theorem rd_single {w : World} {z : Int} : Rd (w.alloc (.cells #[.int .i64 z] 3)) (.slice (some ⟨w.heap.size, 0, none⟩) 1 1) [z] := by
  refine ⟨_, 1, rfl, Nat.le_refl _, ⟨by unfold maxLen; omega, fun h => by cases h⟩, .inr ⟨_, 0, rfl, by simp, fun i hi => ?_⟩⟩
  simp at hi
  subst hi
  exact World.cell?_alloc_at _ _ _ _ (by simp)
theorem cauRow_length (a : Int) (ys : List Int) : (cauRow a ys).length = ys.length := by simp [cauRow]
theorem cauRow_get (a : Int) (ys : List Int) (j : Nat) (h : j < ys.length) : (cauRow a ys).getD j 0 = ((Gf.inv (a.toNat ^^^ (ys.getD j 0).toNat) : Nat) : Int) := by simp [cauRow, List.getD_eq_getElem?_getD, h]
theorem cauM_length (xs ys : List Int) : (cauM xs ys).length = xs.length := by simp [cauM]
theorem cauM_get (xs ys : List Int) (i : Nat) (h : i < xs.length) : (cauM xs ys).getD i [] = cauRow (xs.getD i 0) ys := by simp [cauM, List.getD_eq_getElem?_getD, h]

set_option maxRecDepth 100000 in
set_option maxHeartbeats 1600000 in
theorem l2Cauchy_calls (xv yv : Value) (xs ys : List Int) (w : World) (hx : Rd w xv xs) (hy : Rd w yv ys) (ex : xs.all Gf.elOk = true) (ey : ys.all Gf.elOk = true) (hnx : xs.length ≤ 1048576) (hny : ys.length ≤ 1048576) :
    Calls Tryd.prog 70 #[xv, yv] w fun e w' => ∃ v', e = .returned v' ∧ Mat w' w.heap.size w'.heap.size v' (cauM xs ys) ∧ Below w.heap.size w w' := by
  have RX := hide hx
  have RY := hide hy
  have EX := hide ex
  have EY := hide ey
  obtain ⟨xa, xcap, rfl, _⟩ := hx
  obtain ⟨ya, ycap, rfl, _⟩ := hy
  clear ex ey
  go_enter Tryd.func70, Tryd.ntmps70
  go_wp2
  go_loopw [5, 13] (fun vo vi wr => ∃ (k : Nat) (vs : List Value), k ≤ xs.length ∧ vi = .int .i64 k ∧ MatV wr w.heap.size wr.heap.size vo vs ((cauM xs ys).take k) ∧ Below w.heap.size w wr) (fun _ vi _ => xs.length - (intOf vi).toNat)
  case atStart =>
    obtain ⟨vs, hv⟩ := Mat.nil w w.heap.size w.heap.size
    exact ⟨0, vs, Nat.zero_le _, rfl, hv, Below.refl _ _⟩
  case round =>
    obtain ⟨k, vs, hk, rfl, hm, hb⟩ := hrel
    have M := hide hm
    have B := hide hb
    clear hm hb
    by_cases hlt : k < xs.length
    · have hlt' : (k : Int) < (xs.length : Int) := by omega
      obtain ⟨b, off, u, rfl, hc, hu⟩ := (RX.out.below B.out).row k hlt
      obtain ⟨x, hxx⟩ : ∃ x, x = xs.getD k 0 := ⟨_, rfl⟩
      rw [← hxx] at hu
      subst hu
      obtain ⟨r, hr⟩ : ∃ r, r = cauRow x ys := ⟨_, rfl⟩
      have hrl : r.length = ys.length := by rw [hr, cauRow_length]
      have hrg : ∀ j, j < ys.length → r.getD j 0 = ((Gf.inv (x.toNat ^^^ (ys.getD j 0).toNat) : Nat) : Int) := fun j hj => by rw [hr, cauRow_get _ _ _ hj]
      have hnext : (cauM xs ys).take k ++ [r] = (cauM xs ys).take (k + 1) := by
        rw [take_snocM (cauM xs ys) [] k (by rw [cauM_length]; exact hlt), cauM_get _ _ _ hlt, ← hxx, hr]
      have hex := Gf.elOk_tests (Gf.all_of_getD.1 EX.out k hlt)
      rw [← hxx] at hex
      obtain ⟨A, rfl⟩ := Int.eq_ofNat_of_zero_le hex.1
      have hA : A < 256 := by omega
      have RL := hide hrl
      have RG := hide hrg
      have NX := hide hnext
      obtain ⟨W1, rfl⟩ : ∃ W1, W1 = wr := ⟨_, rfl⟩
      clear hxx hr hrl hrg hnext hex
      go_wp2
      go_loopw [8, 19] (fun vr vi wr2 => ∃ (j : Nat), j ≤ ys.length ∧ vi = .int .i64 j ∧ Own wr2 W1.heap.size vr (r.take j) ∧ Below W1.heap.size W1 wr2) (fun _ vi _ => ys.length - (intOf vi).toNat)
      case atStart => exact ⟨0, Nat.zero_le _, rfl, World.ownsRow_nil _ _ _ _, Below.refl _ _⟩
      case round =>
        obtain ⟨j, hj, rfl, ho, hb2⟩ := hrel
        have O := hide ho
        have B2 := hide hb2
        clear ho hb2
        by_cases hltj : j < ys.length
        · have hltj' : (j : Int) < (ys.length : Int) := by omega
          obtain ⟨yb, yoff, yu, rfl, hyc, hyu⟩ := ((RY.out.below B.out).below B2.out).row j hltj
          obtain ⟨y, hyy⟩ : ∃ y, y = ys.getD j 0 := ⟨_, rfl⟩
          rw [← hyy] at hyu
          subst hyu
          have hey := Gf.elOk_tests (Gf.all_of_getD.1 EY.out j hltj)
          rw [← hyy] at hey
          have hg := RG.out j hltj
          rw [← hyy] at hg
          obtain ⟨Y, rfl⟩ := Int.eq_ofNat_of_zero_le hey.1
          have hY : Y < 256 := by omega
          simp only [Int.toNat_natCast] at hg
          have hxor : bits .xor .i64 ((A : Nat) : Int) ((Y : Nat) : Int) = ((A ^^^ Y : Nat) : Int) := Gf.i64_xor _ _ (by omega) (by omega)
          have hxl : A ^^^ Y < 256 := Nat.xor_lt_two_pow (n := 8) hA hY
          obtain ⟨z, hz⟩ : ∃ z, z = Gf.inv (A ^^^ Y) := ⟨_, rfl⟩
          rw [← hz] at hg
          have CD : Hid (∀ w', Calls Tryd.prog 84 #[.int .i64 1, .int .i64 (bits .xor .i64 ((A : Nat) : Int) ((Y : Nat) : Int))] w' fun e w'' => e = .returned (.int .i64 ((z : Nat) : Int)) ∧ w' = w'') := by
            intro w'
            rw [hxor]
            refine (Gf.l1Div_calls 1 _ w' (by omega) (by omega) (by omega) (by omega)).mono ?_
            rintro e w'' ⟨rfl, rfl⟩
            refine ⟨?_, rfl⟩
            have e1 : Gf.mul (Int.toNat 1) (Gf.inv (Int.toNat ((A ^^^ Y : Nat) : Int))) = z := by
              rw [Int.toNat_natCast, hz]
              exact Gf.one_mul _ (Gf.inv_lt _)
            rw [e1]
          have HG := hide hg
          have hl2 : (r.take j).length = j := by rw [List.length_take, RL.out]; omega
          have HL2 := hide hl2
          clear hyy hey hg hxor hxl hz hl2
          go_wp2_with fail
          refine (CD.out _).mono ?_
          rintro e w2 ⟨rfl, rfl⟩
          have O2 := hide (O.out.alloc (.cells #[.int .i64 ((z : Nat) : Int)] 3))
          go_wp2_with (at_builtin; refine wpList_append_rd rfl _ _ rfl W1.heap.size _ (r.take j).length (r.take j) [((z : Nat) : Int)] rfl O2.out _ rfl rd_single (by rw [HL2.out]; simp; omega) (by have := B2.out.size; simp; omega) ?_)
          intro v' w3 ho3 hg3
          have hb3 : Below W1.heap.size W1 w3 := (B2.out.alloc B2.out.size _).grown hg3 (by have := B2.out.size; simp; omega) (fun i hi => (O.out.lt i hi).1)
          have e : r.take j ++ [((z : Nat) : Int)] = r.take (j + 1) := by rw [take_snocM r 0 j (by rw [RL.out]; exact hltj), HG.out]
          rw [e] at ho3
          have O3 := hide ho3
          have B3 := hide hb3
          clear ho3 hg3 hb3 e
          go_wp2
          go_roundw
          case rel => exact ⟨j + 1, by omega, by go_num, O3.out, B3.out⟩
          case measure => simp [intOf]; omega
        · obtain rfl : j = ys.length := by omega
          have ho := O.out
          rw [← RL.out, List.take_of_length_le (Nat.le_refl _)] at ho
          obtain ⟨ra, rn, rc, rfl⟩ := ho.shape
          have OO := hide ho
          clear ho O
          go_wp2_with (at_builtin; refine wpList_append_row rfl _ _ rfl w.heap.size W1.heap.size _ vs ((cauM xs ys).take k) rfl M.out (B2.out.alloc B2.out.size _) _ r (OO.out.below ((Below.refl _ _).alloc (Nat.le_refl _) _)) (Nat.le_refl _) B.out.size _ rfl (World.cell?_alloc_at _ _ _ _ (by simp)) (by simp; omega) ?_)
          intro v2 w2 hM2 hB2
          rw [NX.out] at hM2
          have M2 := hide hM2
          have B3 := hide hB2
          clear hM2 hB2
          go_wp2
          go_roundw
          case rel => exact ⟨k + 1, _, by omega, by go_num, M2.out, B.out.trans B3.out⟩
          case measure => simp [intOf]; omega
    · obtain rfl : k = xs.length := by omega
      go_wp2
      go_ret
      have hm := M.out
      rw [List.take_of_length_le (by rw [cauM_length]; exact Nat.le_refl _)] at hm
      exact ⟨_, rfl, ⟨_, hm⟩, B.out⟩
end Go.Proofs.YtiojipicincgfaaDoor

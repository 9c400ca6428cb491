/-
  What the law of Cauchy's matrices draws: a matrix and places of rows. Each contract says what it asks.
-/
import Derived.Test.YtoipcoidcaijjaaDoorDrawX
namespace Go.Proofs.YtoipcoidcaijjaaDoor
open Go.RowKit

set_option maxRecDepth 100000 in
set_option maxHeartbeats 3200000 in
theorem drawRowsOf_calls (cv : Value) (w : World) (h : RdB w cv) :
    Calls Tryd.prog 39 #[cv] w fun e w' => ∃ (v u : Value) (m : List (List Int)) (ys : List Int), e = .returned (.tuple #[v, u]) ∧ RdM w' v m ∧ Rd w' u ys ∧ (m.length ≤ 8 ∧ ys.length ≤ 8) ∧ Below w.heap.size w w' := by
  have C0 := hide (cur_new h)
  have LO := hide (draw_low h)
  obtain ⟨a0, cap0, zs0, rfl, _⟩ := h
  go_enter Tryd.func39, Tryd.ntmps39
  go_wp2_with fail
  refine (pick_calls w.heap.size _ 0 4 _ C0.out (by omega) (by omega) (by omega)).mono ?_
  rintro e w0 ⟨p, hp, rfl, hc0, hg0⟩
  have C1 := hide hc0
  have G0 := hide hg0
  clear hc0 hg0 C0
  go_wp2_with fail
  refine (pick_calls w.heap.size _ 2 4 _ C1.out (by omega) (by omega) (by omega)).mono ?_
  rintro e w1 ⟨p2, hp2, rfl, hc1, hg1⟩
  replace C1 := hide hc1
  have G1 := hide (grown_trans G0.out hg1)
  have lt1 := curS_lt hc1
  clear hc1 hg1 G0
  go_wp2_with fail
  obtain ⟨N, hN⟩ : ∃ N : Nat, N = 1 + p := ⟨_, rfl⟩
  have eN : (1 : Int) + (p : Int) = (N : Int) := by omega
  obtain ⟨N2, hN2⟩ : ∃ N : Nat, N = 1 + p2 := ⟨_, rfl⟩
  have eN2 : (1 : Int) + (p2 : Int) = (N2 : Int) := by omega
  rw [eN, eN2]
  refine (matrix_calls w.heap.size _ 4 N N2 _ C1.out (by omega) (by omega) (by omega) (by omega) (by omega) (fun w' hb => LO.out w' ((grown_low G1.out (by simp)).trans hb))).mono ?_
  rintro e w2 ⟨v, m, rfl, hM, hml, hmr, hc2, hg2⟩
  have C2 := hide hc2
  have G2 := hide (grown_trans G1.out hg2)
  have M2 := hide hM
  have m1 : 1 ≤ m.length := by omega
  have m4 : m.length ≤ 4 := by omega
  have lt2 := curS_lt hc2
  have s2 := hg2.size
  clear hc2 hg2 hM hml hmr
  obtain ⟨va, vc, rfl⟩ : ∃ va vc, v = .slice va m.length vc := by
    obtain ⟨a, c, rfl, _⟩ := M2.out.rd
    exact ⟨_, _, rfl⟩
  clear eN hN hp eN2 hN2 hp2
  have lt1' : w.heap.size + 1 ≤ w1.heap.size := lt1
  go_wp2_with fail
  refine (pick_calls w.heap.size _ 1004 5 _ C2.out (by omega) (by omega) (by omega)).mono ?_
  rintro e w3 ⟨N, hN, rfl, hc3, hg3⟩
  have C3 := hide hc3
  have G3 := hide (grown_trans G2.out hg3)
  obtain ⟨vm, hm⟩ := M2.out
  have M3 := hide (hm.chg (grown_chg hg3) (.inr (by omega)))
  have s3 := hg3.size
  clear hc3 hg3 hm M2
  go_wp2
  go_loopw [7, 6] (fun vn vl wr => ∃ (r : Nat) (xs : List Int), vn = .int .i64 r ∧ xs.length + r = N ∧ Own wr w3.heap.size vl xs ∧ CurS wr w.heap.size (.slice a0 zs0.length cap0) (1006 + 4 * xs.length) ∧ w3.grownBy wr (some w.heap.size)) (fun vn _ _ => (intOf vn).toNat)
  case atStart => exact ⟨N, [], rfl, by simp, World.ownsRow_nil _ _ _ _, C3.out.mono (by simp), World.grownBy.refl _ _⟩
  case round =>
    obtain ⟨r, xs, rfl, hlen, hown, hcur, hgr⟩ := hrel
    have O := hide hown
    have C := hide hcur
    have G := hide hgr
    have XL := hide hlen
    have s1 := hgr.size
    have xl : xs.length ≤ 4 := by omega
    have r4 : r ≤ 4 := by omega
    clear hown hcur hgr hlen
    by_cases hr : 0 < r
    · have hr' : (0 : Int) < (r : Int) := by omega
      obtain ⟨vr, hvr⟩ : ∃ vr, vr = u6 := ⟨_, rfl⟩
      subst hvr
      go_wp2_with fail
      refine (pick_calls w.heap.size _ (1006 + 4 * xs.length) 9 _ C.out (by omega) (by omega) (by omega)).mono ?_
      rintro e w6 ⟨q0, hq0, rfl, hc6, hg6⟩
      have C6 := hide hc6
      have G6 := hide (grown_trans G.out hg6)
      have O6 := hide (own_keep O.out hg6 (by omega))
      have s6 := hg6.size
      clear hc6 hg6
      have d0 : (0 : Int) ≤ (q0 : Int) / 8 := by omega
      have d1 : (q0 : Int) / 8 ≤ 1 := by omega
      go_wp2_with fail
      obtain ⟨Z, hZ⟩ : ∃ Z : Nat, Z = m.length + q0 / 8 := ⟨_, rfl⟩
      have eZ : (m.length : Int) + (q0 : Int) / 8 = (Z : Int) := by omega
      rw [eZ]
      refine (pick_calls w.heap.size _ (1006 + 4 * xs.length + 2) Z _ C6.out (by omega) (by omega) (by omega)).mono ?_
      rintro e w4 ⟨q, hq, rfl, hc4, hg4⟩
      have q5 : q < 6 := by omega
      clear eZ hZ d0 d1 hq hq0
      have C4 := hide hc4
      have G4 := hide (grown_trans G6.out hg4)
      have O4 := hide (own_keep O6.out hg4 (by omega))
      have O5 : Hid (Own (w4.alloc (.cells #[.int .i64 (q : Int)] 3)) w3.heap.size vr xs) := O4.out.alloc _
      have s4 := hg4.size
      clear hc4 hg4
      go_wp2_with (at_builtin; refine wpList_append_rd rfl (.tmp 25) (.tmp 34) rfl w3.heap.size _ xs.length xs [(q : Int)] rfl O5.out _ rfl rd_single (by simp; omega) (by simp; omega) ?_)
      intro v' w5 ho5 hg5
      have hg5' : w4.grownBy w5 vr.ownBlock := Gf.grownBy_trans (World.grownBy_alloc _ _ _) hg5
      have hfar : ∀ b, vr.ownBlock = some b → w3.heap.size ≤ b := fun b hb => (O4.out.lt b hb).1
      have G5 := hide (grown_far G4.out hg5' hfar)
      have C5 : Hid (CurS w5 w.heap.size (.slice a0 zs0.length cap0) (1006 + 4 * (xs.length + 1))) := by
        refine (CurS.far C4.out hg5' (fun b hb => by have := hfar b hb; omega) (fun w' h' => LO.out w' (grown_low (grown_trans G3.out (grown_trans G5.out h')) (by simp)))).mono ?_
        omega
      have O7 := hide ho5
      clear ho5 hg5 hg5' hfar
      go_wp2
      go_roundw
      case rel => exact ⟨r - 1, xs ++ [(q : Int)], Gf.int_eq (by omega), by simp; have := XL.out; omega, O7.out, by simpa using C5.out, G5.out⟩
      case measure => simp [intOf]; omega
    · obtain rfl : r = 0 := by omega
      have R := hide (M3.out.chg (grown_chg G.out) (.inr (by omega))).rd
      have R2 := hide O.out.rd
      have BB := hide (cur_below (grown_trans G3.out G.out))
      go_wp2
      go_ret2
      first | exact ⟨_, _, m, xs, rfl, R.out, R2.out, ⟨by omega, by omega⟩, BB.out⟩ | exact ⟨_, _, rfl, m, R.out, xs, R2.out, ⟨by omega, by omega⟩, BB.out⟩
end Go.Proofs.YtoipcoidcaijjaaDoor

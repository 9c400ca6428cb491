/-
  What the law of Cauchy's matrices draws: a matrix and a column, a matrix and rows of it. Each contract says what it asks.
-/
import Derived.Test.YtoipcoidcaijjaaDoorDrawX
namespace Go.Proofs.YtoipcoidcaijjaaDoor
open Go.RowKit

set_option maxRecDepth 100000 in
set_option maxHeartbeats 3200000 in
theorem drawSolveBy_calls (cv : Value) (w : World) (h : RdB w cv) :
    Calls Tryd.prog 36 #[cv] w fun e w' => ∃ (v u : Value) (m : List (List Int)) (ys : List Int), e = .returned (.tuple #[v, u]) ∧ RdM w' v m ∧ Rd w' u ys ∧ (m.length ≤ 8 ∧ ys.length ≤ 8) ∧ Below w.heap.size w w' := by
  have C0 := hide (cur_new h)
  have LO := hide (draw_low h)
  obtain ⟨a0, cap0, zs0, rfl, _⟩ := h
  go_enter Tryd.func36, Tryd.ntmps36
  go_wp2_with fail
  refine (pick_calls w.heap.size _ 0 4 _ C0.out (by omega) (by omega) (by omega)).mono ?_
  rintro e w1 ⟨p, hp, rfl, hc1, hg1⟩
  have C1 := hide hc1
  have G1 := hide hg1
  have lt1 := curS_lt hc1
  clear hc1 hg1 C0
  go_wp2_with fail
  obtain ⟨N, hN⟩ : ∃ N : Nat, N = 1 + p := ⟨_, rfl⟩
  have eN : (1 : Int) + (p : Int) = (N : Int) := by omega
  rw [eN]
  refine (matrix_calls w.heap.size _ 2 N N _ C1.out (by omega) (by omega) (by omega) (by omega) (by omega) (fun w' hb => LO.out w' ((grown_low G1.out (by simp)).trans hb))).mono ?_
  rintro e w2 ⟨v, m, rfl, hM, hml, hmr, hc2, hg2⟩
  have C2 := hide hc2
  have G2 := hide (grown_trans G1.out hg2)
  have M2 := hide hM
  have ML := hide hml
  have lt2 := curS_lt hc2
  have s2 := hg2.size
  clear hc2 hg2 hM hml hmr
  obtain ⟨va, vn, vc, rfl⟩ : ∃ va vn vc, v = .slice va vn vc := by
    obtain ⟨a, c, rfl, _⟩ := M2.out.rd
    exact ⟨_, _, _, rfl⟩
  clear eN
  have N8 : N ≤ 4 := by omega
  clear hN hp
  have lt1' : w.heap.size + 1 ≤ w1.heap.size := lt1
  go_wp2
  go_loopw [5, 7] (fun vn vl wr => ∃ (r : Nat) (xs : List Int), vn = .int .i64 r ∧ xs.length + r = N ∧ Own wr w2.heap.size vl xs ∧ CurS wr w.heap.size (.slice a0 zs0.length cap0) (1002 + 2 * xs.length) ∧ w2.grownBy wr (some w.heap.size)) (fun vn _ _ => (intOf vn).toNat)
  case atStart => exact ⟨N, [], rfl, by simp, World.ownsRow_nil _ _ _ _, C2.out.mono (by simp), World.grownBy.refl _ _⟩
  case round =>
    obtain ⟨r, xs, rfl, hlen, hown, hcur, hgr⟩ := hrel
    have O := hide hown
    have C := hide hcur
    have G := hide hgr
    have XL := hide hlen
    have s1 := hgr.size
    have xl : xs.length ≤ 4 := by omega
    have r4 : r ≤ 4 := by omega
    clear hown hcur hgr hlen
    by_cases hr : 0 < r
    · have hr' : (0 : Int) < (r : Int) := by omega
      obtain ⟨vr, hvr⟩ : ∃ vr, vr = u7 := ⟨_, rfl⟩
      subst hvr
      go_wp2_with fail
      refine (pick_calls w.heap.size _ (1002 + 2 * xs.length) 256 _ C.out (by omega) (by omega) (by omega)).mono ?_
      rintro e w4 ⟨q, hq, rfl, hc4, hg4⟩
      have C4 := hide hc4
      have G4 := hide (grown_trans G.out hg4)
      have O4 := hide (own_keep O.out hg4 (by omega))
      have O5 : Hid (Own (w4.alloc (.cells #[.int .i64 (q : Int)] 3)) w2.heap.size vr xs) := O4.out.alloc _
      have s4 := hg4.size
      clear hc4 hg4
      go_wp2_with (at_builtin; refine wpList_append_rd rfl (.tmp 22) (.tmp 25) rfl w2.heap.size _ xs.length xs [(q : Int)] rfl O5.out _ rfl rd_single (by simp; omega) (by simp; omega) ?_)
      intro v' w5 ho5 hg5
      have hg5' : w4.grownBy w5 vr.ownBlock := Gf.grownBy_trans (World.grownBy_alloc _ _ _) hg5
      have hfar : ∀ b, vr.ownBlock = some b → w2.heap.size ≤ b := fun b hb => (O4.out.lt b hb).1
      have G5 := hide (grown_far G4.out hg5' hfar)
      have C5 : Hid (CurS w5 w.heap.size (.slice a0 zs0.length cap0) (1002 + 2 * (xs.length + 1))) := by
        refine (CurS.far C4.out hg5' (fun b hb => by have := hfar b hb; omega) (fun w' h' => LO.out w' (grown_low (grown_trans G2.out (grown_trans G5.out h')) (by simp)))).mono ?_
        omega
      have O6 := hide ho5
      clear ho5 hg5 hg5' hfar
      go_wp2
      go_roundw
      case rel => exact ⟨r - 1, xs ++ [(q : Int)], Gf.int_eq (by omega), by simp; have := XL.out; omega, O6.out, by simpa using C5.out, G5.out⟩
      case measure => simp [intOf]; omega
    · obtain rfl : r = 0 := by omega
      obtain ⟨vm, hm⟩ := M2.out
      have R := hide (hm.chg (grown_chg G.out) (.inr (by omega))).rd
      have R2 := hide O.out.rd
      have BB := hide (cur_below (grown_trans G2.out G.out))
      clear hm
      go_wp2
      go_ret2
      have ml := ML.out
      first | exact ⟨_, _, m, xs, rfl, R.out, R2.out, ⟨by omega, by omega⟩, BB.out⟩ | exact ⟨_, _, rfl, m, R.out, xs, R2.out, ⟨by omega, by omega⟩, BB.out⟩
end Go.Proofs.YtoipcoidcaijjaaDoor

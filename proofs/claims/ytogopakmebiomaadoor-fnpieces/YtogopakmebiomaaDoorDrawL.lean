/-
  What the law of pieces draws: losses, and a piece to be put anew. Each contract says what it asks.
-/
import Derived.Test.YtogopakmebiomaaDoorDrawK
import Derived.Test.YtogopakmebiomaaDoorCount
namespace Go.Proofs.YtogopakmebiomaaDoor
open Go.RowKit

set_option maxRecDepth 100000 in
set_option maxHeartbeats 1600000 in
theorem drawCanDecode_calls (cv : Value) (w : World) (h : RdB w cv) :
    Calls Tryd.prog 59 #[cv] w fun e w' => ∃ (d q : Nat) (u : Value) (ys : List Int), e = .returned (.tuple #[.int .i64 d, .int .i64 q, u]) ∧ Rd w' u ys ∧ (d ≤ 5 ∧ q ≤ 4 ∧ ys.length ≤ 6) ∧ Below w.heap.size w w' := by
  have C0 := hide (cur_new h)
  have LO := hide (draw_low h)
  obtain ⟨a0, cap0, zs0, rfl, _⟩ := h
  go_enter Tryd.func59, Tryd.ntmps59
  go_wp2_with fail
  refine (coded_calls w.heap.size _ 0 _ C0.out (by omega) LO.out).mono ?_
  rintro e w1 ⟨d, q, vl, vx, rfl, hc⟩
  have K := hide hc
  clear hc
  go_wp2
  go_ret3
  obtain ⟨xs, hx, ⟨hl, _⟩, _⟩ := K.out.lost
  exact ⟨d, q, _, xs, rfl, hx, ⟨K.out.d5, K.out.q4, by omega⟩, cur_below K.out.grown⟩

set_option maxRecDepth 100000 in
set_option maxHeartbeats 3200000 in
theorem drawUpdatePiece_calls (cv : Value) (w : World) (h : RdB w cv) :
    Calls Tryd.prog 51 #[cv] w fun e w' => ∃ (d q k : Nat) (v u : Value) (m : List (List Int)) (ys : List Int), e = .returned (.tuple #[.int .i64 d, .int .i64 q, v, .int .i64 k, u]) ∧ RdM w' v m ∧ Rd w' u ys ∧ ((1 ≤ d ∧ d ≤ 5) ∧ (1 ≤ q ∧ q ≤ 4) ∧ m.length = d + q ∧ k ≤ d ∧ ys.length ≤ 33) ∧ Below w.heap.size w w' := by
  have C0 := hide (cur_new h)
  have LO := hide (draw_low h)
  obtain ⟨a0, cap0, zs0, rfl, _⟩ := h
  go_enter Tryd.func51, Tryd.ntmps51
  go_wp2_with fail
  refine (coded_calls w.heap.size _ 0 _ C0.out (by omega) LO.out).mono ?_
  rintro e w1 ⟨d, q, vl, vx, rfl, hc⟩
  obtain ⟨d1, d5, q1, q4, ⟨m, L, hM, hm, hL, hr⟩, _, hcur, hgr⟩ := hc
  have C := hide hcur
  have G := hide hgr
  have s0 := hgr.size
  have lt0 := curS_lt hcur
  obtain ⟨vs, hM⟩ := hM
  have M := hide hM
  have h0 : 0 < m.length := by omega
  have hl0 : (m.getD 0 []).length = L := hr _ (by rw [List.getD_eq_getElem?_getD, List.getElem?_eq_getElem h0]; simp)
  obtain ⟨va, vn, vc, rfl⟩ : ∃ va vn vc, vl = .slice va vn vc := by
    obtain ⟨a, c, rfl, _⟩ := hM.rd
    exact ⟨_, _, _, rfl⟩
  have hvn : vn = m.length := by
    obtain ⟨a, c, e, _⟩ := hM.rd
    simp at e
    exact e.2.1
  subst hvn
  obtain ⟨mb, moff, mu, hva, hmb, hmc, hmu⟩ := hM.rd.rowAt 0 h0
  subst hva
  obtain ⟨ka, kcap, hkv, _⟩ := hmu
  rw [hl0] at hkv
  subst hkv
  have i3 : (0 : Int) < (m.length : Int) := by omega
  have hmc0 : w1.cell? ⟨mb, moff, none⟩ = some (.slice ka L kcap) := by simpa using hmc
  have HM := hide hm
  have m9 : m.length ≤ 9 := by omega
  clear hcur hgr hM hmc hr hl0 hmb hm
  go_wp2
  go_loopw [12, 30] (fun vp vi wr => ∃ (i : Nat) (xs : List Int), i ≤ L ∧ vi = .int .i64 i ∧ xs.length = i ∧ Own wr w1.heap.size vp xs ∧ CurS wr w.heap.size (.slice a0 zs0.length cap0) (5000 + 2 * i) ∧ w1.grownBy wr (some w.heap.size)) (fun _ vi _ => L - (intOf vi).toNat)
  case atStart => exact ⟨0, [], Nat.zero_le _, rfl, rfl, World.ownsRow_nil _ _ _ _, C.out, World.grownBy.refl _ _⟩
  case round =>
    obtain ⟨i, xs, hi, rfl, hxl, ho, hc, hg⟩ := hrel
    have O := hide ho
    have C2 := hide hc
    have G2 := hide hg
    have XL := hide hxl
    have s1 := hg.size
    clear ho hc hg hxl
    by_cases hlt : i < L
    · have hlt' : (i : Int) < (L : Int) := by omega
      obtain ⟨vr, hvr⟩ : ∃ vr, vr = u12 := ⟨_, rfl⟩
      subst hvr
      go_wp2_with fail
      refine (pick_calls w.heap.size _ (5000 + 2 * i) 256 _ C2.out (by omega) (by omega) (by omega)).mono ?_
      rintro e w4 ⟨z, hz, rfl, hc4, hg4⟩
      have C4 := hide hc4
      have G4 := hide (grown_trans G2.out hg4)
      have O4 := hide (own_keep O.out hg4 (by omega))
      clear hc4 hg4
      have O5 : Hid (Own (w4.alloc (.cells #[.int .i64 (z : Int)] 3)) w1.heap.size vr xs) := O4.out.alloc _
      have XL2 := XL.out
      go_wp2_with (at_builtin; refine wpList_append_rd rfl (.tmp 32) (.tmp 35) rfl w1.heap.size _ xs.length xs [(z : Int)] rfl O5.out _ rfl rd_single (by simp; omega) (by have := G4.out.size; simp; omega) ?_)
      intro v' w5 ho5 hg5
      have hg5' : w4.grownBy w5 vr.ownBlock := Gf.grownBy_trans (World.grownBy_alloc _ _ _) hg5
      have hfar : ∀ b, vr.ownBlock = some b → w1.heap.size ≤ b := fun b hb => (O4.out.lt b hb).1
      have G5 := hide (grown_far G4.out hg5' hfar)
      have C5 : Hid (CurS w5 w.heap.size (.slice a0 zs0.length cap0) (5000 + 2 * (i + 1))) := by
        refine (CurS.far C4.out hg5' (fun b hb => by have := hfar b hb; omega) (fun w' h' => LO.out w' (grown_low (grown_trans G.out (grown_trans G5.out h')) (by simp)))).mono ?_
        omega
      have O6 := hide ho5
      clear ho5 hg5 hg5' hfar
      go_wp2
      go_roundw
      case rel => exact ⟨i + 1, xs ++ [(z : Int)], by omega, by go_num, by simp; exact XL2, O6.out, C5.out, G5.out⟩
      case measure => simp [intOf]; omega
    · obtain rfl : i = L := by omega
      obtain ⟨vr, hvr⟩ : ∃ vr, vr = u12 := ⟨_, rfl⟩
      subst hvr
      go_wp2_with fail
      obtain ⟨N, hN⟩ : ∃ N : Nat, N = d + 1 := ⟨_, rfl⟩
      rw [show (d : Int) + 1 = (N : Int) by omega]
      refine (pick_calls w.heap.size _ (5000 + 2 * i) N _ C2.out (by omega) (by omega) (by omega)).mono ?_
      rintro e w4 ⟨z, hz, rfl, hc4, hg4⟩
      have G4 := hide (grown_trans G2.out hg4)
      have O4 := hide (own_keep O.out hg4 (by omega)).rd
      have M4 := hide (M.out.chg (grown_chg G4.out) (.inr (by simp))).rd
      have hz2 : z ≤ d := by omega
      have BB := hide (cur_below (grown_trans G.out G4.out))
      have XL2 := XL.out
      clear hc4 hg4 hN hz
      go_wp2
      try simp only [Exit.inBlock, Exit.then]
      refine bodyPost_ret (results_five rfl _ _ _) rfl ?_
      exact ⟨d, q, z, _, _, m, xs, rfl, M4.out, O4.out, ⟨⟨d1, d5⟩, ⟨q1, q4⟩, HM.out, hz2, by omega⟩, BB.out⟩
end Go.Proofs.YtogopakmebiomaaDoor

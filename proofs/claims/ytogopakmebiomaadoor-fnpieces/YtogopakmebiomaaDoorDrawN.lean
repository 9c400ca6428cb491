/-
  Two lists of pieces drawn, the second one with some first numbers turned. Each contract says what it asks.
-/
import Derived.Test.YtogopakmebiomaaDoorDrawL
import Derived.Test.YtogopakmebiomaaDoorCp
namespace Go.Proofs.YtogopakmebiomaaDoor
open Go.RowKit

set_option maxRecDepth 100000 in
set_option maxHeartbeats 3200000 in
theorem drawDistanceOf_calls (cv : Value) (w : World) (h : RdB w cv) :
    Calls Tryd.prog 55 #[cv] w fun e w' => ∃ (v u : Value) (a b : List (List Int)), e = .returned (.tuple #[v, u]) ∧ RdM w' v a ∧ RdM w' u b ∧ (a.length ≤ 9 ∧ b.length ≤ 9) ∧ Below w.heap.size w w' := by
  have C0 := hide (cur_new h)
  have LO := hide (draw_low h)
  obtain ⟨a0, cap0, zs0, rfl, _⟩ := h
  go_enter Tryd.func55, Tryd.ntmps55
  go_wp2_with fail
  refine (coded_calls w.heap.size _ 0 _ C0.out (by omega) LO.out).mono ?_
  rintro e w1 ⟨d, q, vl, vx, rfl, hc⟩
  obtain ⟨d1, d5, q1, q4, ⟨m, L, ⟨vs, hM⟩, hm, hL, hr⟩, ⟨xs, hx, ⟨hxl, hxn⟩, hxb⟩, hcur, hgr⟩ := hc
  have G := hide hgr
  have m9 : m.length ≤ 9 := by omega
  have m1 : 0 < m.length := by omega
  have M := hide hM
  have X := hide hx
  have XN := hide hxn
  have LE : Hid (∀ i, i < m.length → (m.getD i []).length ≤ 1048576) := fun i hi => by
    rw [hr _ (by rw [List.getD_eq_getElem?_getD, List.getElem?_eq_getElem hi]; simp)]
    omega
  have s0 := hgr.size
  clear hcur hgr hM hx hxn hxb hr hm
  go_wp2_with fail
  refine (l2Own_calls _ m _ M.out.rd (by omega) LE.out).mono ?_
  rintro e w2 ⟨vo, rfl, ⟨vs2, hM2⟩, hb2⟩
  have M2 := hide hM2
  have RX := hide (X.out.below hb2)
  have sw : w.heap.size ≤ w1.heap.size := by simp at s0; omega
  have HB := hide hb2
  have s2 := hb2.size
  clear hM2 hb2
  obtain ⟨og, ocap, rfl⟩ : ∃ g cap, vo = .slice (some ⟨g, 0, none⟩) m.length cap := by
    obtain ⟨g, cap, e, _⟩ := M2.out.open m1
    exact ⟨g, cap, e⟩
  obtain ⟨xa, xc, rfl⟩ : ∃ a c, vx = .slice a xs.length c := by
    obtain ⟨a, c, e, _⟩ := RX.out
    exact ⟨a, c, e⟩
  go_wp2
  go_loopw [26] (fun vi wr => ∃ (i : Nat) (b : List (List Int)), i ≤ xs.length ∧ vi = .int .i64 i ∧ b.length = m.length ∧ MatV wr w1.heap.size w2.heap.size (.slice (some ⟨og, 0, none⟩) m.length ocap) vs2 b ∧ Chg w1.heap.size w2.heap.size w2 wr) (fun vi _ => xs.length - (intOf vi).toNat)
  case atStart => exact ⟨0, m, Nat.zero_le _, rfl, rfl, M2.out, Chg.refl _ _ _⟩
  case round =>
    obtain ⟨i, b, hi, rfl, hbl, hM3, hch⟩ := hrel
    have M3 := hide hM3
    have CH := hide hch
    have BL := hide hbl
    clear hM3 hch hbl
    by_cases hlt : i < xs.length
    · have hlt' : (i : Int) < (xs.length : Int) := by omega
      have RX3 : Rd wr (.slice xa xs.length xc) xs := X.out.below (HB.out.trans (CH.out.below (Nat.le_refl _) s2))
      obtain ⟨xb, xo, u, rfl, hcx, hu⟩ := RX3.row i hlt
      obtain ⟨x, hx⟩ : ∃ x, x = xs.getD i 0 := ⟨_, rfl⟩
      have hx0 : 0 ≤ x := by
        rw [hx]
        exact XN.out _ (by rw [List.getD_eq_getElem?_getD, List.getElem?_eq_getElem hlt]; simp)
      rw [← hx] at hu
      subst hu
      clear hx RX3
      obtain ⟨K, rfl⟩ := Int.eq_ofNat_of_zero_le hx0
      by_cases hK : K < m.length
      · have hK' : (K : Int) < (m.length : Int) := by omega
        have hKb : K < b.length := by rw [BL.out]; exact hK
        have hcell := M3.out.cell K hKb
        have hrow := M3.out.row K hKb
        by_cases hz : (b.getD K []).length = 0
        · obtain ⟨ra, rc, hre⟩ : ∃ a c, vs2.getD K nilRow = .slice a 0 c := by
            obtain ⟨a, c, e, _⟩ := hrow.rd
            rw [hz] at e
            exact ⟨a, c, e⟩
          rw [hre] at hcell
          clear hrow hz hre
          go_wp2
          go_roundw
          case rel => exact ⟨i + 1, b, by omega, by go_num, BL.out, M3.out, CH.out⟩
          case measure => simp [intOf]; omega
        · obtain ⟨rg, rcap, hre, r1, r2, r3, r4⟩ := hrow.open1 (by omega)
          obtain ⟨n, hn⟩ : ∃ n, n = (b.getD K []).length := ⟨_, rfl⟩
          rw [← hn] at hre hz
          have n0 : (0 : Int) < (n : Int) := by omega
          rw [hre] at hcell hrow
          obtain ⟨hf, hc0⟩ := hrow.at 0 (by omega)
          obtain ⟨y, hy⟩ : ∃ y, y = (b.getD K []).getD 0 0 := ⟨_, rfl⟩
          rw [← hy] at hc0
          have W := hide hrow
          have RE := hide hre
          have HKB := hide hKb
          clear hrow hre hn hy hKb
          go_wp2
          go_roundw
          case rel =>
            have hw := W.out.put 0 (bits .xor .i64 y 1)
            have hgg : wr.grownBy (wr.setCell ⟨rg, 0, none⟩ (.int .i64 (bits .xor .i64 y 1))) (vs2.getD K nilRow).ownBlock := by rw [RE.out]; exact hw.2
            exact ⟨i + 1, b.set K ((b.getD K []).set 0 (bits .xor .i64 y 1)), by omega, by go_num, by rw [List.length_set]; exact BL.out, M3.out.write K HKB.out _ (by rw [RE.out]; exact hw.1) hgg, CH.out.trans (M3.out.writeChg K HKB.out hgg)⟩
          case measure => simp [intOf]; omega
      · have hK' : ¬ (K : Int) < (m.length : Int) := by omega
        go_wp2
        go_roundw
        case rel => exact ⟨i + 1, b, by omega, by go_num, BL.out, M3.out, CH.out⟩
        case measure => simp [intOf]; omega
    · obtain rfl : i = xs.length := by omega
      have B1 := HB.out.trans (CH.out.below (Nat.le_refl _) s2)
      have R1 := hide (M.out.rd.below B1)
      have R2 := hide M3.out.rd
      have BB := hide (Below.thenChg (cur_below G.out) (Chg.ofBelow (lo := w1.heap.size) (hi := w1.heap.size) B1) sw)
      clear B1
      go_wp2
      go_ret2
      exact ⟨_, _, m, b, rfl, R1.out, R2.out, ⟨by omega, by rw [BL.out]; omega⟩, BB.out⟩
end Go.Proofs.YtogopakmebiomaaDoor

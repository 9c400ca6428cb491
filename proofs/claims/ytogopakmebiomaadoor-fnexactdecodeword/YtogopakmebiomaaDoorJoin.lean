/-
  Rows put behind rows: a copy into part of a list of the call's own, and the program's joinRows. Each contract says what it asks.
-/
import Derived.Test.YtogopakmebiomaaDoorRank
import Derived.Test.YtogopakmebiomaaDoorCopyAt
import Derived.Deep.RegionLaw
namespace Go.Proofs.YtogopakmebiomaaDoor
open Go.RowKit

def joinI (l r : List (List Int)) : List (List Int) := (List.range l.length).map fun i => l.getD i [] ++ r.getD i []
theorem joinI_length (l r : List (List Int)) : (joinI l r).length = l.length := by simp [joinI]
theorem joinI_get (l r : List (List Int)) (i : Nat) (h : i < l.length) : (joinI l r).getD i [] = l.getD i [] ++ r.getD i [] := by simp [joinI, h]
theorem spl_two (x y : List Int) (c d : Nat) (hx : x.length = c) (hy : y.length = d) : spl (spl (List.replicate (c + d) 0) 0 x) c y = x ++ y := by
  subst hx hy
  simp [spl]

set_option maxRecDepth 100000 in
set_option maxHeartbeats 1600000 in
theorem joinRows_calls (lv rv : Value) (l r : List (List Int)) (n c d : Nat) (w : World) (hl : RdM w lv l) (hr : RdM w rv r) (hln : l.length = n) (hrn : r.length = n) (hc : ∀ i, i < n → (l.getD i []).length = c) (hd : ∀ i, i < n → (r.getD i []).length = d)
    (hn8 : n ≤ 1048576) (hc1 : 1 ≤ c) (hc8 : c ≤ 4096) (hd1 : 1 ≤ d) (hd8 : d ≤ 4096) :
    Calls Tryd.prog 143 #[lv, rv] w fun e w' => ∃ v', e = .returned v' ∧ Mat w' w.heap.size w'.heap.size v' (joinI l r) ∧ Below w.heap.size w w' := by
  have RL := hide hl
  have RR := hide hr
  obtain ⟨la, lcap, rfl, _⟩ := hl
  obtain ⟨ra, rcap, rfl, _⟩ := hr
  have HC := hide hc
  have HD := hide hd
  obtain ⟨J, hJ⟩ : ∃ J, J = joinI l r := ⟨_, rfl⟩
  rw [← hJ]
  have hJl : J.length = n := by rw [hJ, joinI_length, hln]
  have hJg : ∀ k, k < n → J.getD k [] = l.getD k [] ++ r.getD k [] := fun k hk => by rw [hJ, joinI_get _ _ _ (by rw [hln]; exact hk)]
  have JL := hide hJl
  have JG := hide hJg
  have LN := hide hln
  have RN := hide hrn
  have hln' : l.length = n := hln
  clear hc hd hJ hJl hJg
  rw [hln, hrn]
  clear hln hrn hln'
  go_enter Tryd.func143, Tryd.ntmps143
  go_wp2_with (at_make; refine wpList_make_rows rfl _ _ rfl _ _ n rfl rfl (by omega) (by omega) hn8 ?_)
  intro w0 hm0 hg0
  have M0 := hide hm0
  have G0 := hide hg0
  clear hm0 hg0
  go_wp2
  go_loopw [6, 7, 13] (fun _ _ vi wr => ∃ (k : Nat) (vs : List Value), k ≤ n ∧ vi = .int .i64 k ∧ MatV wr w.heap.size wr.heap.size (.slice (some ⟨w.heap.size, 0, none⟩) n n) vs (toTo J k) ∧ Below w.heap.size w wr) (fun _ _ vi _ => n - (intOf vi).toNat)
  case atStart =>
    refine ⟨0, List.replicate n nilRow, Nat.zero_le _, rfl, ?_, (Below.refl _ _).grown G0.out (Nat.le_refl _) (fun k h => by cases h)⟩
    rw [toTo_zero, JL.out]
    exact M0.out
  case round =>
    obtain ⟨k, vs, hk, rfl, hm, hb⟩ := hrel
    have M := hide hm
    have B := hide hb
    clear hm hb
    by_cases hlt : k < n
    · have hlt' : (k : Int) < (n : Int) := by omega
      have rl := RL.out
      have rr := RR.out
      rw [LN.out] at rl
      rw [RN.out] at rr
      obtain ⟨lb, loff, lu, rfl, hlb, hlc, hlu⟩ := rl.rowAt k (by rw [LN.out]; exact hlt)
      obtain ⟨rb, roff, ru, rfl, hrb, hrc, hru⟩ := rr.rowAt k (by rw [RN.out]; exact hlt)
      clear rl rr
      obtain ⟨x, hx⟩ : ∃ x, x = l.getD k [] := ⟨_, rfl⟩
      obtain ⟨y, hy⟩ : ∃ y, y = r.getD k [] := ⟨_, rfl⟩
      have hxl : x.length = c := by rw [hx]; exact HC.out k hlt
      have hyl : y.length = d := by rw [hy]; exact HD.out k hlt
      rw [← hx] at hlu
      rw [← hy] at hru
      have hjg := JG.out k hlt
      rw [← hx, ← hy] at hjg
      have JK := hide hjg
      have LU := hide hlu
      have RU := hide hru
      obtain ⟨lua, luc, hlv, _⟩ := hlu
      obtain ⟨rua, ruc, hrv, _⟩ := hru
      rw [hxl] at hlv
      rw [hyl] at hrv
      subst hlv hrv
      have XL := hide hxl
      have YL := hide hyl
      have hlc0 : wr.cell? ⟨lb, loff + k, none⟩ = _ := (B.out.cell (p := ⟨lb, loff + k, none⟩) hlb).trans hlc
      have hrc0 : wr.cell? ⟨rb, roff + k, none⟩ = _ := (B.out.cell (p := ⟨rb, roff + k, none⟩) hrb).trans hrc
      clear hx hy hxl hyl hjg
      go_wp2_with (at_make; refine wpList_make_ints rfl _ _ rfl wr.heap.size _ _ (c + d) rfl rfl (by omega) (by omega) (by omega) (Nat.le_refl _) ?_)
      intro w1 hx hg1
      have hb1 : Below wr.heap.size wr w1 := (Below.refl _ _).grown hg1 (Nat.le_refl _) (fun k h => by cases h)
      have hkl : k < (toTo J k).length := by rw [toTo_length _ k (by rw [JL.out]; exact hk), JL.out]; exact hlt
      have hM1 := M.out.below hb1
      have hc2 : w1.frozen? ⟨w.heap.size, k, none⟩ = false := World.ownsRow.frozenAt (by have := hM1.head; rwa [← hM1.lenEq] at this) k
      have hc3 := hM1.cell k hkl
      have L := M.out.lay k hkl hb1 _ _ hx M.out.sizeLo (Nat.le_refl _)
      have hvl : k < vs.length := by rw [M.out.len]; exact hkl
      have hcell2 := L.1.cell k (by rw [List.length_set]; exact hkl)
      rw [getD_set _ _ _ _ _ hvl, if_pos rfl] at hcell2
      have hO2 := L.1.row k (by rw [List.length_set]; exact hkl)
      rw [getD_set _ _ _ _ _ hvl, if_pos rfl, getD_set _ _ _ _ _ hkl, if_pos rfl] at hO2
      have BW := hide ((B.out.trans (hb1.mono B.out.size)).setCell (p := ⟨w.heap.size, k, none⟩) (Nat.le_refl _) (.slice (some ⟨wr.heap.size, 0, none⟩) (c + d) (c + d)))
      have LY := hide L
      have O2 := hide hO2
      have VL := hide hvl
      have KL := hide hkl
      have hg0 : w.heap.size ≤ wr.heap.size := B.out.size
      have hcell3 := hcell2
      have CL2 := hide hcell2
      have hlc2 : (w1.setCell ⟨w.heap.size, k, none⟩ (.slice (some ⟨wr.heap.size, 0, none⟩) (c + d) (c + d))).cell? ⟨lb, loff + k, none⟩ = _ := (BW.out.cell (p := ⟨lb, loff + k, none⟩) hlb).trans hlc
      have hrc2 : (w1.setCell ⟨w.heap.size, k, none⟩ (.slice (some ⟨wr.heap.size, 0, none⟩) (c + d) (c + d))).cell? ⟨rb, roff + k, none⟩ = _ := (BW.out.cell (p := ⟨rb, roff + k, none⟩) hrb).trans hrc
      clear hx hg1 hb1 hM1 L hO2 hvl hcell3
      go_wp2_with (refine wpList_copy_at rfl (.tmp 33) (.tmp 34) rfl w.heap.size wr.heap.size (c + d) 0 (c + d) (c + d) c luc lua (List.replicate (c + d) 0) x rfl rfl O2.out (LU.out.below BW.out) (by rw [XL.out]; omega) (by rw [XL.out]; omega) (by rw [XL.out, List.length_replicate]; omega) ?_)
      intro w3 hO3 hg3
      have hM3 := LY.out.1.write k (by rw [List.length_set]; exact KL.out) _ (by rw [getD_set _ _ _ _ _ VL.out, if_pos rfl]; exact hO3) (by rw [getD_set _ _ _ _ _ VL.out, if_pos rfl]; exact hg3)
      rw [List.set_set] at hM3
      have hB3 : Below w.heap.size w w3 := BW.out.grown hg3 BW.out.size (fun k hk => by cases hk; exact hg0)
      have M3 := hide hM3
      have B3 := hide hB3
      have O3 := hide hO3
      have hrc3 : w3.cell? ⟨rb, roff + k, none⟩ = _ := (hB3.cell (p := ⟨rb, roff + k, none⟩) hrb).trans hrc
      have hcell4 := hM3.cell k (by rw [List.length_set]; exact KL.out)
      rw [getD_set _ _ _ _ _ VL.out, if_pos rfl] at hcell4
      have RU3 : Hid (Rd w3.drew (.slice rua d ruc) y) := (RU.out.below hB3).below (below_drew' (Below.refl _ _))
      have O3d : Hid (Own w3.drew w.heap.size (.slice (some ⟨wr.heap.size, 0, none⟩) (c + d) (c + d)) (spl (List.replicate (c + d) 0) 0 x)) := hO3.drew
      have i0 : (0 : Int) ≤ (k : Int) := by omega
      have i1 : (0 : Int) ≤ (c : Int) := by omega
      have i2 : (c : Int) ≤ ((c + d : Nat) : Int) := by omega
      have i3 : ¬ (c + d = c) := by omega
      have i4 : c + d - c = d := by omega
      have i5 : ¬ (d = 0) := by omega
      have i6 : (c : Int) ≤ (c : Int) + (d : Int) := by omega
      have Z3 := hide hg3.size
      clear hM3 hB3 hO3 hg3
      go_wp2
      go_region_law (refine step_copy_at rfl (.tmp 42) (.tmp 46) rfl w.heap.size wr.heap.size (c + d) c d d d ruc rua (spl (List.replicate (c + d) 0) 0 x) y (by simp [Act.eval, Act.put]) (by simp [Act.eval, Act.put]) O3d.out RU3.out (by rw [YL.out]; omega) (by rw [YL.out]; omega) (by rw [YL.out, spl_length _ _ _ (by rw [XL.out, List.length_replicate]; omega), List.length_replicate]; omega) ?_; intro w4 hO4 hg4)
      all_goals
        have hM4 := M3.out.write k (by rw [List.length_set]; exact KL.out) _ (by rw [getD_set _ _ _ _ _ VL.out, if_pos rfl]; exact hO4) (by rw [getD_set _ _ _ _ _ VL.out, if_pos rfl]; exact ⟨hg4.os, hg4.tape, hg4.output, hg4.size, hg4.block⟩)
        rw [List.set_set, spl_two x y c d XL.out YL.out, ← JK.out, toTo_step _ k (by rw [JL.out]; exact hlt)] at hM4
        have hB4 : Below w.heap.size w w4 := (below_drew' B3.out).grown hg4 B3.out.size (fun k hk => by cases hk; exact hg0)
        have M4 := hide hM4
        have B4 := hide hB4
        have Z4 := hide hg4.size
        clear hM4 hB4 hO4 hg4
        go_wp2
        go_roundw
        case rel => exact ⟨k + 1, _, by omega, by go_num, M4.out.wider (Nat.le_refl _) (Nat.le_trans Z3.out Z4.out), B4.out⟩
        case measure => simp [intOf]; omega
    · obtain rfl : k = n := by omega
      go_wp2
      go_ret
      have hm := M.out
      have e := toTo_end J
      rw [JL.out] at e
      rw [e] at hm
      exact ⟨_, rfl, ⟨_, hm⟩, B.out⟩
end Go.Proofs.YtogopakmebiomaaDoor

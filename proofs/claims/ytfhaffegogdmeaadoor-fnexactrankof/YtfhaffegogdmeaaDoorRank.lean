/-
  How many rows are not told by others: the program's RankOf and its model's, at all rows. The program's table of rests must hold its seven numbers where the program's own function is called.
-/
import Derived.Test.YtfhaffegogdmeaaDoorSClear
import Derived.Test.YtfhaffegogdmeaaDoorCp
namespace Go.Proofs.YtfhaffegogdmeaaDoor
open Go.RowKit
open Gf (ci nat ciM swapM pf piv Sh AllLt clr redM)

theorem ciM_nat {m : List (List Int)} (h : goodM m = true) : ciM (m.map nat) = m := by
  unfold ciM
  rw [List.map_map]
  conv => rhs; rw [← List.map_id m]
  apply List.map_congr_left
  intro r hr
  simp only [goodM, Bool.and_eq_true] at h
  have := List.all_eq_true.1 h.2.2.2 r hr
  exact Gf.ci_nat this
theorem sh_nat {m : List (List Int)} (h : goodM m = true) : Sh (m.map nat) m.length (m.getD 0 []).length := by
  have f := (goodM_rows h).2.2.2.2
  refine ⟨by simp, fun i hi => ?_, fun i hi => ?_⟩
  · rw [natM_get, Gf.nat_length]; exact (f i hi).1
  · rw [natM_get]; exact Gf.nat_lt (f i hi).2
theorem dropM_zero (m : List (List Int)) : dropM m 0 = m := by simp [dropM]
def rankR (m : List (List Int)) : Int × Bool := if goodM m = true then (((redM (m.map nat) (m.getD 0 []).length).1 : Nat), true) else (0, false)

set_option maxRecDepth 100000 in
set_option maxHeartbeats 1600000 in
theorem rankOf_calls (v : Value) (m : List (List Int)) (w : World) (hT : Gf.Tab w) (h : RdM w v m) :
    Calls Tryd.prog 32 #[v] w fun e w' => e = .returned (.tuple #[.int .i64 (rankR m).1, .bool (rankR m).2]) ∧ Below w.heap.size w w' := by
  have R := hide h
  have T := hide hT
  obtain ⟨a, cap, rfl, _⟩ := h
  clear hT
  cases hg : goodM m with
  | false =>
    have G := hide hg
    have e : rankR m = (0, false) := by simp [rankR, hg]
    rw [e]
    clear hg e
    go_enter Tryd.func32, Tryd.ntmps32
    go_wp2_with fail
    refine (goodMatrix_calls _ m _ R.out).mono ?_
    rw [G.out]
    rintro e w1 ⟨rfl, hb⟩
    have B := hide hb
    clear hb
    go_wp2
    go_ret2
    exact ⟨rfl, B.out⟩
  | true =>
    have G := hide hg
    obtain ⟨f1, f2, f3, f4, f5⟩ := goodM_rows hg
    obtain ⟨M, hM⟩ : ∃ M, M = m.map nat := ⟨_, rfl⟩
    have hcm := ciM_nat hg
    have hsh := sh_nat hg
    rw [← hM] at hcm hsh
    obtain ⟨c, hc⟩ : ∃ c, c = (m.getD 0 []).length := ⟨_, rfl⟩
    have e : rankR m = ((((redM M c).1 : Nat) : Int), true) := by simp [rankR, hg, hM, hc]
    rw [e]
    rw [← hc] at hsh f3 f4
    have hll : ∀ i, i < m.length → 0 ≤ (m.getD i []).length ∧ (m.getD i []).length ≤ 1048576 := fun i hi => by have := (f5 i hi).1; rw [← hc] at this; omega
    obtain ⟨b, off, u0, rfl, hbl, hcl, hu0⟩ := R.out.rowAt 0 (by omega)
    rw [Nat.add_zero] at hcl
    obtain ⟨ua, uc, hu, _⟩ := hu0
    rw [← hc] at hu
    subst hu
    have CM := hide hcm
    have SH := hide hsh
    have LL := hide hll
    have CL := hide hcl
    clear hg hM hcm hsh hc e f5 hll hcl
    go_enter Tryd.func32, Tryd.ntmps32
    go_wp2_with fail
    refine (goodMatrix_calls _ m _ R.out).mono ?_
    rw [G.out]
    rintro e w1 ⟨rfl, hb⟩
    have B := hide hb
    have hc1 : w1.cell? ⟨b, off, none⟩ = _ := (hb.cell (p := ⟨b, off, none⟩) hbl).trans CL.out
    have hbs : b < w1.heap.size := Nat.lt_of_lt_of_le hbl hb.size
    have hm0 : (0 : Int) < (m.length : Int) := by omega
    have C1 := hide hc1
    have T1 := hide (Gf.Tab.below T.out hb)
    have RD := hide ((R.out.below hb).below (below_drew' (Below.refl _ _)))
    have P0 := hide (Gf.tab_pos T1.out)
    clear hb
    go_wp2
    go_region_with (first | (go_at_call 75; refine (rowsFrom_calls _ m 0 w1.drew RD.out (by omega) LL.out).mono ?_; rintro e w2 ⟨v2, rfl, hm2, hb2⟩; have hc2 : w2.cell? ⟨b, off, none⟩ = _ := (hb2.cell (p := ⟨b, off, none⟩) hbs).trans C1.out) | (go_at_call 74; refine (reduceRows_calls v2 M m.length c c w1.heap.size w2.heap.size w2 (Gf.Tab.below T1.out (Below.trans (below_drew' (Below.refl _ _)) hb2)) (by rw [dropM_zero, ← CM.out] at hm2; exact hm2) SH.out (by omega) (Nat.le_refl _) (by omega) (by omega) P0.out).mono ?_; rintro e w3 ⟨rfl, hm3, hc3⟩))
    all_goals
      have hbb : Below w1.heap.size w1 w3 := Below.trans (Below.trans (below_drew' (Below.refl _ _)) hb2) (hc3.below (Nat.le_refl _) hb2.size)
      have BB := hide (B.out.trans (hbb.mono B.out.size))
      clear hm2 hb2 hm3 hc3 hbb
      go_wp2
      go_ret2
      exact ⟨rfl, BB.out⟩
end Go.Proofs.YtfhaffegogdmeaaDoor

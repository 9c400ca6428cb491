/-
  How many rows are not told by others: the program's RankOf and its model's, at all rows. The program's table of rests must hold its seven numbers where the program's own function is called.
-/
import Derived.Test.YtogopakmebiomaaDoorSClear
import Derived.Test.YtogopakmebiomaaDoorCp
namespace Go.Proofs.YtogopakmebiomaaDoor
open Go.RowKit
open Gf (ci nat ciM swapM pf piv Sh AllLt clr redM)

theorem ciM_nat {m : List (List Int)} (h : goodM m = true) : ciM (m.map nat) = m := by
  unfold ciM
  rw [List.map_map]
  conv => rhs; rw [← List.map_id m]
  apply List.map_congr_left
  intro r hr
  simp only [goodM, Bool.and_eq_true] at h
  have := List.all_eq_true.1 h.2.2.2 r hr
  exact Gf.ci_nat this
theorem sh_nat {m : List (List Int)} (h : goodM m = true) : Sh (m.map nat) m.length (m.getD 0 []).length := by
  have f := (goodM_rows h).2.2.2.2
  refine ⟨by simp, fun i hi => ?_, fun i hi => ?_⟩
  · rw [natM_get, Gf.nat_length]; exact (f i hi).1
  · rw [natM_get]; exact Gf.nat_lt (f i hi).2
theorem dropM_zero (m : List (List Int)) : dropM m 0 = m := by simp [dropM]
def rankR (m : List (List Int)) : Int × Bool := if goodM m = true then (((redM (m.map nat) (m.getD 0 []).length).1 : Nat), true) else (0, false)

end Go.Proofs.YtogopakmebiomaaDoor

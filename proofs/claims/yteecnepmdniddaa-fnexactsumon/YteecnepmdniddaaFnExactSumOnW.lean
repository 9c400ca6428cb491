/-
  The law that holds the program's SumOn against its model's: at every number and text the call returns true, and nothing that was there is written. No condition.
-/
import Derived.Test.YteecnepmdniddaaSum
namespace Go.Proofs.Yteecnepmdniddaa
open Go.RowKit

set_option maxRecDepth 100000 in
set_option maxHeartbeats 800000 in
theorem fnExactSumOn_walk (c : Int) (s : ByteArray) (w : World) (_ : (Lit.int .i64 c).wf = true) (hs : s.size ≤ maxLen) :
    Calls Try.prog 6 #[.int .i64 c, .string s] w fun e w' => e = .returned (.bool true) ∧ Below w.heap.size w w' := by
  have hm := hs
  unfold maxLen at hm
  by_cases hn : s.size ≤ 1048576
  case neg =>
    have h' : (1048576 : Int) < (s.size : Int) := by omega
    go_enter Try.func6, Try.ntmps6
    go_wp2
    go_ret
    exact ⟨rfl, Below.refl _ _⟩
  have hn' : ¬ (1048576 : Int) < (s.size : Int) := by omega
  go_enter Try.func6, Try.ntmps6
  go_wp2_with fail
  refine (sSumOn_calls c s _ hs).mono ?_
  rintro e w1 ⟨rfl, rfl⟩
  go_wp2_with fail
  refine (sumOn_calls c s _ hs).mono ?_
  rintro e w2 ⟨rfl, b⟩
  generalize (onR c s).1 = x
  generalize (onR c s).2 = y
  go_wp2
  go_ret
  exact ⟨rfl, b⟩
end Go.Proofs.Yteecnepmdniddaa

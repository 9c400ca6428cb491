/-
  The law that holds the program's SumOf against its model's: at every text the call returns true, and nothing that was there is written. No condition.
-/
import Derived.Test.YteecnepmdniddaaSum
namespace Go.Proofs.Yteecnepmdniddaa
open Go.RowKit

set_option maxRecDepth 100000 in
set_option maxHeartbeats 800000 in
theorem fnExactSumOf_walk (s : ByteArray) (w : World) (hs : s.size ≤ maxLen) :
    Calls Try.prog 5 #[.string s] w fun e w' => e = .returned (.bool true) ∧ Below w.heap.size w w' := by
  have hm := hs
  unfold maxLen at hm
  by_cases hn : s.size ≤ 1048576
  case neg =>
    have h' : (1048576 : Int) < (s.size : Int) := by omega
    go_enter Try.func5, Try.ntmps5
    go_wp2
    go_ret
    exact ⟨rfl, Below.refl _ _⟩
  have hn' : ¬ (1048576 : Int) < (s.size : Int) := by omega
  go_enter Try.func5, Try.ntmps5
  go_wp2_with fail
  refine (sSumOf_calls s _ hs).mono ?_
  rintro e w1 ⟨rfl, rfl⟩
  go_wp2_with fail
  refine (sumOf_calls s _ hs).mono ?_
  rintro e w2 ⟨rfl, b⟩
  generalize (onR 0 s).1 = x
  generalize (onR 0 s).2 = y
  go_wp2
  go_ret
  exact ⟨rfl, b⟩
end Go.Proofs.Yteecnepmdniddaa

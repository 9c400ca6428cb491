/-
  The law that holds the program's FingerOf against its model's: at every text the call returns true, and nothing that was there is written. No condition.
-/
import Derived.Test.YtaamkkfjafedgaaFig
namespace Go.Proofs.Ytaamkkfjafedgaa
open Go.RowKit
set_option linter.unusedVariables false

set_option maxRecDepth 100000 in
set_option maxHeartbeats 800000 in
theorem fnExactFingerOf_walk (s : ByteArray) (w : World) (hs : s.size ≤ maxLen) :
    Calls Try.prog 5 #[.string s] w fun e w' => e = .returned (.bool true) ∧ Below w.heap.size w w' := by
  have ms := hs
  unfold maxLen at ms
  by_cases ns : s.size ≤ 1048576
  case neg =>
    have h' : (1048576 : Int) < (s.size : Int) := by omega
    go_enter Try.func5, Try.ntmps5
    go_wp2
    go_ret
    exact ⟨rfl, Below.refl _ _⟩
  have ns' : ¬ (1048576 : Int) < (s.size : Int) := by omega
  have S0 := hide (Below.refl w.heap.size w)
  go_enter Try.func5, Try.ntmps5
  go_wp2_with fail
  refine Calls.mono (sFingerOf_calls s _ ns) ?_
  rintro e w1 ⟨rfl, b⟩
  have S1 := hide (S0.out.trans (b.mono S0.out.size))
  clear b S0
  go_wp2_with fail
  refine (fingerOf_calls s _ ns).mono ?_
  rintro e w2 ⟨rfl, b⟩
  have S2 := hide (S1.out.trans (b.mono S1.out.size))
  clear b S1
  generalize (fingR s).1 = x0
  generalize (fingR s).2 = x1
  go_wp2
  go_ret
  exact ⟨rfl, S2.out⟩
end Go.Proofs.Ytaamkkfjafedgaa

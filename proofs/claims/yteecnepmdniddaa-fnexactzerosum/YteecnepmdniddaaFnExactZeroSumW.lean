/-
  The law that holds the program's ZeroSum against its model's: at every number the call returns true, and nothing that was there is written. No condition.
-/
import Derived.Test.YteecnepmdniddaaSumZ
namespace Go.Proofs.Yteecnepmdniddaa
open Go.RowKit
set_option linter.unusedVariables false

set_option maxRecDepth 100000 in
set_option maxHeartbeats 800000 in
theorem fnExactZeroSum_walk (n : Int) (w : World) (hn : (Lit.int .i64 n).wf = true) :
    Calls Try.prog 10 #[.int .i64 n] w fun e w' => e = .returned (.bool true) ∧ Below w.heap.size w w' := by
  have S0 := hide (Below.refl w.heap.size w)
  go_enter Try.func10, Try.ntmps10
  go_wp2_with fail
  refine Calls.mono (sZeroSum_calls n _) ?_
  rintro e w1 ⟨rfl, b⟩
  have S1 := hide (S0.out.trans (b.mono S0.out.size))
  clear b S0
  go_wp2_with fail
  refine (zeroSum_calls n _).mono ?_
  rintro e w2 ⟨rfl, b⟩
  have S2 := hide (S1.out.trans (b.mono S1.out.size))
  clear b S1
  generalize (zeroR n).1 = x0
  generalize (zeroR n).2 = x1
  go_wp2
  go_ret
  exact ⟨rfl, S2.out⟩
end Go.Proofs.Yteecnepmdniddaa

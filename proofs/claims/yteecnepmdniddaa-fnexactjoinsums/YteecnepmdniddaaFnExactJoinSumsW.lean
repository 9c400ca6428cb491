/-
  The law that holds the program's JoinSums against its model's: at all numbers the call returns true, and nothing that was there is written. No condition.
-/
import Derived.Test.YteecnepmdniddaaSumZ
namespace Go.Proofs.Yteecnepmdniddaa
open Go.RowKit
set_option linter.unusedVariables false

set_option maxRecDepth 100000 in
set_option maxHeartbeats 800000 in
theorem fnExactJoinSums_walk (a : Int) (b : Int) (n : Int) (w : World) (ha : (Lit.int .i64 a).wf = true) (hb : (Lit.int .i64 b).wf = true) (hn : (Lit.int .i64 n).wf = true) :
    Calls Try.prog 7 #[.int .i64 a, .int .i64 b, .int .i64 n] w fun e w' => e = .returned (.bool true) ∧ Below w.heap.size w w' := by
  have S0 := hide (Below.refl w.heap.size w)
  go_enter Try.func7, Try.ntmps7
  go_wp2_with fail
  refine Calls.mono (sJoinSums_below a b n _) ?_
  rintro e w1 ⟨rfl, b⟩
  have S1 := hide (S0.out.trans (b.mono S0.out.size))
  clear b S0
  go_wp2_with fail
  refine (joinSums_calls a b n _).mono ?_
  rintro e w2 ⟨rfl, b⟩
  have S2 := hide (S1.out.trans (b.mono S1.out.size))
  clear b S1
  generalize (jnR a b n).1 = x0
  generalize (jnR a b n).2 = x1
  go_wp2
  go_ret
  exact ⟨rfl, S2.out⟩
end Go.Proofs.Yteecnepmdniddaa

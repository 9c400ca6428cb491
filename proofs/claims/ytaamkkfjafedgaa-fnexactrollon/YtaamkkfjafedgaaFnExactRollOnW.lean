/-
  The law that holds the program's RollOn against its model's: at all numbers the call returns true, and nothing that was there is written. No condition.
-/
import Derived.Test.YtaamkkfjafedgaaRol
namespace Go.Proofs.Ytaamkkfjafedgaa
open Go.RowKit
set_option linter.unusedVariables false

set_option maxRecDepth 100000 in
set_option maxHeartbeats 800000 in
theorem fnExactRollOn_walk (f : Int) (o : Int) (i : Int) (w : World) (hf : (Lit.int .i64 f).wf = true) (ho : (Lit.int .i64 o).wf = true) (hi : (Lit.int .i64 i).wf = true) :
    Calls Try.prog 6 #[.int .i64 f, .int .i64 o, .int .i64 i] w fun e w' => e = .returned (.bool true) ∧ Below w.heap.size w w' := by
  have S0 := hide (Below.refl w.heap.size w)
  go_enter Try.func6, Try.ntmps6
  go_wp2_with fail
  refine Calls.mono (sRollOn_calls f o i _) ?_
  rintro e w1 ⟨rfl, b⟩
  have S1 := hide (S0.out.trans (b.mono S0.out.size))
  clear b S0
  go_wp2_with fail
  refine (rollOn_calls f o i _).mono ?_
  rintro e w2 ⟨rfl, b⟩
  have S2 := hide (S1.out.trans (b.mono S1.out.size))
  clear b S1
  generalize (rollR f o i).1 = x0
  generalize (rollR f o i).2 = x1
  go_wp2
  go_ret
  exact ⟨rfl, S2.out⟩
end Go.Proofs.Ytaamkkfjafedgaa

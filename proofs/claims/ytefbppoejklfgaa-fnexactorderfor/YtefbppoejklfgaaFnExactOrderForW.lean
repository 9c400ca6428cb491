/-
  The law that holds the program's OrderFor against its model's: at any number the call returns true, and nothing that was there is written. No condition.
-/
import Derived.Test.YtefbppoejklfgaaRmt
namespace Go.Proofs.Ytefbppoejklfgaa
open Go.RowKit
set_option linter.unusedVariables false

set_option maxRecDepth 100000 in
theorem fnExactOrderFor_walk (s : Int) (w : World) :
    Calls Try.prog 7 #[.int .i64 s] w fun e w' => e = .returned (.bool true) ∧ Below w.heap.size w w' := by
  have C1 := hide (sOrderFor_calls s)
  have C2 := hide (orderFor_calls s)
  go_enter Try.func7, Try.ntmps7
  go_wp2_with (first | (go_at_call 25; refine (C1.out _).mono ?_; rintro e w' ⟨rfl, rfl⟩) | (go_at_call 26; refine (C2.out _).mono ?_; rintro e w' ⟨rfl, rfl⟩))
  go_ret
  exact ⟨rfl, Below.refl _ _⟩
end Go.Proofs.Ytefbppoejklfgaa

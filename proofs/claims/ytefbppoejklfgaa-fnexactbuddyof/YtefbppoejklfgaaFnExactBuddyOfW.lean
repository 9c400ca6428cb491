/-
  The law that holds the program's BuddyOf against its model's: at any numbers the call returns true, and nothing that was there is written. No condition.
-/
import Derived.Test.YtefbppoejklfgaaRmt
namespace Go.Proofs.Ytefbppoejklfgaa
open Go.RowKit
set_option linter.unusedVariables false

set_option maxRecDepth 100000 in
theorem fnExactBuddyOf_walk (a o : Int) (w : World) :
    Calls Try.prog 8 #[.int .i64 a, .int .i64 o] w fun e w' => e = .returned (.bool true) ∧ Below w.heap.size w w' := by
  have C1 := hide (sBuddyOf_calls a o)
  have C2 := hide (buddyOf_calls a o)
  go_enter Try.func8, Try.ntmps8
  go_wp2_with (first | (go_at_call 27; refine (C1.out _).mono ?_; rintro e w' ⟨rfl, rfl⟩) | (go_at_call 28; refine (C2.out _).mono ?_; rintro e w' ⟨rfl, rfl⟩))
  go_ret
  exact ⟨rfl, Below.refl _ _⟩
end Go.Proofs.Ytefbppoejklfgaa

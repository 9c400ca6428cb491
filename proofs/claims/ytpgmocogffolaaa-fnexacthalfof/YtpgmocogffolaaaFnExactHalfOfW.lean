/-
  The law that holds the program's HalfOf against its model's: at every number the call returns true, and nothing that was there is written. No condition.
-/
import Derived.Test.YtpgmocogffolaaaJsd
namespace Go.Proofs.Ytpgmocogffolaaa
open Go.RowKit
set_option linter.unusedVariables false

set_option maxRecDepth 100000 in
set_option maxHeartbeats 3200000 in
theorem fnExactHalfOf_walk (a : Int) (w : World) :
    Calls Try.prog 6 #[.int .i64 a] w fun e w' => e = .returned (.bool true) ∧ Below w.heap.size w w' := by
  obtain ⟨ok, hok⟩ := bol_exJ (0 ≤ a ∧ a ≤ 60000)
  have C1 := hide (fun V => sHalfOf_calls a ok V hok)
  have C2 := hide (fun V => halfOf_calls a ok V hok)
  generalize (bif ok then hlf a else 0) = X at C1 C2
  clear hok
  go_enter Try.func6, Try.ntmps6
  go_wp2_with fail
  refine (C1.out _).mono ?_
  rintro e w1 ⟨rfl, rfl⟩
  go_wp2_with fail
  refine (C2.out _).mono ?_
  rintro e w2 ⟨rfl, rfl⟩
  go_wp2
  go_ret
  exact ⟨rfl, Below.refl _ _⟩
end Go.Proofs.Ytpgmocogffolaaa

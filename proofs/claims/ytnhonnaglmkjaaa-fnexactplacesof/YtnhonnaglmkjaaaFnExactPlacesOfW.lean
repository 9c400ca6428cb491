/-
  The law that holds the program's PlacesOf against its model's: at every seed and key the call returns true, and nothing that was there is written. No condition.
-/
import Derived.Test.YtnhonnaglmkjaaaTbp
namespace Go.Proofs.Ytnhonnaglmkjaaa
open Go.RowKit
set_option linter.unusedVariables false

set_option maxRecDepth 100000 in
set_option maxHeartbeats 3200000 in
theorem fnExactPlacesOf_walk (s k : Int) (w : World) :
    Calls Try.prog 5 #[.int .i64 s, .int .i64 k] w fun e w' => e = .returned (.bool true) ∧ Below w.heap.size w w' := by
  obtain ⟨ok, hok⟩ := bol_ex (sdOk s ∧ kOk k)
  have C1 := hide (fun V => sPlacesOf_calls s k ok V hok)
  have C2 := hide (fun V => placesOf_calls s k ok V hok)
  generalize plF ok s k = x at C1 C2
  generalize plS ok s k = y at C1 C2
  clear hok
  have A0 := hide (Hand.start w)
  go_enter Try.func5, Try.ntmps5
  go_wp2_with fail
  refine (C1.out _).mono ?_
  rintro e w1 ⟨rfl, rfl⟩
  go_wp2_with fail
  refine (C2.out _).mono ?_
  rintro e w2 ⟨rfl, rfl⟩
  go_wp2
  go_ret
  exact ⟨rfl, A0.out.below⟩
end Go.Proofs.Ytnhonnaglmkjaaa

/-
  Good frames: the program's function and its model's, call by call, and a frame handed over. No condition.
-/
import Derived.Test.YtefbppoejklfgaaFrL
namespace Go.Proofs.Ytefbppoejklfgaa
open Go.RowKit

theorem ret_bool {a b : Bool} (h : a = b) : Ending.returned (.bool a) = .returned (.bool b) := by rw [h]
theorem below_box (w : World) (o : Obj) : Below w.heap.size w (w.alloc o) := (Below.refl _ _).alloc (Nat.le_refl _) o

end Go.Proofs.Ytefbppoejklfgaa

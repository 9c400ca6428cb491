/-
  Fingers rolled on, by the program and by its model, call by call. No condition.
-/
import Derived.Test.YthmijjcddjlebaaTxm
import Derived.Test.YthmijjcddjlebaaFgm
namespace Go.Proofs.Ythmijjcddjlebaa
open Go.RowKit
set_option linter.unusedVariables false

set_option maxRecDepth 100000 in
theorem rollFinger_calls (f o i : Nat) (w : World) (hf : f < 8191) (ho : o < 256) (hi : i < 256) :
    Calls Try.prog 119 #[.int .i64 f, .int .i64 o, .int .i64 i] w fun e w' => e = .returned (.int .i64 (rf f o i : Nat)) ∧ w = w' := by
  have hr : Hid (((f : Int) * 257 + i + o * 7053) % 8191 = ((rf f o i : Nat) : Int)) := by show _ = _; unfold rf; omega
  generalize rf f o i = y at hr ⊢
  go_enter Try.func119, Try.ntmps119
  go_wp2
  go_ret
  exact ⟨ret_int hr.out, rfl⟩

abbrev rollOk (f o i : Int) : Prop := (0 ≤ f ∧ f < 8191) ∧ (0 ≤ o ∧ o < 256) ∧ (0 ≤ i ∧ i < 256)
def rollR (f o i : Int) : Int × Bool := if rollOk f o i then ((rf f.toNat o.toNat i.toNat : Nat), true) else (0, false)

end Go.Proofs.Ythmijjcddjlebaa

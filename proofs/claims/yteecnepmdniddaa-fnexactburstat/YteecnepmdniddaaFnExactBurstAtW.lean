/-
  The law that holds the program's BurstAt against its model's: at every text and all numbers the call returns true, and nothing that was there is written. No condition.
-/
import Derived.Test.YteecnepmdniddaaBrst
namespace Go.Proofs.Yteecnepmdniddaa
open Go.RowKit
set_option linter.unusedVariables false

set_option maxRecDepth 100000 in
set_option maxHeartbeats 800000 in
theorem fnExactBurstAt_walk (s : ByteArray) (p : Int) (x : Int) (w : World) (hs : s.size ≤ maxLen) (hp : (Lit.int .i64 p).wf = true) (hx : (Lit.int .i64 x).wf = true) :
    Calls Try.prog 9 #[.string s, .int .i64 p, .int .i64 x] w fun e w' => e = .returned (.bool true) ∧ Below w.heap.size w w' := by
  have ms := hs
  unfold maxLen at ms
  by_cases ns : s.size ≤ 1048576
  case neg =>
    have h' : (1048576 : Int) < (s.size : Int) := by omega
    go_enter Try.func9, Try.ntmps9
    go_wp2
    go_ret
    exact ⟨rfl, Below.refl _ _⟩
  have ns' : ¬ (1048576 : Int) < (s.size : Int) := by omega
  have S0 := hide (Below.refl w.heap.size w)
  go_enter Try.func9, Try.ntmps9
  go_wp2_with fail
  refine Calls.mono (sBurstAt_calls s p x _ hs) ?_
  rintro e w1 ⟨rfl, b⟩
  have S1 := hide (S0.out.trans (b.mono S0.out.size))
  clear b S0
  go_wp2_with fail
  refine (burstAt_calls s p x _ hs).mono ?_
  rintro e w2 ⟨rfl, b⟩
  have S2 := hide (S1.out.trans (b.mono S1.out.size))
  clear b S1
  generalize (burstR s p x).1 = x0
  generalize (burstR s p x).2 = x1
  go_wp2
  go_ret
  exact ⟨rfl, S2.out⟩
end Go.Proofs.Yteecnepmdniddaa

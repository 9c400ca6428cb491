/-
  The law that holds the program's ReadFrame against its model's: at every text the call returns true, and nothing that was there is written. No condition.
-/
import Derived.Test.YtpgmocogffolaaaFre
namespace Go.Proofs.Ytpgmocogffolaaa
open Go.RowKit
set_option linter.unusedVariables false

set_option maxRecDepth 100000 in
set_option maxHeartbeats 800000 in
theorem fnExactReadFrame_walk (s : ByteArray) (w : World) (hs : s.size ≤ maxLen) :
    Calls Try.prog 11 #[.string s] w fun e w' => e = .returned (.bool true) ∧ Below w.heap.size w w' := by
  have ms := hs
  unfold maxLen at ms
  by_cases ns : s.size ≤ 1048576
  case neg =>
    have h' : (1048576 : Int) < (s.size : Int) := by omega
    go_enter Try.func11, Try.ntmps11
    go_wp2
    go_ret
    exact ⟨rfl, Below.refl _ _⟩
  have ns' : ¬ (1048576 : Int) < (s.size : Int) := by omega
  have S0 := hide (Below.refl w.heap.size w)
  go_enter Try.func11, Try.ntmps11
  go_wp2_with fail
  refine Calls.mono (sReadFrame_calls s _ hs) ?_
  rintro e w1 ⟨rfl, b⟩
  have S1 := hide (S0.out.trans (b.mono S0.out.size))
  clear b S0
  rcases hR : rdR s with ⟨K, A, E, B, code, ok⟩
  have HR := hide hR
  clear hR
  simp only []
  have B1 := hide (S1.out.trans ((below_box w1 (.cells #[.int .i64 K, .int .i64 A, .int .i64 E, .string B] 69)).mono S1.out.size))
  go_wp2_with fail
  refine Calls.mono (readFrame_calls s _ hs) ?_
  rintro e w2 ⟨rfl, b⟩
  rw [HR.out]
  simp only []
  obtain ⟨⟨c0, c1, c2, c3⟩, _, _, _, _⟩ := cells4 (box_at b)
  have l2 : w1.heap.size < w2.heap.size := by have := b.size; simp at this; omega
  have hne : ¬ w2.heap.size = w1.heap.size := by omega
  have hne' : ¬ w1.heap.size = w2.heap.size := by omega
  have S2 := hide (B1.out.trans (b.mono B1.out.size))
  have B2 := hide (S2.out.trans ((below_box w2 (.cells #[.int .i64 K, .int .i64 A, .int .i64 E, .string B] 69)).mono S2.out.size))
  clear b B1 S1 S2
  go_wp2_with fail
  refine (eqFrame_calls K A E B _).mono ?_
  rintro e w3 ⟨rfl, b⟩
  have S3 := hide (B2.out.trans (b.mono B2.out.size))
  clear b B2 c0 c1 c2 c3
  go_wp2
  go_ret
  exact ⟨rfl, S3.out⟩
end Go.Proofs.Ytpgmocogffolaaa

/-
  The law that holds the program's FrameBytes against its model's: at every frame the call returns true, and nothing that was there is written. No condition.
-/
import Derived.Test.YtpgmocogffolaaaFrx
namespace Go.Proofs.Ytpgmocogffolaaa
open Go.RowKit
set_option linter.unusedVariables false

set_option maxRecDepth 100000 in
set_option maxHeartbeats 800000 in
theorem fnExactFrameBytes_walk (K A E : Int) (b : ByteArray) (w : World) (hb : b.size ≤ maxLen) :
    Calls Try.prog 10 #[.agg #[.int .i64 K, .int .i64 A, .int .i64 E, .string b]] w fun e w' => e = .returned (.bool true) ∧ Below w.heap.size w w' := by
  have B0 := hide (below_box w (.cells #[.int .i64 K, .int .i64 A, .int .i64 E, .string b] 66))
  have S0 := hide (Below.refl (w.alloc (.cells #[.int .i64 K, .int .i64 A, .int .i64 E, .string b] 66)).heap.size (w.alloc (.cells #[.int .i64 K, .int .i64 A, .int .i64 E, .string b] 66)))
  go_enter Try.func10, Try.ntmps10
  go_wp2_with fail
  refine (szFrame_calls K A E b _ hb).mono ?_
  rintro e w1 ⟨rfl, h1⟩
  have S1 := hide (S0.out.trans (h1.mono S0.out.size))
  clear h1 S0
  by_cases hs : b.size ≤ 1048576
  case neg =>
    rw [if_neg hs]
    go_wp2
    go_ret
    exact ⟨rfl, B0.out.trans (S1.out.mono (by simp))⟩
  rw [if_pos hs]
  have c0 := box_cell0 S1.out 0
  have c1 := box_cell0 S1.out 1
  have c2 := box_cell0 S1.out 2
  have c3 := box_cell0 S1.out 3
  simp only [List.getElem?_toArray, List.getElem?_cons_zero, List.getElem?_cons_succ] at c0 c1 c2 c3
  go_wp2_with fail
  refine (toFrame_calls K A E b _).mono ?_
  rintro e w2 ⟨rfl, h1⟩
  have S2 := hide (S1.out.trans (h1.mono S1.out.size))
  clear h1 S1 c0 c1 c2 c3
  go_wp2_with fail
  refine (sFrameBytes_calls K A E b _ hb).mono ?_
  rintro e w3 ⟨rfl, h1⟩
  have S3 := hide (S2.out.trans (h1.mono S2.out.size))
  clear h1 S2
  have c0 := box_cell0 S3.out 0
  have c1 := box_cell0 S3.out 1
  have c2 := box_cell0 S3.out 2
  have c3 := box_cell0 S3.out 3
  simp only [List.getElem?_toArray, List.getElem?_cons_zero, List.getElem?_cons_succ] at c0 c1 c2 c3
  go_wp2_with fail
  refine (toFrame_calls K A E b _).mono ?_
  rintro e w4 ⟨rfl, h1⟩
  have S4 := hide (S3.out.trans (h1.mono S3.out.size))
  clear h1 S3 c0 c1 c2 c3
  go_wp2_with fail
  refine (frameBytes_calls K A E b _ hb).mono ?_
  rintro e w5 ⟨rfl, h1⟩
  have S5 := hide (S4.out.trans (h1.mono S4.out.size))
  clear h1 S4
  generalize (frR K A E b).1 = x
  generalize (frR K A E b).2 = y
  go_wp2
  go_ret
  exact ⟨rfl, B0.out.trans (S5.out.mono (by simp))⟩
end Go.Proofs.Ytpgmocogffolaaa

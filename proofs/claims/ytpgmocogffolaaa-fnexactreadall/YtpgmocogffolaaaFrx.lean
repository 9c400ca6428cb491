/-
  A frame's bytes, the model's function; the law that holds the program's FrameBytes against it: call by call. No condition but a bound on the body's length.
-/
import Derived.Test.YtpgmocogffolaaaFrm6
namespace Go.Proofs.Ytpgmocogffolaaa
open Go.RowKit

set_option maxRecDepth 100000 in
set_option maxHeartbeats 800000 in
theorem sFrameBytes_calls (K A E : Int) (b : ByteArray) (w : World) (hb : b.size ≤ maxLen) :
    Calls Try.prog 48 #[.agg #[.int .i64 K, .int .i64 A, .int .i64 E, .string b]] w fun e w' => e = .returned (.tuple #[.string (frR K A E b).1, .bool (frR K A E b).2]) ∧ Below w.heap.size w w' := by
  have B0 := hide (below_box w (.cells #[.int .i64 K, .int .i64 A, .int .i64 E, .string b] 69))
  by_cases hg : goodF K A E b.size
  case neg =>
    have e1 : frR K A E b = (⟨#[]⟩, false) := if_neg hg
    have e2 : goodD K A E b.size = false := goodD_no hg
    rw [e1]
    have E2 := hide e2
    clear e1 e2
    go_enter Try.func48, Try.ntmps48
    go_wp2_with fail
    refine (sGoodFrame_calls K A E b _ hb).mono ?_
    rintro e w1 ⟨rfl, h1⟩
    rw [E2.out]
    have S1 := hide h1
    clear h1
    go_wp2
    go_ret2
    exact ⟨rfl, B0.out.trans (S1.out.mono (by simp))⟩
  have e1 : frR K A E b = (ofN (frB K.toNat A.toNat E.toNat (bs b)), true) := if_pos hg
  have e2 : goodD K A E b.size = true := goodD_yes hg
  rw [e1]
  have E2 := hide e2
  clear e1 e2
  obtain ⟨⟨⟨k0, k1⟩, a0, a1⟩, ⟨f0, f1⟩, hn⟩ := hg
  obtain ⟨k, rfl⟩ := Int.eq_ofNat_of_zero_le (show 0 ≤ K by omega)
  obtain ⟨a, rfl⟩ := Int.eq_ofNat_of_zero_le a0
  obtain ⟨e, rfl⟩ := Int.eq_ofNat_of_zero_le f0
  simp only [Int.toNat_natCast]
  go_enter Try.func48, Try.ntmps48
  go_wp2_with fail
  refine (sGoodFrame_calls k a e b _ hb).mono ?_
  rintro e' w1 ⟨rfl, h1⟩
  rw [E2.out]
  have S1 := hide h1
  clear h1
  have c0 := box_cell0 S1.out 0
  have c1 := box_cell0 S1.out 1
  have c2 := box_cell0 S1.out 2
  have c3 := box_cell0 S1.out 3
  simp only [List.getElem?_toArray, List.getElem?_cons_zero, List.getElem?_cons_succ] at c0 c1 c2 c3
  go_wp2_with fail
  refine (l6Frame_calls k a e b _ (by omega) (by omega) (by omega) hn).mono ?_
  rintro e' w2 ⟨rfl, h1⟩
  have S2 := hide (S1.out.trans (h1.mono S1.out.size))
  clear h1 S1 c0 c1 c2 c3
  go_wp2
  go_ret2
  exact ⟨rfl, B0.out.trans (S2.out.mono (by simp))⟩
end Go.Proofs.Ytpgmocogffolaaa

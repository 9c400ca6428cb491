/-
  The law that holds the program's CanDecode against its model's: at all arguments that can be read the call returns true, and nothing that was there is written. No condition.
-/
import Derived.Test.YtoipcoidcaijjaaRise
namespace Go.Proofs.Ytoipcoidcaijjaa
open Go.RowKit

set_option maxRecDepth 100000 in
set_option maxHeartbeats 3200000 in
theorem fnExactCanDecode_walk (d : Int) (q : Int) (vl : Value) (l : List Int) (w : World) (_ : (Lit.int .i64 d).wf = true) (_ : (Lit.int .i64 q).wf = true) (hl : Rd w vl l) :
    Calls Try.prog 3 #[.int .i64 d, .int .i64 q, vl] w fun e w' => e = .returned (.bool true) ∧ Below w.heap.size w w' := by
  have Pl := hide hl
  obtain ⟨al, capl, rfl, _⟩ := hl
  by_cases hnl : l.length ≤ 1048576
  case neg =>
    have h' : (1048576 : Int) < (l.length : Int) := by omega
    go_enter Try.func3, Try.ntmps3
    go_wp2
    go_ret
    exact ⟨rfl, Below.refl _ _⟩
  have hnl' : ¬ (1048576 : Int) < (l.length : Int) := by omega
  have S0 := hide (Hands.start w)
  go_enter Try.func3, Try.ntmps3
  go_wp2_with fail
  refine (toIntS_calls _ l _ (Pl.out.below S0.out.below) hnl).mono ?_
  rintro e w1 ⟨tl, rfl, o, b⟩
  have S1 := hide (S0.out.addI b o)
  clear o b S0
  go_wp2_with fail
  refine (sCanDecode_calls d q _ l _ (S1.out.rdI 0 rfl)).mono ?_
  rintro e w2 ⟨rfl, b⟩
  have S2 := hide (S1.out.step b)
  clear b S1
  go_wp2_with fail
  refine (toIntS_calls _ l _ (Pl.out.below S2.out.below) hnl).mono ?_
  rintro e w3 ⟨xl, rfl, o, b⟩
  have S3 := hide (S2.out.addI b o)
  clear o b S2
  go_wp2_with fail
  refine (canDecode_calls d q _ l _ (S3.out.rdI 0 rfl)).mono ?_
  rintro e w4 ⟨rfl, b⟩
  have S4 := hide (S3.out.step b)
  clear b S3
  go_wp2_with fail
  refine (toIntS_calls _ l _ (Pl.out.below S4.out.below) hnl).mono ?_
  rintro e w5 ⟨yl, rfl, o, b⟩
  have S5 := hide (S4.out.addI b o)
  clear o b S4
  go_wp2_with fail
  refine (eqIntS_same xl yl l _ (S5.out.rdI 1 rfl) (S5.out.rdI 0 rfl)).mono ?_
  rintro e w6 ⟨rfl, b⟩
  have S6 := hide (S5.out.step b)
  clear b S5
  go_wp2
  go_ret
  exact ⟨rfl, S6.out.below⟩
end Go.Proofs.Ytoipcoidcaijjaa

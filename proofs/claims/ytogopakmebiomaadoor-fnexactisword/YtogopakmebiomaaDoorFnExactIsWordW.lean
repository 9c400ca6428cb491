/-
  The law that holds the program's IsWord against its model's: at all arguments that can be read the call returns true, and nothing that was there is written. The program's table of rests must hold its seven numbers.
-/
import Derived.Test.YtogopakmebiomaaDoorIsW
namespace Go.Proofs.YtogopakmebiomaaDoor
open Go.RowKit

set_option maxRecDepth 100000 in
set_option maxHeartbeats 3200000 in
theorem fnExactIsWord_walk (vm : Value) (m : List Int) (k : Int) (w : World) (hT : Gf.Tab w) (hm : Rd w vm m) (_ : (Lit.int .i64 k).wf = true) :
    Calls Tryd.prog 6 #[vm, .int .i64 k] w fun e w' => e = .returned (.bool true) ∧ Below w.heap.size w w' := by
  have Pm := hide hm
  obtain ⟨am, capm, rfl, _⟩ := hm
  have T := hide hT
  clear hT
  by_cases hnm : m.length ≤ 1048576
  case neg =>
    have h' : (1048576 : Int) < (m.length : Int) := by omega
    go_enter Tryd.func6, Tryd.ntmps6
    go_wp2
    go_ret
    exact ⟨rfl, Below.refl _ _⟩
  have hnm' : ¬ (1048576 : Int) < (m.length : Int) := by omega
  have S0 := hide (Hands.start w)
  go_enter Tryd.func6, Tryd.ntmps6
  go_wp2_with fail
  refine (toIntS_calls _ m _ (Pm.out.below S0.out.below) hnm).mono ?_
  rintro e w1 ⟨tm, rfl, o, b⟩
  have S1 := hide (S0.out.addI b o)
  clear o b S0
  go_wp2_with fail
  refine (Gf.sIsWord_calls _ m k _ (S1.out.rdI 0 rfl)).mono ?_
  rintro e w2 ⟨rfl, b⟩
  have S2 := hide (S1.out.step b)
  clear b S1
  go_wp2_with fail
  refine (toIntS_calls _ m _ (Pm.out.below S2.out.below) hnm).mono ?_
  rintro e w3 ⟨xm, rfl, o, b⟩
  have S3 := hide (S2.out.addI b o)
  clear o b S2
  go_wp2_with fail
  refine (Gf.isWord_calls _ m k _ (Gf.Tab.below T.out S3.out.below) (S3.out.rdI 0 rfl)).mono ?_
  rintro e w4 ⟨rfl, b⟩
  have S4 := hide (S3.out.step b)
  clear b S3
  go_wp2_with fail
  refine (toIntS_calls _ m _ (Pm.out.below S4.out.below) hnm).mono ?_
  rintro e w5 ⟨ym, rfl, o, b⟩
  have S5 := hide (S4.out.addI b o)
  clear o b S4
  go_wp2_with fail
  refine (eqIntS_same xm ym m _ (S5.out.rdI 1 rfl) (S5.out.rdI 0 rfl)).mono ?_
  rintro e w6 ⟨rfl, b⟩
  have S6 := hide (S5.out.step b)
  clear b S5
  go_wp2
  go_ret
  exact ⟨rfl, S6.out.below⟩
end Go.Proofs.YtogopakmebiomaaDoor

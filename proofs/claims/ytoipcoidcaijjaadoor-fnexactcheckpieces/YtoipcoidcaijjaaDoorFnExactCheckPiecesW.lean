/-
  The law that holds the program's CheckPieces against its model's: at all arguments that can be read the call returns true, and nothing that was there is written. The program's table of rests must hold its seven numbers.
-/
import Derived.Test.YtoipcoidcaijjaaDoorCheck
namespace Go.Proofs.YtoipcoidcaijjaaDoor
open Go.RowKit

set_option maxRecDepth 100000 in
set_option maxHeartbeats 3200000 in
theorem fnExactCheckPieces_walk (d : Int) (q : Int) (vm : Value) (m : List (List Int)) (w : World) (hT : Gf.Tab w) (_ : (Lit.int .i64 d).wf = true) (_ : (Lit.int .i64 q).wf = true) (hm : RdM w vm m) :
    Calls Tryd.prog 16 #[.int .i64 d, .int .i64 q, vm] w fun e w' => e = .returned (.bool true) ∧ Below w.heap.size w w' := by
  have Pm := hide hm
  obtain ⟨am, capm, rfl, _⟩ := hm
  have T := hide hT
  clear hT
  by_cases hnm : (m.length : Int) + tot m ≤ 1048576
  case neg =>
    go_enter Tryd.func16, Tryd.ntmps16
    go_wp2_with fail
    refine (szIntSS_calls _ m _ _ Pm.out (by omega) (by omega)).mono ?_
    rw [if_neg (by omega)]
    rintro e w' ⟨rfl, rfl⟩
    go_wp2
    go_ret
    exact ⟨rfl, Below.refl _ _⟩
  obtain ⟨left0, hleft0⟩ : ∃ left : Int, left = 1048576 - ((m.length : Int) + tot m) := ⟨_, rfl⟩
  have hl0 : 0 ≤ left0 := by omega
  have hm0 : left0 ≤ 1048576 := by omega
  have Hnm : Hid (m.length + tot m ≤ 1048576) := by show m.length + tot m ≤ 1048576; omega
  have HCm := hide hnm
  have HL0 := hide hleft0
  clear hleft0 hnm
  have S0 := hide (Hands.start w)
  go_enter Tryd.func16, Tryd.ntmps16
  go_wp2_with fail
  refine (szIntSS_calls _ m _ _ Pm.out (by omega) (by omega)).mono ?_
  rw [if_pos HCm.out, ← HL0.out]
  rintro e w' ⟨rfl, rfl⟩
  go_wp2_with fail
  refine (toIntSS_calls _ m _ (Pm.out.below S0.out.below) Hnm.out).mono ?_
  rintro e w1 ⟨tm, rfl, o, b⟩
  have S1 := hide (S0.out.addM b o)
  clear o b S0
  go_wp2_with fail
  refine (sCheckPieces_calls d q _ m _ (S1.out.rdM 0 rfl)).mono ?_
  rintro e w2 ⟨rfl, b⟩
  have S2 := hide (S1.out.step b)
  clear b S1
  go_wp2_with fail
  refine (toIntSS_calls _ m _ (Pm.out.below S2.out.below) Hnm.out).mono ?_
  rintro e w3 ⟨xm, rfl, o, b⟩
  have S3 := hide (S2.out.addM b o)
  clear o b S2
  go_wp2_with fail
  refine (checkPieces_calls d q _ m _ (Gf.Tab.below T.out S3.out.below) (S3.out.rdM 0 rfl)).mono ?_
  rintro e w4 ⟨rfl, b⟩
  have S4 := hide (S3.out.step b)
  clear b S3
  go_wp2_with fail
  refine (toIntSS_calls _ m _ (Pm.out.below S4.out.below) Hnm.out).mono ?_
  rintro e w5 ⟨ym, rfl, o, b⟩
  have S5 := hide (S4.out.addM b o)
  clear o b S4
  go_wp2_with fail
  refine (eqIntSS_same xm ym m _ (S5.out.rdM 1 rfl) (S5.out.rdM 0 rfl)).mono ?_
  rintro e w6 ⟨rfl, b⟩
  have S6 := hide (S5.out.step b)
  clear b S5
  go_wp2
  go_ret
  exact ⟨rfl, S6.out.below⟩
end Go.Proofs.YtoipcoidcaijjaaDoor

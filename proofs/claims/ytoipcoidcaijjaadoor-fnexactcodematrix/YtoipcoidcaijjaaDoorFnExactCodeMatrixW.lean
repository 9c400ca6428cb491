/-
  The law that holds the program's CodeMatrix against its model's: at all arguments that can be read the call returns true, and nothing that was there is written. The program's table of rests must hold its seven numbers.
-/
import Derived.Test.YtoipcoidcaijjaaDoorCodeM
namespace Go.Proofs.YtoipcoidcaijjaaDoor
open Go.RowKit

set_option maxRecDepth 100000 in
set_option maxHeartbeats 3200000 in
theorem fnExactCodeMatrix_walk (d : Int) (q : Int) (w : World) (hT : Gf.Tab w) (_ : (Lit.int .i64 d).wf = true) (_ : (Lit.int .i64 q).wf = true) :
    Calls Tryd.prog 13 #[.int .i64 d, .int .i64 q] w fun e w' => e = .returned (.bool true) ∧ Below w.heap.size w w' := by
  have T := hide hT
  clear hT
  have S0 := hide (Hands.start w)
  go_enter Tryd.func13, Tryd.ntmps13
  go_wp2_with fail
  refine (sCodeMatrix_calls d q _).mono ?_
  rintro e w1 ⟨w0, rfl, o, b⟩
  have S1 := hide (S0.out.addM b o)
  clear o b S0
  go_wp2_with fail
  refine (codeMatrix_calls d q _ (Gf.Tab.below T.out S1.out.below)).mono ?_
  rintro e w2 ⟨g0, rfl, o, b⟩
  have S2 := hide (S1.out.addM b o)
  clear o b S1
  go_wp2_with fail
  refine (eqIntSS_same g0 w0 (codeR d q).1 _ (S2.out.rdM 0 rfl) (S2.out.rdM 1 rfl)).mono ?_
  rintro e w3 ⟨rfl, b⟩
  have S3 := hide (S2.out.step b)
  clear b S2
  obtain ⟨lo4, hi4, ok4, lb4, ub4, put4⟩ := S3.out.open 0 rfl
  have OK4 := hide ok4
  have PUT4 := hide put4
  clear ok4 put4 lb4 ub4
  go_wp2_with fail
  refine (markIntSS_calls g0 (codeR d q).1 1 lo4 hi4 _ OK4.out (by omega) (by omega) (codeR_tot d q)).mono ?_
  rintro e w4 ⟨rfl, o, g⟩
  have S4 := hide (PUT4.out _ (.mat (marksM 1 (codeR d q).1)) o g)
  clear o g S3 OK4 PUT4
  go_wp2_with fail
  refine (heldIntSS_calls g0 (codeR d q).1 1 _ (S4.out.rdM 0 rfl) (by omega) (by omega) (codeR_tot d q)).mono ?_
  rintro e w5 ⟨rfl, rfl⟩
  have qq : ¬ ((1 : Int) + (tot (codeR d q).1 : Nat) < 0) := by omega
  go_wp2_with fail
  refine (codeMatrix_calls d q _ (Gf.Tab.below T.out S4.out.below)).mono ?_
  rintro e w6 ⟨h0, rfl, o, b⟩
  have S6 := hide (S4.out.addM b o)
  clear o b S4
  go_wp2_with fail
  refine (eqIntSS_same h0 w0 (codeR d q).1 _ (S6.out.rdM 0 rfl) (S6.out.rdM 2 rfl)).mono ?_
  rintro e w7 ⟨rfl, b⟩
  have S7 := hide (S6.out.step b)
  clear b S6
  go_wp2_with fail
  refine (heldIntSS_calls g0 (codeR d q).1 1 _ (S7.out.rdM 1 rfl) (by omega) (by omega) (codeR_tot d q)).mono ?_
  rintro e w8 ⟨rfl, rfl⟩
  go_wp2
  go_ret
  exact ⟨rfl, S7.out.below⟩
end Go.Proofs.YtoipcoidcaijjaaDoor

/-
  The law that holds the program's GeneratorOf against its model's: at all arguments that can be read the call returns true, and nothing that was there is written. The program's table of rests must hold its seven numbers.
-/
import Derived.Test.YtogopakmebiomaaDoorGen
import Derived.Test.YtogopakmebiomaaDoorMatC
namespace Go.Proofs.YtogopakmebiomaaDoor
open Go.RowKit

set_option maxRecDepth 100000 in
set_option maxHeartbeats 3200000 in
theorem fnExactGeneratorOf_walk (a : Int) (w : World) (hT : Gf.Tab w) (_ : (Lit.int .i64 a).wf = true) :
    Calls Tryd.prog 3 #[.int .i64 a] w fun e w' => e = .returned (.bool true) ∧ Below w.heap.size w w' := by
  have T := hide hT
  clear hT
  have S0 := hide (Hands.start w)
  go_enter Tryd.func3, Tryd.ntmps3
  go_wp2_with fail
  refine (Gf.sGeneratorOf_calls a _).mono ?_
  rintro e w1 ⟨w0, rfl, o, b⟩
  have S1 := hide (S0.out.addI b o)
  clear o b S0
  go_wp2_with fail
  refine (Gf.generatorOf_calls a _ (Gf.Tab.below T.out S1.out.below)).mono ?_
  rintro e w2 ⟨g0, rfl, o, b⟩
  have S2 := hide (S1.out.addI b o)
  clear o b S1
  go_wp2_with fail
  refine (eqIntS_same g0 w0 (Gf.genR a).1 _ (S2.out.rdI 0 rfl) (S2.out.rdI 1 rfl)).mono ?_
  rintro e w3 ⟨rfl, b⟩
  have S3 := hide (S2.out.step b)
  clear b S2
  obtain ⟨lo4, hi4, ok4, lb4, ub4, put4⟩ := S3.out.open 0 rfl
  have OK4 := hide ok4
  have PUT4 := hide put4
  clear ok4 put4 lb4 ub4
  go_wp2_with fail
  refine (markIntS_calls g0 (Gf.genR a).1 1 lo4 _ OK4.out.1 (by omega) (by omega) (Gf.genR_len a)).mono ?_
  rintro e w4 ⟨rfl, o, g⟩
  have S4 := hide (PUT4.out _ (.ints (marks 1 (Gf.genR a).1.length)) ⟨o, OK4.out.2⟩ (Chg.ofGrown g (fun k hk => ⟨(World.ownsRow.lt OK4.out.1 k hk).1, OK4.out.2 k hk⟩)))
  clear o g S3 OK4 PUT4
  go_wp2_with fail
  refine (heldIntS_calls g0 (Gf.genR a).1.length 1 _ (S4.out.rdI 0 rfl) (by omega) (by omega) (Gf.genR_len a)).mono ?_
  rintro e w5 ⟨rfl, rfl⟩
  have qq : ¬ ((1 : Int) + ((Gf.genR a).1.length : Nat) < 0) := by omega
  go_wp2_with fail
  refine (Gf.generatorOf_calls a _ (Gf.Tab.below T.out S4.out.below)).mono ?_
  rintro e w6 ⟨h0, rfl, o, b⟩
  have S6 := hide (S4.out.addI b o)
  clear o b S4
  go_wp2_with fail
  refine (eqIntS_same h0 w0 (Gf.genR a).1 _ (S6.out.rdI 0 rfl) (S6.out.rdI 2 rfl)).mono ?_
  rintro e w7 ⟨rfl, b⟩
  have S7 := hide (S6.out.step b)
  clear b S6
  go_wp2_with fail
  refine (heldIntS_calls g0 (Gf.genR a).1.length 1 _ (S7.out.rdI 1 rfl) (by omega) (by omega) (Gf.genR_len a)).mono ?_
  rintro e w8 ⟨rfl, rfl⟩
  go_wp2
  go_ret
  exact ⟨rfl, S7.out.below⟩
end Go.Proofs.YtogopakmebiomaaDoor

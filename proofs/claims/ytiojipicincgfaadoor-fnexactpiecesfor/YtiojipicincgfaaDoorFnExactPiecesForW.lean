/-
  The law that holds the program's PiecesFor against its model's: at every text the call returns true, and nothing that was there is written. The program's table of rests must hold its seven numbers.
-/
import Derived.Test.YtiojipicincgfaaDoorSpf
namespace Go.Proofs.YtiojipicincgfaaDoor
open Go.RowKit
set_option linter.unusedVariables false

set_option maxRecDepth 100000 in
set_option maxHeartbeats 1600000 in
theorem fnExactPiecesFor_walk (s : ByteArray) (w : World) (hT : Gf.Tab w) (hs : s.size ≤ maxLen) :
    Calls Tryd.prog 3 #[.string s] w fun e w' => e = .returned (.bool true) ∧ Below w.heap.size w w' := by
  have ms := hs
  unfold maxLen at ms
  have T := hide hT
  by_cases ns : s.size ≤ 1048576
  case neg =>
    have h' : (1048576 : Int) < (s.size : Int) := by omega
    go_enter Tryd.func3, Tryd.ntmps3
    go_wp2
    go_ret
    exact ⟨rfl, Below.refl _ _⟩
  have ns' : ¬ (1048576 : Int) < (s.size : Int) := by omega
  have hn := pfR_tot s
  have C1 := hide (fun W => sPiecesFor_calls s W hs)
  have C2 := hide (fun W (h : Gf.Tab W) => piecesFor_calls s W h hs)
  generalize (pfR s).1 = m at hn C1 C2
  generalize (pfR s).2 = ok at C1 C2
  have S0 := hide (Hands.start w)
  clear hT
  go_enter Tryd.func3, Tryd.ntmps3
  go_wp2_with fail
  refine (C1.out _).mono ?_
  rintro e w1 ⟨v1, rfl, o, b⟩
  have S1 := hide (S0.out.addM b o)
  clear o b S0
  go_wp2_with fail
  refine (C2.out _ (Gf.Tab.below T.out S1.out.below)).mono ?_
  rintro e w2 ⟨v2, rfl, o, b⟩
  have S2 := hide (S1.out.addM b o)
  clear o b S1
  go_wp2_with fail
  refine (eqIntSS_same v2 v1 m _ (S2.out.rdM 0 rfl) (S2.out.rdM 1 rfl)).mono ?_
  rintro e w3 ⟨rfl, b⟩
  have S3 := hide (S2.out.step b)
  clear b S2
  obtain ⟨lo4, hi4, ok4, lb4, ub4, put4⟩ := S3.out.open 0 rfl
  have OK4 := hide ok4
  have PUT4 := hide put4
  clear ok4 put4 lb4 ub4
  go_wp2_with fail
  refine (markIntSS_calls v2 m 1 lo4 hi4 _ OK4.out (by omega) (by omega) hn).mono ?_
  rintro e w4 ⟨rfl, o, g⟩
  have S4 := hide (PUT4.out _ (.mat (marksM 1 m)) o g)
  clear o g S3 OK4 PUT4
  go_wp2_with fail
  refine (heldIntSS_calls v2 m 1 _ (S4.out.rdM 0 rfl) (by omega) (by omega) hn).mono ?_
  rintro e w5 ⟨rfl, rfl⟩
  go_wp2_with fail
  refine (C2.out _ (Gf.Tab.below T.out S4.out.below)).mono ?_
  rintro e w6 ⟨v3, rfl, o, b⟩
  have S6 := hide (S4.out.addM b o)
  clear o b S4
  go_wp2_with fail
  refine (eqIntSS_same v3 v1 m _ (S6.out.rdM 0 rfl) (S6.out.rdM 2 rfl)).mono ?_
  rintro e w7 ⟨rfl, b⟩
  have S7 := hide (S6.out.step b)
  clear b S6
  go_wp2_with fail
  refine (heldIntSS_calls v2 m 1 _ (S7.out.rdM 1 rfl) (by omega) (by omega) hn).mono ?_
  rintro e w8 ⟨rfl, rfl⟩
  go_wp2
  go_ret
  exact ⟨rfl, S7.out.below⟩
end Go.Proofs.YtiojipicincgfaaDoor

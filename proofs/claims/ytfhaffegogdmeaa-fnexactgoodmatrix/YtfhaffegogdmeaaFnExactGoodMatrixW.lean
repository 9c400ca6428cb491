/-
  The law that holds the program's GoodMatrix against its model's: at all rows that can be read the call returns true, and nothing that was there is written. No condition.
-/
import Derived.Test.YtfhaffegogdmeaaGood
namespace Go.Proofs.Ytfhaffegogdmeaa
open Go.RowKit

set_option maxRecDepth 100000 in
set_option maxHeartbeats 1600000 in
theorem fnExactGoodMatrix_walk (v : Value) (m : List (List Int)) (w : World) (h : RdM w v m) :
    Calls Try.prog 3 #[v] w fun e w' => e = .returned (.bool true) ∧ Below w.heap.size w w' := by
  have P := hide h
  obtain ⟨a, cap, rfl, _⟩ := h
  by_cases hn : (m.length : Int) + tot m ≤ 1048576
  case neg =>
    go_enter Try.func3, Try.ntmps3
    go_wp2_with fail
    refine (szIntSS_calls _ m _ _ P.out (by omega) (by omega)).mono ?_
    rw [if_neg (by omega)]
    rintro e w' ⟨rfl, rfl⟩
    go_wp2
    go_ret
    exact ⟨rfl, Below.refl _ _⟩
  obtain ⟨left, hleft⟩ : ∃ left : Int, left = 1048576 - ((m.length : Int) + tot m) := ⟨_, rfl⟩
  have hl0 : ¬ left < 0 := by omega
  have Hn : Hid (m.length + tot m ≤ 1048576) := by show m.length + tot m ≤ 1048576; omega
  have S0 := hide (Hands.start w)
  go_enter Try.func3, Try.ntmps3
  go_wp2_with fail
  refine (szIntSS_calls _ m _ _ P.out (by omega) (by omega)).mono ?_
  rw [if_pos (by omega), ← hleft]
  rintro e w' ⟨rfl, rfl⟩
  clear hleft hn
  go_wp2_with fail
  refine (toIntSS_calls _ m _ (P.out.below S0.out.below) Hn.out).mono ?_
  rintro e w1 ⟨t1, rfl, o, b⟩
  have S1 := hide (S0.out.addM b o)
  clear o b S0
  go_wp2_with fail
  refine (sGoodMatrix_calls _ m _ (S1.out.rdM 0 rfl)).mono ?_
  rintro e w' ⟨rfl, rfl⟩
  go_wp2_with fail
  refine (toIntSS_calls _ m _ (P.out.below S1.out.below) Hn.out).mono ?_
  rintro e w2 ⟨x0, rfl, o, b⟩
  have S2 := hide (S1.out.addM b o)
  clear o b S1
  go_wp2_with fail
  refine (goodMatrix_calls _ m _ (S2.out.rdM 0 rfl)).mono ?_
  rintro e w3 ⟨rfl, b⟩
  have S3 := hide (S2.out.step b)
  clear b S2
  go_wp2_with fail
  refine (toIntSS_calls _ m _ (P.out.below S3.out.below) Hn.out).mono ?_
  rintro e w4 ⟨t2, rfl, o, b⟩
  have S4 := hide (S3.out.addM b o)
  clear o b S3
  go_wp2_with fail
  refine (eqIntSS_same _ _ m _ (S4.out.rdM 1 rfl) (S4.out.rdM 0 rfl)).mono ?_
  rintro e w5 ⟨rfl, b⟩
  have S5 := hide (S4.out.step b)
  clear b S4
  go_wp2
  go_ret
  exact ⟨rfl, S5.out.below⟩
end Go.Proofs.Ytfhaffegogdmeaa

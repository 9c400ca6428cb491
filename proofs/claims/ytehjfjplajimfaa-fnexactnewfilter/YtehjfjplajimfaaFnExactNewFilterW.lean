/-
  The law that holds the program's NewFilter against its model's: always the call returns true, and nothing that was there is written. No condition.
-/
import Derived.Test.YtehjfjplajimfaaFlf
import Derived.Test.YtehjfjplajimfaaFlg
namespace Go.Proofs.Ytehjfjplajimfaa
open Go.RowKit
set_option linter.unusedVariables false

set_option maxRecDepth 100000 in
set_option maxHeartbeats 3200000 in
theorem fnExactNewFilter_walk (w : World) :
    Calls Try.prog 5 #[] w fun e w' => e = .returned (.bool true) ∧ Below w.heap.size w w' := by
  obtain ⟨X, hX⟩ : ∃ X, X = no64 := ⟨_, rfl⟩
  have C1 := hide (fun V => sNewFilter_calls V)
  have C2 := hide (fun V => newFilter_calls V)
  rw [← hX] at C1 C2
  have XL : X.length ≤ 1048576 := by rw [hX, no64_len]; omega
  clear hX
  have A0 := hide (Hand.start w)
  go_enter Try.func5, Try.ntmps5
  go_wp2_with fail
  refine (C1.out _).mono ?_
  rintro e w1 ⟨vW, rfl, o, q⟩
  obtain ⟨aW, cW, rfl⟩ := row_slice o
  have ltW := q.size
  (try simp only [World.size_alloc] at ltW)
  have A1 := hide ((A0.out.add q (TBols.st _ _) ⟨o, row_top o⟩).box #[.slice aW X.length cW] 46)
  clear A0 q o
  go_wp2_with fail
  refine (C2.out _).mono ?_
  rintro e w2 ⟨vg, rfl, o, q⟩
  obtain ⟨ag, cg, rfl⟩ := row_slice o
  have ltg := q.size
  (try simp only [World.size_alloc] at ltg)
  have A2 := hide ((A1.out.add q (TBols.st _ _) ⟨o, row_top o⟩).box #[.slice ag X.length cg] 46)
  clear A1 q o
  have cbg0 := (A2.out.atBox 0 rfl).c1
  have cbW0 := (A2.out.atBox 2 rfl).c1
  obtain ⟨log, hig, dg⟩ := A2.out.get 1 rfl
  have Dg := hide (OwnZ.rd dg.1)
  clear dg
  obtain ⟨loW, hiW, dW⟩ := A2.out.get 3 rfl
  have DW := hide (OwnZ.rd dW.1)
  clear dW
  go_wp2_with fail
  refine (eqFilter_same _ _ X _ Dg.out DW.out).mono ?_
  rintro e w3 ⟨rfl, q⟩
  have A3 := hide (A2.out.step q)
  clear A2 cbg0 cbW0 Dg log hig DW loW hiW q
  have cbg0 := (A3.out.atBox 0 rfl).c1
  obtain ⟨log, hig, dg, lw, hw, put⟩ := A3.out.open 1 rfl
  have PUT := hide put
  have HW := hide hw
  have Dg := hide dg.1
  have TDg := hide dg.2
  clear put lw hw dg
  go_wp2_with fail
  refine (markFilter_calls _ X 1 _ _ _ Dg.out TDg.out HW.out (by omega) (by omega) XL).mono ?_
  rintro e w4 ⟨rfl, o4, g4⟩
  have A4 := hide (PUT.out _ (TBols _ _) (TBols.st _ _) ⟨o4, TDg.out⟩ g4)
  clear A3 cbg0 log hig PUT HW Dg TDg o4 g4
  have xn : ¬ ((1 : Int) + (X.length : Int) < 0) := by omega
  have cbg0 := (A4.out.atBox 0 rfl).c1
  obtain ⟨log, hig, dg⟩ := A4.out.get 1 rfl
  have Dg := hide (OwnZ.rd dg.1)
  clear dg
  go_wp2_with fail
  refine (heldFilter_calls _ X.length 1 _ Dg.out (by omega) (by omega) XL).mono ?_
  rintro e w5 ⟨rfl, q⟩
  have A5 := hide (A4.out.step q)
  clear A4 cbg0 Dg log hig q
  go_wp2_with fail
  refine (C2.out _).mono ?_
  rintro e w6 ⟨vh, rfl, o, q⟩
  obtain ⟨ah, ch, rfl⟩ := row_slice o
  have lth := q.size
  (try simp only [World.size_alloc] at lth)
  have A6 := hide ((A5.out.add q (TBols.st _ _) ⟨o, row_top o⟩).box #[.slice ah X.length ch] 46)
  clear A5 q o
  have cbh0 := (A6.out.atBox 0 rfl).c1
  have cbW0 := (A6.out.atBox 4 rfl).c1
  obtain ⟨loh, hih, dh⟩ := A6.out.get 1 rfl
  have Dh := hide (OwnZ.rd dh.1)
  clear dh
  obtain ⟨loW, hiW, dW⟩ := A6.out.get 5 rfl
  have DW := hide (OwnZ.rd dW.1)
  clear dW
  go_wp2_with fail
  refine (eqFilter_same _ _ X _ Dh.out DW.out).mono ?_
  rintro e w7 ⟨rfl, q⟩
  have A7 := hide (A6.out.step q)
  clear A6 cbh0 cbW0 Dh loh hih DW loW hiW q
  have cbg0 := (A7.out.atBox 2 rfl).c1
  obtain ⟨log, hig, dg⟩ := A7.out.get 3 rfl
  have Dg := hide (OwnZ.rd dg.1)
  clear dg
  go_wp2_with fail
  refine (heldFilter_calls _ X.length 1 _ Dg.out (by omega) (by omega) XL).mono ?_
  rintro e w8 ⟨rfl, q⟩
  have A8 := hide (A7.out.step q)
  clear A7 cbg0 Dg log hig q
  go_wp2
  go_ret
  exact ⟨rfl, A8.out.below⟩
end Go.Proofs.Ytehjfjplajimfaa

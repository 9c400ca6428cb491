/-
  The law that holds the program's BitsFor against its model's: at every key the call returns true, and nothing that was there is written. No condition.
-/
import Derived.Test.YtehjfjplajimfaaFlf
import Derived.Test.YtehjfjplajimfaaFlg
namespace Go.Proofs.Ytehjfjplajimfaa
open Go.RowKit
set_option linter.unusedVariables false

set_option maxRecDepth 100000 in
set_option maxHeartbeats 3200000 in
theorem fnExactBitsFor_walk (k : Int) (w : World) :
    Calls Try.prog 7 #[.int .i64 k] w fun e w' => e = .returned (.bool true) ∧ Below w.heap.size w w' := by
  obtain ⟨ok, hok⟩ := bol_ex (kOk k)
  have C1 := hide (fun V => sBitsFor_calls k ok V hok)
  have C2 := hide (fun V => bitsFor_calls k ok V hok)
  have VL : (gX ok (bK k)).length ≤ 64 := by
    cases ok with
    | false => rw [gX_false]; exact Nat.zero_le _
    | true => rw [gX_true]; exact bK_len k
  generalize gX ok (bK k) = V at C1 C2 VL
  clear hok
  have A0 := hide (Hand.start w)
  go_enter Try.func7, Try.ntmps7
  go_wp2_with fail
  refine (C1.out _).mono ?_
  rintro e w1 ⟨vW, rfl, o, q⟩
  obtain ⟨aW, cW, rfl⟩ := row_slice o
  have A1 := hide (A0.out.add q (TInts.st _ _) ⟨o, row_top o⟩)
  clear A0 q o
  go_wp2_with fail
  refine (C2.out _).mono ?_
  rintro e w2 ⟨vg, rfl, o, q⟩
  obtain ⟨ag, cg, rfl⟩ := row_slice o
  have A2 := hide (A1.out.add q (TInts.st _ _) ⟨o, row_top o⟩)
  clear A1 q o
  obtain ⟨log, hig, dg⟩ := A2.out.get 0 rfl
  have Dg := hide (Own.rd dg.1)
  clear dg
  obtain ⟨loW, hiW, dW⟩ := A2.out.get 1 rfl
  have DW := hide (Own.rd dW.1)
  clear dW
  go_wp2_with fail
  refine (eqIntS_same _ _ V _ Dg.out DW.out).mono ?_
  rintro e w3 ⟨rfl, q⟩
  have A3 := hide (A2.out.step q)
  clear A2 Dg log hig DW loW hiW q
  obtain ⟨log, hig, dg, lw, hw, put⟩ := A3.out.open 0 rfl
  have PUT := hide put
  have HW := hide hw
  have Dg := hide dg.1
  have TDg := hide dg.2
  clear put lw hw dg
  go_wp2_with fail
  refine (markIntS_calls _ V 1 _ _ Dg.out (by omega) (by omega) (by omega)).mono ?_
  rintro e w4 ⟨rfl, o4, g4⟩
  have A4 := hide (PUT.out _ (TInts _ _) (TInts.st _ _) ⟨o4, TDg.out⟩ (Chg.ofGrown g4 (fun j hj => ⟨row_low Dg.out j hj, TDg.out j hj⟩)))
  clear A3 log hig PUT HW Dg TDg o4 g4
  have xn : ¬ ((1 : Int) + (V.length : Int) < 0) := by omega
  obtain ⟨log, hig, dg⟩ := A4.out.get 0 rfl
  have Dg := hide (Own.rd dg.1)
  clear dg
  go_wp2_with fail
  refine (heldIntS_calls _ V.length 1 _ Dg.out (by omega) (by omega) (by omega)).mono ?_
  rintro e w5 ⟨rfl, rfl⟩
  clear Dg log hig
  go_wp2_with fail
  refine (C2.out _).mono ?_
  rintro e w6 ⟨vh, rfl, o, q⟩
  obtain ⟨ah, ch, rfl⟩ := row_slice o
  have A6 := hide (A4.out.add q (TInts.st _ _) ⟨o, row_top o⟩)
  clear A4 q o
  obtain ⟨loh, hih, dh⟩ := A6.out.get 0 rfl
  have Dh := hide (Own.rd dh.1)
  clear dh
  obtain ⟨loW, hiW, dW⟩ := A6.out.get 2 rfl
  have DW := hide (Own.rd dW.1)
  clear dW
  go_wp2_with fail
  refine (eqIntS_same _ _ V _ Dh.out DW.out).mono ?_
  rintro e w7 ⟨rfl, q⟩
  have A7 := hide (A6.out.step q)
  clear A6 Dh loh hih DW loW hiW q
  obtain ⟨log, hig, dg⟩ := A7.out.get 1 rfl
  have Dg := hide (Own.rd dg.1)
  clear dg
  go_wp2_with fail
  refine (heldIntS_calls _ V.length 1 _ Dg.out (by omega) (by omega) (by omega)).mono ?_
  rintro e w8 ⟨rfl, rfl⟩
  clear Dg log hig
  go_wp2
  go_ret
  exact ⟨rfl, A7.out.below⟩
end Go.Proofs.Ytehjfjplajimfaa

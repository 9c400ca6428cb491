/-
  The law that holds the program's NewRooms against its model's: always the call returns true, and nothing that was there is written. No condition.
-/
import Derived.Test.YtefbppoejklfgaaRmw
namespace Go.Proofs.Ytefbppoejklfgaa
open Go.RowKit
set_option linter.unusedVariables false

set_option maxRecDepth 100000 in
set_option maxHeartbeats 3200000 in
theorem fnExactNewRooms_walk (w : World) :
    Calls Try.prog 3 #[] w fun e w' => e = .returned (.bool true) ∧ Below w.heap.size w w' := by
  obtain ⟨X, hX⟩ : ∃ X, X = newM := ⟨_, rfl⟩
  obtain ⟨Y, hY⟩ : ∃ Y : List Hl, Y = [] := ⟨_, rfl⟩
  have C1 := hide sNewRooms_calls
  have C2 := hide newRooms_calls
  rw [← hX, ← hY] at C1 C2
  have SX : Hid (X.length + tot X ≤ 1048576 ∧ Y.length ≤ 1048576) := by subst hX; subst hY; exact ⟨by decide, by decide⟩
  clear hX hY
  have A0 := hide (Hand.start w)
  go_enter Try.func3, Try.ntmps3
  go_wp2_with fail
  refine (C1.out _).mono ?_
  rintro e w1 ⟨lW, rW, rfl, d, q⟩
  obtain ⟨alW, clW, arW, crW, rfl, rfl⟩ := d.sl
  have ltW := q.size
  (try simp only [World.size_alloc] at ltW)
  have A1 := hide ((A0.out.add q (TRom.st _ _ _ _) d).box #[.slice alW X.length clW, .slice arW Y.length crW] 25)
  clear A0 q d
  go_wp2_with fail
  refine (C2.out _).mono ?_
  rintro e w2 ⟨lg, rg, rfl, d, q⟩
  obtain ⟨alg, clg, arg, crg, rfl, rfl⟩ := d.sl
  have ltg := q.size
  (try simp only [World.size_alloc] at ltg)
  have A2 := hide ((A1.out.add q (TRom.st _ _ _ _) d).box #[.slice alg X.length clg, .slice arg Y.length crg] 25)
  clear A1 q d
  obtain ⟨cbg0, cbg1⟩ := (A2.out.atBox 0 rfl).c2
  obtain ⟨cbW0, cbW1⟩ := (A2.out.atBox 2 rfl).c2
  obtain ⟨log, hig, dg⟩ := A2.out.get 1 rfl
  have Dg : Hid (RomV _ log hig _ _ X Y) := dg
  clear dg
  obtain ⟨loW, hiW, dW⟩ := A2.out.get 3 rfl
  have DW : Hid (RomV _ loW hiW _ _ X Y) := dW
  clear dW
  go_wp2_with fail
  refine (eqRooms_same _ _ _ _ X Y _ Dg.out.rf Dg.out.rh DW.out.rf DW.out.rh).mono ?_
  rintro e w3 ⟨rfl, q⟩
  have A3 := hide (A2.out.step q)
  clear A2 cbg0 cbg1 cbW0 cbW1 Dg log hig DW loW hiW q
  obtain ⟨cbg0, cbg1⟩ := (A3.out.atBox 0 rfl).c2
  obtain ⟨log, hig, dg, lw, hw, put⟩ := A3.out.open 1 rfl
  have PUT := hide put
  have HW := hide hw
  clear put lw hw
  have Dg : Hid (RomV _ log hig _ _ X Y) := dg
  clear dg
  go_wp2_with fail
  refine (markRooms_calls _ _ X Y _ _ _ Dg.out HW.out SX.out.1 SX.out.2).mono ?_
  rintro e w4 ⟨rfl, d4, q⟩
  have A4 := hide (PUT.out _ (TRom _ _ _ _) (TRom.st _ _ _ _) d4 q)
  clear A3 cbg0 cbg1 log hig PUT HW Dg q d4
  obtain ⟨mm, hmm⟩ : ∃ mm, mm = enR X Y := ⟨_, rfl⟩
  rw [← hmm]
  have MM := hide hmm
  have mmn : ¬ (mm < 0) := by rw [hmm]; unfold enR; omega
  clear hmm
  obtain ⟨cbg0, cbg1⟩ := (A4.out.atBox 0 rfl).c2
  obtain ⟨log, hig, dg⟩ := A4.out.get 1 rfl
  have Dg : Hid (RomV _ log hig _ _ (marksM 1 X) (mkH (1 + (tot X : Int)) Y.length)) := dg
  clear dg
  go_wp2_with fail
  refine (heldRooms_calls _ _ X Y _ Dg.out.rf Dg.out.rh SX.out.1 SX.out.2).mono ?_
  rintro e w5 ⟨rfl, q⟩
  have A5 := hide (A4.out.step q)
  clear A4 cbg0 cbg1 Dg log hig q
  rw [← MM.out]
  go_wp2_with fail
  refine (C2.out _).mono ?_
  rintro e w6 ⟨lh, rh, rfl, d, q⟩
  obtain ⟨alh, clh, arh, crh, rfl, rfl⟩ := d.sl
  have lth := q.size
  (try simp only [World.size_alloc] at lth)
  have A6 := hide ((A5.out.add q (TRom.st _ _ _ _) d).box #[.slice alh X.length clh, .slice arh Y.length crh] 25)
  clear A5 q d
  obtain ⟨cbh0, cbh1⟩ := (A6.out.atBox 0 rfl).c2
  obtain ⟨cbW0, cbW1⟩ := (A6.out.atBox 4 rfl).c2
  obtain ⟨loh, hih, dh⟩ := A6.out.get 1 rfl
  have Dh : Hid (RomV _ loh hih _ _ X Y) := dh
  clear dh
  obtain ⟨loW, hiW, dW⟩ := A6.out.get 5 rfl
  have DW : Hid (RomV _ loW hiW _ _ X Y) := dW
  clear dW
  go_wp2_with fail
  refine (eqRooms_same _ _ _ _ X Y _ Dh.out.rf Dh.out.rh DW.out.rf DW.out.rh).mono ?_
  rintro e w7 ⟨rfl, q⟩
  have A7 := hide (A6.out.step q)
  clear A6 cbh0 cbh1 cbW0 cbW1 Dh loh hih DW loW hiW q
  obtain ⟨cbg0, cbg1⟩ := (A7.out.atBox 2 rfl).c2
  obtain ⟨log, hig, dg⟩ := A7.out.get 3 rfl
  have Dg : Hid (RomV _ log hig _ _ (marksM 1 X) (mkH (1 + (tot X : Int)) Y.length)) := dg
  clear dg
  go_wp2_with fail
  refine (heldRooms_calls _ _ X Y _ Dg.out.rf Dg.out.rh SX.out.1 SX.out.2).mono ?_
  rintro e w8 ⟨rfl, q⟩
  have A8 := hide (A7.out.step q)
  clear A7 cbg0 cbg1 Dg log hig q
  rw [← MM.out]
  go_wp2
  go_ret
  exact ⟨rfl, A8.out.below⟩
end Go.Proofs.Ytefbppoejklfgaa

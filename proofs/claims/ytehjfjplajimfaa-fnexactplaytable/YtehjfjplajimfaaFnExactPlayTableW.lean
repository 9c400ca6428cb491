/-
  The law that holds the program's PlayTable against its model's: at every seed and list of numbers the call returns true, and nothing that was there is written. No condition.
-/
import Derived.Test.YtehjfjplajimfaaTps
import Derived.Test.YtehjfjplajimfaaTpt
namespace Go.Proofs.Ytehjfjplajimfaa
open Go.RowKit
set_option linter.unusedVariables false

set_option maxRecDepth 100000 in
set_option maxHeartbeats 3200000 in
theorem fnExactPlayTable_walk (sd : Int) (l : Value) (ls : List Int) (w : World) (hl : Rd w l ls) :
    Calls Try.prog 4 #[.int .i64 sd, l] w fun e w' => e = .returned (.bool true) ∧ Below w.heap.size w w' := by
  have RL := hide hl
  obtain ⟨a, cap, rfl, hcap, hcm, _⟩ := hl
  have hm := hcm.1
  unfold maxLen at hm
  clear hcm
  obtain ⟨X, Y, sX, mX, B, ok, hf⟩ := plAt_ex sd ls
  have C1 := hide (fun V p h => sPlayTable_calls sd p ls X Y sX mX B ok V h hf)
  have C2 := hide (fun V p h => playTable_calls sd p ls X Y sX mX B ok V h hf)
  have SX := hide hf.len
  clear hf
  by_cases hz : ls.length ≤ 1048576
  case neg =>
    have hz' : (1048576 : Int) < (ls.length : Int) := by omega
    go_enter Try.func4, Try.ntmps4
    go_wp2
    go_ret
    exact ⟨rfl, Below.refl _ _⟩
  have hz' : ¬ (1048576 : Int) < (ls.length : Int) := by omega
  have A0 := hide (Hand.start w)
  go_enter Try.func4, Try.ntmps4
  go_wp2_with fail
  refine (toIntS_calls _ ls _ (RL.out.below A0.out.below) hz).mono ?_
  rintro e w1 ⟨vX0, rfl, o, q⟩
  obtain ⟨aX0, cX0, rfl⟩ := row_slice o
  have A1 := hide (A0.out.add q (TInts.st _ _) ⟨o, row_top o⟩)
  clear A0 q o
  obtain ⟨loX0, hiX0, dX0⟩ := A1.out.get 0 rfl
  have DX0 := hide (Own.rd dX0.1)
  clear dX0
  go_wp2_with fail
  refine (C1.out _ _ DX0.out).mono ?_
  rintro e w2 ⟨lW, rW, vW, rfl, d, o, q⟩
  obtain ⟨alW, clW, arW, crW, rfl, rfl⟩ := d.sl
  obtain ⟨aW, cW, rfl⟩ := row_slice o
  have A2 := hide ((A1.out.add q (TPly.st _ _ _ _ _ _) ⟨d, o, row_top o⟩).box #[.int .i64 sX, .slice alW X.length clW, .slice arW Y.length crW, .int .i64 mX] 28)
  clear A1 DX0 loX0 hiX0 q d o
  go_wp2_with fail
  refine (toIntS_calls _ ls _ (RL.out.below A2.out.below) hz).mono ?_
  rintro e w3 ⟨vx, rfl, o, q⟩
  obtain ⟨ax, cx, rfl⟩ := row_slice o
  have A3 := hide (A2.out.add q (TInts.st _ _) ⟨o, row_top o⟩)
  clear A2 q o
  obtain ⟨lox, hix, dx⟩ := A3.out.get 0 rfl
  have Dx := hide (Own.rd dx.1)
  clear dx
  go_wp2_with fail
  refine (C2.out _ _ Dx.out).mono ?_
  rintro e w4 ⟨lg, rg, vg, rfl, d, o, q⟩
  obtain ⟨alg, clg, arg, crg, rfl, rfl⟩ := d.sl
  obtain ⟨ag, cg, rfl⟩ := row_slice o
  have A4 := hide ((A3.out.add q (TPly.st _ _ _ _ _ _) ⟨d, o, row_top o⟩).box #[.int .i64 sX, .slice alg X.length clg, .slice arg Y.length crg, .int .i64 mX] 28)
  clear A3 Dx lox hix q d o
  obtain ⟨cbg0, cbg1, cbg2, cbg3⟩ := (A4.out.atBox 0 rfl).c4
  obtain ⟨cbW0, cbW1, cbW2, cbW3⟩ := (A4.out.atBox 3 rfl).c4
  obtain ⟨log, hig, dg⟩ := A4.out.get 1 rfl
  have Dg := hide dg.1
  have Eg := hide (OwnZ.rd dg.2.1)
  clear dg
  obtain ⟨loW, hiW, dW⟩ := A4.out.get 4 rfl
  have DW := hide dW.1
  have EW := hide (OwnZ.rd dW.2.1)
  clear dW
  go_wp2_with fail
  refine (eqTable_same sX mX _ _ _ _ X Y _ Dg.out.rl Dg.out.rr DW.out.rl DW.out.rr).mono ?_
  rintro e w5 ⟨rfl, q⟩
  have A5 := hide (A4.out.step q)
  clear A4 cbg0 cbg1 cbg2 cbg3 cbW0 cbW1 cbW2 cbW3 Eg Dg log hig EW DW loW hiW q
  obtain ⟨log, hig, dg⟩ := A5.out.get 1 rfl
  have Dg := hide dg.1
  have Eg := hide (OwnZ.rd dg.2.1)
  clear dg
  obtain ⟨loW, hiW, dW⟩ := A5.out.get 4 rfl
  have DW := hide dW.1
  have EW := hide (OwnZ.rd dW.2.1)
  clear dW
  go_wp2_with fail
  refine (eqBoolS_same _ _ B _ Eg.out EW.out).mono ?_
  rintro e w6 ⟨rfl, q⟩
  have A6 := hide (A5.out.step q)
  clear A5 Eg Dg log hig EW DW loW hiW q
  go_wp2_with fail
  refine (toIntS_calls _ ls _ (RL.out.below A6.out.below) hz).mono ?_
  rintro e w7 ⟨vy, rfl, o, q⟩
  obtain ⟨ay, cy, rfl⟩ := row_slice o
  have A7 := hide (A6.out.add q (TInts.st _ _) ⟨o, row_top o⟩)
  clear A6 q o
  obtain ⟨lox, hix, dx⟩ := A7.out.get 3 rfl
  have Dx := hide (Own.rd dx.1)
  clear dx
  obtain ⟨loy, hiy, dy⟩ := A7.out.get 0 rfl
  have Dy := hide (Own.rd dy.1)
  clear dy
  go_wp2_with fail
  refine (eqIntS_same _ _ ls _ Dx.out Dy.out).mono ?_
  rintro e w8 ⟨rfl, q⟩
  have A8 := hide (A7.out.step q)
  clear A7 Dx lox hix Dy loy hiy q
  obtain ⟨lox, hix, dx, lw, hw, put⟩ := A8.out.open 3 rfl
  have PUT := hide put
  have HW := hide hw
  clear put lw hw
  have Dx := hide dx.1
  have TDx := hide dx.2
  clear dx
  go_wp2_with fail
  refine (markIntS_calls _ ls 1 _ _ Dx.out (by omega) (by omega) (by omega)).mono ?_
  rintro e w9 ⟨rfl, o4, g4⟩
  have A9 := hide (PUT.out _ (TInts _ _) (TInts.st _ _) ⟨o4, TDx.out⟩ (Chg.ofGrown g4 (fun j hj => ⟨row_low Dx.out j hj, TDx.out j hj⟩)))
  clear A8 lox hix PUT HW Dx TDx o4 g4
  have kn : ¬ ((1 : Int) + (ls.length : Int) < 0) := by omega
  obtain ⟨cbg0, cbg1, cbg2, cbg3⟩ := (A9.out.atBox 1 rfl).c4
  obtain ⟨cbW0, cbW1, cbW2, cbW3⟩ := (A9.out.atBox 4 rfl).c4
  obtain ⟨log, hig, dg⟩ := A9.out.get 2 rfl
  have Dg := hide dg.1
  have Eg := hide (OwnZ.rd dg.2.1)
  clear dg
  obtain ⟨loW, hiW, dW⟩ := A9.out.get 5 rfl
  have DW := hide dW.1
  have EW := hide (OwnZ.rd dW.2.1)
  clear dW
  go_wp2_with fail
  refine (eqTable_same sX mX _ _ _ _ X Y _ Dg.out.rl Dg.out.rr DW.out.rl DW.out.rr).mono ?_
  rintro e w10 ⟨rfl, q⟩
  have A10 := hide (A9.out.step q)
  clear A9 cbg0 cbg1 cbg2 cbg3 cbW0 cbW1 cbW2 cbW3 Eg Dg log hig EW DW loW hiW q
  obtain ⟨log, hig, dg⟩ := A10.out.get 2 rfl
  have Dg := hide dg.1
  have Eg := hide (OwnZ.rd dg.2.1)
  clear dg
  obtain ⟨loW, hiW, dW⟩ := A10.out.get 5 rfl
  have DW := hide dW.1
  have EW := hide (OwnZ.rd dW.2.1)
  clear dW
  go_wp2_with fail
  refine (eqBoolS_same _ _ B _ Eg.out EW.out).mono ?_
  rintro e w11 ⟨rfl, q⟩
  have A11 := hide (A10.out.step q)
  clear A10 Eg Dg log hig EW DW loW hiW q
  obtain ⟨cbg0, cbg1, cbg2, cbg3⟩ := (A11.out.atBox 1 rfl).c4
  obtain ⟨log, hig, dg, lw, hw, put⟩ := A11.out.open 2 rfl
  have PUT := hide put
  have HW := hide hw
  have Dg := hide dg.1
  have Eg := hide dg.2.1
  have TDg := hide dg.2.2
  clear put lw hw dg
  go_wp2_with fail
  refine (markTableB_calls sX mX _ _ _ X Y B _ _ _ Dg.out Eg.out HW.out SX.out.1 SX.out.2.1).mono ?_
  rintro e w12 ⟨rfl, d4, o4, q⟩
  have A12 := hide (PUT.out _ (TPly _ _ _ _ _ _) (TPly.st _ _ _ _ _ _) ⟨d4, o4, TDg.out⟩ q)
  clear A11 cbg0 cbg1 cbg2 cbg3 log hig PUT HW Dg Eg TDg q d4 o4
  obtain ⟨mm, hmm⟩ : ∃ mm, mm = enT X Y := ⟨_, rfl⟩
  rw [← hmm]
  have MM := hide hmm
  have mk : 0 ≤ mm ∧ mm ≤ 1099511627776 := by have h1 := SX.out.1; have h2 := SX.out.2.1; rw [hmm]; unfold enT; omega
  have mn : ¬ (mm < 0) := by omega
  have bl : B.length ≤ 1048576 := SX.out.2.2
  have mn2 : ¬ (mm + (B.length : Int) < 0) := by omega
  clear hmm
  obtain ⟨log, hig, dg, lw, hw, put⟩ := A12.out.open 2 rfl
  have PUT := hide put
  have HW := hide hw
  have Dg := hide dg.1
  have Eg := hide dg.2.1
  have TDg := hide dg.2.2
  clear put lw hw dg
  go_wp2_with fail
  refine (markBoolS_calls _ B mm _ _ Eg.out mk.1 mk.2 bl).mono ?_
  rintro e w13 ⟨rfl, o4, g4⟩
  have A13 := hide (PUT.out _ (TPly _ _ _ _ _ _) (TPly.st _ _ _ _ _ _) ⟨Dg.out.keptY Eg.out g4, o4, TDg.out⟩ (Chg.ofGrown g4 (fun j hj => ⟨row_low Eg.out j hj, TDg.out j hj⟩)))
  clear A12 log hig PUT HW Dg Eg TDg o4 g4
  obtain ⟨cbg0, cbg1, cbg2, cbg3⟩ := (A13.out.atBox 1 rfl).c4
  obtain ⟨log, hig, dg⟩ := A13.out.get 2 rfl
  have Dg := hide dg.1
  have Eg := hide (OwnZ.rd dg.2.1)
  clear dg
  go_wp2_with fail
  refine (heldTable_calls sX mX _ _ X Y _ Dg.out.rl Dg.out.rr SX.out.1 SX.out.2.1).mono ?_
  rintro e w14 ⟨rfl, q⟩
  have A14 := hide (A13.out.step q)
  clear A13 cbg0 cbg1 cbg2 cbg3 Eg Dg log hig q
  rw [← MM.out]
  obtain ⟨log, hig, dg⟩ := A14.out.get 2 rfl
  have Dg := hide dg.1
  have Eg := hide (OwnZ.rd dg.2.1)
  clear dg
  go_wp2_with fail
  refine (heldBoolS_calls _ B.length mm _ Eg.out mk.1 mk.2 SX.out.2.2).mono ?_
  rintro e w15 ⟨rfl, rfl⟩
  clear Eg Dg log hig
  go_wp2_with fail
  refine (toIntS_calls _ ls _ (RL.out.below A14.out.below) hz).mono ?_
  rintro e w16 ⟨vz, rfl, o, q⟩
  obtain ⟨az, cz, rfl⟩ := row_slice o
  have A16 := hide (A14.out.add q (TInts.st _ _) ⟨o, row_top o⟩)
  clear A14 q o
  obtain ⟨loz, hiz, dz⟩ := A16.out.get 0 rfl
  have Dz := hide (Own.rd dz.1)
  clear dz
  go_wp2_with fail
  refine (C2.out _ _ Dz.out).mono ?_
  rintro e w17 ⟨lh, rh, vh, rfl, d, o, q⟩
  obtain ⟨alh, clh, arh, crh, rfl, rfl⟩ := d.sl
  obtain ⟨ah, ch, rfl⟩ := row_slice o
  have A17 := hide ((A16.out.add q (TPly.st _ _ _ _ _ _) ⟨d, o, row_top o⟩).box #[.int .i64 sX, .slice alh X.length clh, .slice arh Y.length crh, .int .i64 mX] 28)
  clear A16 Dz loz hiz q d o
  obtain ⟨cbh0, cbh1, cbh2, cbh3⟩ := (A17.out.atBox 0 rfl).c4
  obtain ⟨cbW0, cbW1, cbW2, cbW3⟩ := (A17.out.atBox 7 rfl).c4
  obtain ⟨loh, hih, dh⟩ := A17.out.get 1 rfl
  have Dh := hide dh.1
  have Eh := hide (OwnZ.rd dh.2.1)
  clear dh
  obtain ⟨loW, hiW, dW⟩ := A17.out.get 8 rfl
  have DW := hide dW.1
  have EW := hide (OwnZ.rd dW.2.1)
  clear dW
  go_wp2_with fail
  refine (eqTable_same sX mX _ _ _ _ X Y _ Dh.out.rl Dh.out.rr DW.out.rl DW.out.rr).mono ?_
  rintro e w18 ⟨rfl, q⟩
  have A18 := hide (A17.out.step q)
  clear A17 cbh0 cbh1 cbh2 cbh3 cbW0 cbW1 cbW2 cbW3 Eh Dh loh hih EW DW loW hiW q
  obtain ⟨loh, hih, dh⟩ := A18.out.get 1 rfl
  have Dh := hide dh.1
  have Eh := hide (OwnZ.rd dh.2.1)
  clear dh
  obtain ⟨loW, hiW, dW⟩ := A18.out.get 8 rfl
  have DW := hide dW.1
  have EW := hide (OwnZ.rd dW.2.1)
  clear dW
  go_wp2_with fail
  refine (eqBoolS_same _ _ B _ Eh.out EW.out).mono ?_
  rintro e w19 ⟨rfl, q⟩
  have A19 := hide (A18.out.step q)
  clear A18 Eh Dh loh hih EW DW loW hiW q
  obtain ⟨cbg0, cbg1, cbg2, cbg3⟩ := (A19.out.atBox 4 rfl).c4
  obtain ⟨log, hig, dg⟩ := A19.out.get 5 rfl
  have Dg := hide dg.1
  have Eg := hide (OwnZ.rd dg.2.1)
  clear dg
  go_wp2_with fail
  refine (heldTable_calls sX mX _ _ X Y _ Dg.out.rl Dg.out.rr SX.out.1 SX.out.2.1).mono ?_
  rintro e w20 ⟨rfl, q⟩
  have A20 := hide (A19.out.step q)
  clear A19 cbg0 cbg1 cbg2 cbg3 Eg Dg log hig q
  rw [← MM.out]
  obtain ⟨log, hig, dg⟩ := A20.out.get 5 rfl
  have Dg := hide dg.1
  have Eg := hide (OwnZ.rd dg.2.1)
  clear dg
  go_wp2_with fail
  refine (heldBoolS_calls _ B.length mm _ Eg.out mk.1 mk.2 SX.out.2.2).mono ?_
  rintro e w21 ⟨rfl, rfl⟩
  clear Eg Dg log hig
  go_wp2
  go_ret
  exact ⟨rfl, A20.out.below⟩
end Go.Proofs.Ytehjfjplajimfaa

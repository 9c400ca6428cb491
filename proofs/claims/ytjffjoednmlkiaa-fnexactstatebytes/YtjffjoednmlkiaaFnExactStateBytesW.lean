/-
  The law that holds the program's StateBytes against its model's: at every list of numbers the call returns true, and nothing that was there is written. No condition.
-/
import Derived.Test.YtjffjoednmlkiaaJsd
namespace Go.Proofs.Ytjffjoednmlkiaa
open Go.RowKit
set_option linter.unusedVariables false

set_option maxRecDepth 100000 in
set_option maxHeartbeats 3200000 in
theorem fnExactStateBytes_walk (l : Value) (ls : List Int) (w : World) (hl : Rd w l ls) :
    Calls Try.prog 8 #[l] w fun e w' => e = .returned (.bool true) ∧ Below w.heap.size w w' := by
  have RL := hide hl
  obtain ⟨a, cap, rfl, hcap, hcm, _⟩ := hl
  have hm := hcm.1
  unfold maxLen at hm
  clear hcm
  obtain ⟨ok, hok⟩ := bol_exJ (jsP ls)
  have C1 := hide (fun V p h => sStateBytes_calls p ls ok V h hok)
  have C2 := hide (fun V p h => stateBytes_calls p ls ok V h hok)
  have hx := sbR_facts ok ls hok
  generalize sbR ok ls = X at C1 C2 hx
  have SM := hide hx.2
  have xl : X.length ≤ 2 := hx.1
  clear hok hx
  by_cases hz : ls.length ≤ 1048576
  case neg =>
    have hz' : (1048576 : Int) < (ls.length : Int) := by omega
    go_enter Try.func8, Try.ntmps8
    go_wp2
    go_ret
    exact ⟨rfl, Below.refl _ _⟩
  have hz' : ¬ (1048576 : Int) < (ls.length : Int) := by omega
  have A0 := hide (Hand.start w)
  go_enter Try.func8, Try.ntmps8
  go_wp2_with fail
  refine (toIntS_calls _ ls _ (RL.out.below A0.out.below) hz).mono ?_
  rintro e w1 ⟨vX0, rfl, o, q⟩
  obtain ⟨aX0, cX0, rfl⟩ := row_slice o
  have A1 := hide (A0.out.add q (TInts.st _ _) ⟨o, row_top o⟩)
  clear A0 q o
  obtain ⟨loX0, hiX0, dX0⟩ := A1.out.get 0 rfl
  have DX0 := hide (Own.rd dX0.1)
  clear dX0
  go_wp2_with fail
  refine (C1.out _ _ DX0.out).mono ?_
  rintro e w2 ⟨vW, rfl, o, q⟩
  obtain ⟨aW, cW, rfl⟩ := own_slice o
  have A2 := hide (A1.out.add q (TTxs.st _ _) ⟨o, row_top o⟩)
  clear A1 DX0 loX0 hiX0 q o
  go_wp2_with fail
  refine (toIntS_calls _ ls _ (RL.out.below A2.out.below) hz).mono ?_
  rintro e w3 ⟨vx, rfl, o, q⟩
  obtain ⟨ax, cx, rfl⟩ := row_slice o
  have A3 := hide (A2.out.add q (TInts.st _ _) ⟨o, row_top o⟩)
  clear A2 q o
  obtain ⟨lox, hix, dx⟩ := A3.out.get 0 rfl
  have Dx := hide (Own.rd dx.1)
  clear dx
  go_wp2_with fail
  refine (C2.out _ _ Dx.out).mono ?_
  rintro e w4 ⟨vg, rfl, o, q⟩
  obtain ⟨ag, cg, rfl⟩ := own_slice o
  have A4 := hide (A3.out.add q (TTxs.st _ _) ⟨o, row_top o⟩)
  clear A3 Dx lox hix q o
  obtain ⟨log, hig, dg⟩ := A4.out.get 0 rfl
  have Dg := hide (OwnT.rd dg.1 (SM.out))
  clear dg
  obtain ⟨loW, hiW, dW⟩ := A4.out.get 2 rfl
  have DW := hide (OwnT.rd dW.1 (SM.out))
  clear dW
  go_wp2_with fail
  refine (eqStringS_same _ _ X _ Dg.out DW.out).mono ?_
  rintro e w5 ⟨rfl, q⟩
  have A5 := hide (A4.out.step q)
  clear A4 Dg log hig DW loW hiW q
  go_wp2_with fail
  refine (toIntS_calls _ ls _ (RL.out.below A5.out.below) hz).mono ?_
  rintro e w6 ⟨vy, rfl, o, q⟩
  obtain ⟨ay, cy, rfl⟩ := row_slice o
  have A6 := hide (A5.out.add q (TInts.st _ _) ⟨o, row_top o⟩)
  clear A5 q o
  obtain ⟨lox, hix, dx⟩ := A6.out.get 2 rfl
  have Dx := hide (Own.rd dx.1)
  clear dx
  obtain ⟨loy, hiy, dy⟩ := A6.out.get 0 rfl
  have Dy := hide (Own.rd dy.1)
  clear dy
  go_wp2_with fail
  refine (eqIntS_same _ _ ls _ Dx.out Dy.out).mono ?_
  rintro e w7 ⟨rfl, q⟩
  have A7 := hide (A6.out.step q)
  clear A6 Dx lox hix Dy loy hiy q
  obtain ⟨lox, hix, dx, lw, hw, put⟩ := A7.out.open 2 rfl
  have PUT := hide put
  have HW := hide hw
  have Dx := hide dx.1
  have TDx := hide dx.2
  clear put lw hw dx
  go_wp2_with fail
  refine (markIntS_calls _ ls 1 _ _ Dx.out (by omega) (by omega) (by omega)).mono ?_
  rintro e w8 ⟨rfl, o4, g4⟩
  have A8 := hide (PUT.out _ (TInts _ _) (TInts.st _ _) ⟨o4, TDx.out⟩ (Chg.ofGrown g4 (fun j hj => ⟨row_low Dx.out j hj, TDx.out j hj⟩)))
  clear A7 lox hix PUT HW Dx TDx o4 g4
  have kn : ¬ ((1 : Int) + (ls.length : Int) < 0) := by omega
  obtain ⟨log, hig, dg⟩ := A8.out.get 1 rfl
  have Dg := hide (OwnT.rd dg.1 (SM.out))
  clear dg
  obtain ⟨loW, hiW, dW⟩ := A8.out.get 3 rfl
  have DW := hide (OwnT.rd dW.1 (SM.out))
  clear dW
  go_wp2_with fail
  refine (eqStringS_same _ _ X _ Dg.out DW.out).mono ?_
  rintro e w9 ⟨rfl, q⟩
  have A9 := hide (A8.out.step q)
  clear A8 Dg log hig DW loW hiW q
  obtain ⟨log, hig, dg, lw, hw, put⟩ := A9.out.open 1 rfl
  have PUT := hide put
  have HW := hide hw
  have Dg := hide dg.1
  have TDg := hide dg.2
  clear put lw hw dg
  go_wp2_with fail
  refine (markStringS_calls _ X 1 _ _ Dg.out (by omega) (by omega) (by omega)).mono ?_
  rintro e w10 ⟨rfl, o4, g4⟩
  have A10 := hide (PUT.out _ (TTxs _ _) (TTxs.st _ _) ⟨o4, TDg.out⟩ (Chg.ofGrown g4 (fun j hj => ⟨row_low Dg.out j hj, TDg.out j hj⟩)))
  clear A9 log hig PUT HW Dg TDg o4 g4
  obtain ⟨log, hig, dg⟩ := A10.out.get 1 rfl
  have Dg := hide (OwnT.rd dg.1 (marksT_small 1 X.length (by omega)))
  clear dg
  go_wp2_with fail
  refine (heldStringS_calls _ X.length 1 _ Dg.out (by omega) (by omega) (by omega)).mono ?_
  rintro e w11 ⟨rfl, q⟩
  have A11 := hide (A10.out.step q)
  clear A10 Dg log hig q
  go_wp2_with fail
  refine (toIntS_calls _ ls _ (RL.out.below A11.out.below) hz).mono ?_
  rintro e w12 ⟨vz, rfl, o, q⟩
  obtain ⟨az, cz, rfl⟩ := row_slice o
  have A12 := hide (A11.out.add q (TInts.st _ _) ⟨o, row_top o⟩)
  clear A11 q o
  obtain ⟨loz, hiz, dz⟩ := A12.out.get 0 rfl
  have Dz := hide (Own.rd dz.1)
  clear dz
  go_wp2_with fail
  refine (C2.out _ _ Dz.out).mono ?_
  rintro e w13 ⟨vh, rfl, o, q⟩
  obtain ⟨ah, ch, rfl⟩ := own_slice o
  have A13 := hide (A12.out.add q (TTxs.st _ _) ⟨o, row_top o⟩)
  clear A12 Dz loz hiz q o
  obtain ⟨loh, hih, dh⟩ := A13.out.get 0 rfl
  have Dh := hide (OwnT.rd dh.1 (SM.out))
  clear dh
  obtain ⟨loW, hiW, dW⟩ := A13.out.get 5 rfl
  have DW := hide (OwnT.rd dW.1 (SM.out))
  clear dW
  go_wp2_with fail
  refine (eqStringS_same _ _ X _ Dh.out DW.out).mono ?_
  rintro e w14 ⟨rfl, q⟩
  have A14 := hide (A13.out.step q)
  clear A13 Dh loh hih DW loW hiW q
  obtain ⟨log, hig, dg⟩ := A14.out.get 3 rfl
  have Dg := hide (OwnT.rd dg.1 (marksT_small 1 X.length (by omega)))
  clear dg
  go_wp2_with fail
  refine (heldStringS_calls _ X.length 1 _ Dg.out (by omega) (by omega) (by omega)).mono ?_
  rintro e w15 ⟨rfl, q⟩
  have A15 := hide (A14.out.step q)
  clear A14 Dg log hig q
  go_wp2
  go_ret
  exact ⟨rfl, A15.out.below⟩
end Go.Proofs.Ytjffjoednmlkiaa

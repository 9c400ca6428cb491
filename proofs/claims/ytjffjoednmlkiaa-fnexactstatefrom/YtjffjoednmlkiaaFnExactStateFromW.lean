/-
  The law that holds the program's StateFrom against its model's: at every list of texts the call returns true, and nothing that was there is written. No condition.
-/
import Derived.Test.YtjffjoednmlkiaaJsd
namespace Go.Proofs.Ytjffjoednmlkiaa
open Go.RowKit
set_option linter.unusedVariables false

set_option maxRecDepth 100000 in
set_option maxHeartbeats 3200000 in
theorem fnExactStateFrom_walk (l : Value) (ls : List ByteArray) (w : World) (hl : RdT w l ls) :
    Calls Try.prog 9 #[l] w fun e w' => e = .returned (.bool true) ∧ Below w.heap.size w w' := by
  have RL := hide hl
  have SL := hide hl.small
  obtain ⟨ok, hok⟩ := bol_exJ (jfP ls)
  have C1 := hide (fun V p h => sStateFrom_calls p ls ok V h hok)
  have C2 := hide (fun V p h => stateFrom_calls p ls ok V h hok)
  have hx := sfR_facts ok ls
  generalize sfR ok ls = X at C1 C2 hx
  have xl : X.length ≤ 6 := hx
  clear hok hx hl
  have A0 := hide (Hand.start w)
  go_enter Try.func9, Try.ntmps9
  go_wp2_with fail
  refine (szStringS_calls _ ls _ (RL.out.below A0.out.below)).mono ?_
  rintro e w1 ⟨⟨r, rfl, hsz⟩, rfl⟩
  rcases hsz with hneg | ⟨hpos, hn, _⟩
  · go_wp2
    go_ret
    exact ⟨rfl, A0.out.below⟩
  have hpos' : ¬ r < 0 := by omega
  go_wp2_with fail
  refine (toStringS_calls _ ls _ (RL.out.below A0.out.below) hn).mono ?_
  rintro e w2 ⟨vX0, rfl, o, q⟩
  obtain ⟨aX0, cX0, rfl⟩ := own_slice o
  have A2 := hide (A0.out.add q (TTxs.st _ _) ⟨o, row_top o⟩)
  clear A0 q o
  obtain ⟨loX0, hiX0, dX0⟩ := A2.out.get 0 rfl
  have DX0 := hide (OwnT.rd dX0.1 (SL.out))
  clear dX0
  go_wp2_with fail
  refine (C1.out _ _ DX0.out).mono ?_
  rintro e w3 ⟨vW, rfl, o, q⟩
  obtain ⟨aW, cW, rfl⟩ := row_slice o
  have A3 := hide (A2.out.add q (TInts.st _ _) ⟨o, row_top o⟩)
  clear A2 DX0 loX0 hiX0 q o
  go_wp2_with fail
  refine (toStringS_calls _ ls _ (RL.out.below A3.out.below) hn).mono ?_
  rintro e w4 ⟨vx, rfl, o, q⟩
  obtain ⟨ax, cx, rfl⟩ := own_slice o
  have A4 := hide (A3.out.add q (TTxs.st _ _) ⟨o, row_top o⟩)
  clear A3 q o
  obtain ⟨lox, hix, dx⟩ := A4.out.get 0 rfl
  have Dx := hide (OwnT.rd dx.1 (SL.out))
  clear dx
  go_wp2_with fail
  refine (C2.out _ _ Dx.out).mono ?_
  rintro e w5 ⟨vg, rfl, o, q⟩
  obtain ⟨ag, cg, rfl⟩ := row_slice o
  have A5 := hide (A4.out.add q (TInts.st _ _) ⟨o, row_top o⟩)
  clear A4 Dx lox hix q o
  obtain ⟨log, hig, dg⟩ := A5.out.get 0 rfl
  have Dg := hide (Own.rd dg.1)
  clear dg
  obtain ⟨loW, hiW, dW⟩ := A5.out.get 2 rfl
  have DW := hide (Own.rd dW.1)
  clear dW
  go_wp2_with fail
  refine (eqIntS_same _ _ X _ Dg.out DW.out).mono ?_
  rintro e w6 ⟨rfl, q⟩
  have A6 := hide (A5.out.step q)
  clear A5 Dg log hig DW loW hiW q
  go_wp2_with fail
  refine (toStringS_calls _ ls _ (RL.out.below A6.out.below) hn).mono ?_
  rintro e w7 ⟨vy, rfl, o, q⟩
  obtain ⟨ay, cy, rfl⟩ := own_slice o
  have A7 := hide (A6.out.add q (TTxs.st _ _) ⟨o, row_top o⟩)
  clear A6 q o
  obtain ⟨lox, hix, dx⟩ := A7.out.get 2 rfl
  have Dx := hide (OwnT.rd dx.1 (SL.out))
  clear dx
  obtain ⟨loy, hiy, dy⟩ := A7.out.get 0 rfl
  have Dy := hide (OwnT.rd dy.1 (SL.out))
  clear dy
  go_wp2_with fail
  refine (eqStringS_same _ _ ls _ Dx.out Dy.out).mono ?_
  rintro e w8 ⟨rfl, q⟩
  have A8 := hide (A7.out.step q)
  clear A7 Dx lox hix Dy loy hiy q
  obtain ⟨lox, hix, dx, lw, hw, put⟩ := A8.out.open 2 rfl
  have PUT := hide put
  have HW := hide hw
  have Dx := hide dx.1
  have TDx := hide dx.2
  clear put lw hw dx
  go_wp2_with fail
  refine (markStringS_calls _ ls 1 _ _ Dx.out (by omega) (by omega) (by omega)).mono ?_
  rintro e w9 ⟨rfl, o4, g4⟩
  have A9 := hide (PUT.out _ (TTxs _ _) (TTxs.st _ _) ⟨o4, TDx.out⟩ (Chg.ofGrown g4 (fun j hj => ⟨row_low Dx.out j hj, TDx.out j hj⟩)))
  clear A8 lox hix PUT HW Dx TDx o4 g4
  have kn : ¬ ((1 : Int) + (ls.length : Int) < 0) := by omega
  obtain ⟨log, hig, dg⟩ := A9.out.get 1 rfl
  have Dg := hide (Own.rd dg.1)
  clear dg
  obtain ⟨loW, hiW, dW⟩ := A9.out.get 3 rfl
  have DW := hide (Own.rd dW.1)
  clear dW
  go_wp2_with fail
  refine (eqIntS_same _ _ X _ Dg.out DW.out).mono ?_
  rintro e w10 ⟨rfl, q⟩
  have A10 := hide (A9.out.step q)
  clear A9 Dg log hig DW loW hiW q
  obtain ⟨log, hig, dg, lw, hw, put⟩ := A10.out.open 1 rfl
  have PUT := hide put
  have HW := hide hw
  have Dg := hide dg.1
  have TDg := hide dg.2
  clear put lw hw dg
  go_wp2_with fail
  refine (markIntS_calls _ X 1 _ _ Dg.out (by omega) (by omega) (by omega)).mono ?_
  rintro e w11 ⟨rfl, o4, g4⟩
  have A11 := hide (PUT.out _ (TInts _ _) (TInts.st _ _) ⟨o4, TDg.out⟩ (Chg.ofGrown g4 (fun j hj => ⟨row_low Dg.out j hj, TDg.out j hj⟩)))
  clear A10 log hig PUT HW Dg TDg o4 g4
  have xn : ¬ ((1 : Int) + (X.length : Int) < 0) := by omega
  obtain ⟨log, hig, dg⟩ := A11.out.get 1 rfl
  have Dg := hide (Own.rd dg.1)
  clear dg
  go_wp2_with fail
  refine (heldIntS_calls _ X.length 1 _ Dg.out (by omega) (by omega) (by omega)).mono ?_
  rintro e w12 ⟨rfl, rfl⟩
  clear Dg log hig
  go_wp2_with fail
  refine (toStringS_calls _ ls _ (RL.out.below A11.out.below) hn).mono ?_
  rintro e w13 ⟨vz, rfl, o, q⟩
  obtain ⟨az, cz, rfl⟩ := own_slice o
  have A13 := hide (A11.out.add q (TTxs.st _ _) ⟨o, row_top o⟩)
  clear A11 q o
  obtain ⟨loz, hiz, dz⟩ := A13.out.get 0 rfl
  have Dz := hide (OwnT.rd dz.1 (SL.out))
  clear dz
  go_wp2_with fail
  refine (C2.out _ _ Dz.out).mono ?_
  rintro e w14 ⟨vh, rfl, o, q⟩
  obtain ⟨ah, ch, rfl⟩ := row_slice o
  have A14 := hide (A13.out.add q (TInts.st _ _) ⟨o, row_top o⟩)
  clear A13 Dz loz hiz q o
  obtain ⟨loh, hih, dh⟩ := A14.out.get 0 rfl
  have Dh := hide (Own.rd dh.1)
  clear dh
  obtain ⟨loW, hiW, dW⟩ := A14.out.get 5 rfl
  have DW := hide (Own.rd dW.1)
  clear dW
  go_wp2_with fail
  refine (eqIntS_same _ _ X _ Dh.out DW.out).mono ?_
  rintro e w15 ⟨rfl, q⟩
  have A15 := hide (A14.out.step q)
  clear A14 Dh loh hih DW loW hiW q
  obtain ⟨log, hig, dg⟩ := A15.out.get 3 rfl
  have Dg := hide (Own.rd dg.1)
  clear dg
  go_wp2_with fail
  refine (heldIntS_calls _ X.length 1 _ Dg.out (by omega) (by omega) (by omega)).mono ?_
  rintro e w16 ⟨rfl, rfl⟩
  clear Dg log hig
  go_wp2
  go_ret
  exact ⟨rfl, A15.out.below⟩
end Go.Proofs.Ytjffjoednmlkiaa

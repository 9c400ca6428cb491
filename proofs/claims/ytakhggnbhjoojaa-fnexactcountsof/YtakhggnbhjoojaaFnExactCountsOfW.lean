/-
  The law that holds the program's CountsOf against its model's: at all nodes and roots the call returns true, and nothing that was there is written. No condition.
-/
import Derived.Test.YtakhggnbhjoojaaGnd
import Derived.Test.YtakhggnbhjoojaaNdg
namespace Go.Proofs.Ytakhggnbhjoojaa
open Go.RowKit
set_option linter.unusedVariables false

theorem ctR_small (m : List Nd) (rs : List Int) : (ctR m rs).length ≤ 14 := by
  unfold ctR
  split
  · rename_i h
    rw [cntG_len]
    exact h.1.1
  · simp

set_option maxRecDepth 100000 in
set_option maxHeartbeats 3200000 in
theorem fnExactCountsOf_walk (v : Value) (m : List Nd) (u : Value) (rs : List Int) (w : World) (h : RdN w v m) (hu : Rd w u rs) :
    Calls Try.prog 6 #[v, u] w fun e w' => e = .returned (.bool true) ∧ Below w.heap.size w w' := by
  have R := hide h
  have U := hide hu
  obtain ⟨av, kv, rfl, _, _⟩ := h.sl
  obtain ⟨au, ku, rfl, hu1, hu2⟩ := hu.slc
  have hrm : rs.length ≤ maxLen := by omega
  unfold maxLen at hrm
  clear h hu hu1 hu2
  have C1 := hide (fun V v u h1 h2 => sCountsOf_calls v u m rs V h1 h2)
  have C2 := hide (fun V v u h1 h2 => countsOf_calls v u m rs V h1 h2)
  have SX := hide (ctR_small m rs)
  generalize ctR m rs = X at C1 C2 SX
  generalize decide (okG m rs) = ok at C1 C2
  have hx14 : X.length ≤ 14 := SX.out
  by_cases hr : (1048576 : Int) < (rs.length : Int)
  · go_enter Try.func6, Try.ntmps6
    go_wp2
    go_ret
    exact ⟨rfl, Below.refl _ _⟩
  have hrs : rs.length ≤ 1048576 := by omega
  have A0 := hide (Hand.start w)
  go_enter Try.func6, Try.ntmps6
  go_wp2_with fail
  refine (szNodeS_calls _ m _ (R.out.below A0.out.below)).mono ?_
  rintro e w1 ⟨⟨r, rfl, hr2⟩, q⟩
  have A1 := hide (A0.out.step q)
  clear A0 q
  by_cases r0 : r < 0
  · go_wp2
    go_ret
    exact ⟨rfl, A1.out.below⟩
  have SZ := hide (hr2.resolve_left r0).2.2
  have szm := (hr2.resolve_left r0).2.2
  clear hr2
  have en1 : enN 1 m ≤ 1048577 := by unfold enN; omega
  go_wp2_with fail
  refine (toNodeS_calls _ m _ (R.out.below A1.out.below) SZ.out).mono ?_
  rintro e w2 ⟨gX, rfl, d, q⟩
  have A2 := hide (A1.out.add q (TNds.st _ _) d)
  clear A1 q d
  go_wp2_with fail
  refine (toIntS_calls _ rs _ (U.out.below A2.out.below) hrs).mono ?_
  rintro e w3 ⟨vY, rfl, o, q⟩
  obtain ⟨aY, cY, rfl⟩ := row_slice o
  have A3 := hide (A2.out.add q (TInts.st _ _) ⟨o, row_top o⟩)
  clear A2 q o
  obtain ⟨loX, hiX, dX⟩ := A3.out.get 1 rfl
  have DX := hide (TNds.rd dX)
  clear dX
  obtain ⟨loY, hiY, dY⟩ := A3.out.get 0 rfl
  have DY := hide (Own.rd dY.1)
  clear dY
  go_wp2_with fail
  refine (C1.out _ _ _ DX.out DY.out).mono ?_
  rintro e w4 ⟨vW, rfl, o, q⟩
  obtain ⟨aW, cW, rfl⟩ := row_slice o
  have A4 := hide (A3.out.add q (TInts.st _ _) ⟨o, row_top o⟩)
  clear A3 DX loX hiX DY loY hiY q o
  go_wp2_with fail
  refine (toNodeS_calls _ m _ (R.out.below A4.out.below) SZ.out).mono ?_
  rintro e w5 ⟨gx, rfl, d, q⟩
  have A5 := hide (A4.out.add q (TNds.st _ _) d)
  clear A4 q d
  go_wp2_with fail
  refine (toIntS_calls _ rs _ (U.out.below A5.out.below) hrs).mono ?_
  rintro e w6 ⟨vy, rfl, o, q⟩
  obtain ⟨ay, cy, rfl⟩ := row_slice o
  have A6 := hide (A5.out.add q (TInts.st _ _) ⟨o, row_top o⟩)
  clear A5 q o
  obtain ⟨lox, hix, dx⟩ := A6.out.get 1 rfl
  have Dx := hide (TNds.rd dx)
  clear dx
  obtain ⟨loy, hiy, dy⟩ := A6.out.get 0 rfl
  have Dy := hide (Own.rd dy.1)
  clear dy
  go_wp2_with fail
  refine (C2.out _ _ _ Dx.out Dy.out).mono ?_
  rintro e w7 ⟨vg, rfl, o, q⟩
  obtain ⟨ag, cg, rfl⟩ := row_slice o
  have A7 := hide (A6.out.add q (TInts.st _ _) ⟨o, row_top o⟩)
  clear A6 Dx lox hix Dy loy hiy q o
  obtain ⟨log, hig, dg⟩ := A7.out.get 0 rfl
  have Dg := hide (Own.rd dg.1)
  clear dg
  obtain ⟨loW, hiW, dW⟩ := A7.out.get 3 rfl
  have DW := hide (Own.rd dW.1)
  clear dW
  go_wp2_with fail
  refine (eqIntS_same _ _ X _ Dg.out DW.out).mono ?_
  rintro e w8 ⟨rfl, q⟩
  have A8 := hide (A7.out.step q)
  clear A7 Dg log hig DW loW hiW q
  go_wp2_with fail
  refine (toNodeS_calls _ m _ (R.out.below A8.out.below) SZ.out).mono ?_
  rintro e w9 ⟨gt, rfl, d, q⟩
  have A9 := hide (A8.out.add q (TNds.st _ _) d)
  clear A8 q d
  obtain ⟨lox, hix, dx⟩ := A9.out.get 3 rfl
  have Dx := hide (TNds.rd dx)
  clear dx
  obtain ⟨lot, hit, dt⟩ := A9.out.get 0 rfl
  have Dt := hide (TNds.rd dt)
  clear dt
  go_wp2_with fail
  refine (eqNodeS_same _ _ m _ Dx.out Dt.out).mono ?_
  rintro e w10 ⟨rfl, q⟩
  have A10 := hide (A9.out.step q)
  clear A9 Dx lox hix Dt lot hit q
  go_wp2_with fail
  refine (toIntS_calls _ rs _ (U.out.below A10.out.below) hrs).mono ?_
  rintro e w11 ⟨vj, rfl, o, q⟩
  obtain ⟨aj, cj, rfl⟩ := row_slice o
  have A11 := hide (A10.out.add q (TInts.st _ _) ⟨o, row_top o⟩)
  clear A10 q o
  obtain ⟨loy, hiy, dy⟩ := A11.out.get 3 rfl
  have Dy := hide (Own.rd dy.1)
  clear dy
  obtain ⟨loj, hij, dj⟩ := A11.out.get 0 rfl
  have Dj := hide (Own.rd dj.1)
  clear dj
  go_wp2_with fail
  refine (eqIntS_same _ _ rs _ Dy.out Dj.out).mono ?_
  rintro e w12 ⟨rfl, q⟩
  have A12 := hide (A11.out.step q)
  clear A11 Dy loy hiy Dj loj hij q
  obtain ⟨lox, hix, dx, lw, hw, put⟩ := A12.out.open 4 rfl
  have PUT := hide put
  have HW := hide hw
  clear put lw hw
  obtain ⟨usx, dx⟩ := dx
  have Dx := hide dx
  clear dx
  go_wp2_with fail
  refine (markNodeS_calls _ 1 m [] _ [] _ _ _ Dx.out SZ.out (by omega)).mono ?_
  rintro e w13 ⟨rfl, d4, q⟩
  have A13 := hide (PUT.out _ (TNds _ _) (TNds.st _ _) ⟨_, d4⟩ q)
  clear A12 lox hix PUT HW Dx usx q d4
  obtain ⟨kk, hkk⟩ : ∃ kk, kk = enN 1 m := ⟨_, rfl⟩
  rw [← hkk] at en1 ⊢
  clear hkk
  obtain ⟨loy, hiy, dy, lw, hw, put⟩ := A13.out.open 3 rfl
  have PUT := hide put
  have HW := hide hw
  clear put lw hw
  have Dy := hide dy.1
  have TDy := hide dy.2
  clear dy
  go_wp2_with fail
  refine (markIntS_calls _ rs (kk : Int) _ _ Dy.out (by omega) (by omega) (by omega)).mono ?_
  rintro e w14 ⟨rfl, o4, g4⟩
  have A14 := hide (PUT.out _ (TInts _ _) (TInts.st _ _) ⟨o4, TDy.out⟩ (Chg.ofGrown g4 (fun j hj => ⟨row_low Dy.out j hj, TDy.out j hj⟩)))
  clear A13 loy hiy PUT HW Dy TDy o4 g4
  have kn : ¬ ((kk : Int) + (rs.length : Int) < 0) := by omega
  obtain ⟨log, hig, dg⟩ := A14.out.get 2 rfl
  have Dg := hide (Own.rd dg.1)
  clear dg
  obtain ⟨loW, hiW, dW⟩ := A14.out.get 5 rfl
  have DW := hide (Own.rd dW.1)
  clear dW
  go_wp2_with fail
  refine (eqIntS_same _ _ X _ Dg.out DW.out).mono ?_
  rintro e w15 ⟨rfl, q⟩
  have A15 := hide (A14.out.step q)
  clear A14 Dg log hig DW loW hiW q
  obtain ⟨log, hig, dg, lw, hw, put⟩ := A15.out.open 2 rfl
  have PUT := hide put
  have HW := hide hw
  clear put lw hw
  have Dg := hide dg.1
  have TDg := hide dg.2
  clear dg
  go_wp2_with fail
  refine (markIntS_calls _ X 1 _ _ Dg.out (by omega) (by omega) (by omega)).mono ?_
  rintro e w16 ⟨rfl, o4, g4⟩
  have A16 := hide (PUT.out _ (TInts _ _) (TInts.st _ _) ⟨o4, TDg.out⟩ (Chg.ofGrown g4 (fun j hj => ⟨row_low Dg.out j hj, TDg.out j hj⟩)))
  clear A15 log hig PUT HW Dg TDg o4 g4
  have xn : ¬ ((1 : Int) + (X.length : Int) < 0) := by omega
  obtain ⟨log, hig, dg⟩ := A16.out.get 2 rfl
  have Dg := hide (Own.rd dg.1)
  clear dg
  go_wp2_with fail
  refine (heldIntS_calls _ X.length 1 _ Dg.out (by omega) (by omega) (by omega)).mono ?_
  rintro e w17 ⟨rfl, rfl⟩
  clear Dg log hig
  go_wp2_with fail
  refine (toNodeS_calls _ m _ (R.out.below A16.out.below) SZ.out).mono ?_
  rintro e w18 ⟨gz, rfl, d, q⟩
  have A18 := hide (A16.out.add q (TNds.st _ _) d)
  clear A16 q d
  go_wp2_with fail
  refine (toIntS_calls _ rs _ (U.out.below A18.out.below) hrs).mono ?_
  rintro e w19 ⟨vf, rfl, o, q⟩
  obtain ⟨af, cf, rfl⟩ := row_slice o
  have A19 := hide (A18.out.add q (TInts.st _ _) ⟨o, row_top o⟩)
  clear A18 q o
  obtain ⟨loz, hiz, dz⟩ := A19.out.get 1 rfl
  have Dz := hide (TNds.rd dz)
  clear dz
  obtain ⟨lof, hif, df⟩ := A19.out.get 0 rfl
  have Df := hide (Own.rd df.1)
  clear df
  go_wp2_with fail
  refine (C2.out _ _ _ Dz.out Df.out).mono ?_
  rintro e w20 ⟨vh, rfl, o, q⟩
  obtain ⟨ah, ch, rfl⟩ := row_slice o
  have A20 := hide (A19.out.add q (TInts.st _ _) ⟨o, row_top o⟩)
  clear A19 Dz loz hiz Df lof hif q o
  obtain ⟨loh, hih, dh⟩ := A20.out.get 0 rfl
  have Dh := hide (Own.rd dh.1)
  clear dh
  obtain ⟨loW, hiW, dW⟩ := A20.out.get 8 rfl
  have DW := hide (Own.rd dW.1)
  clear dW
  go_wp2_with fail
  refine (eqIntS_same _ _ X _ Dh.out DW.out).mono ?_
  rintro e w21 ⟨rfl, q⟩
  have A21 := hide (A20.out.step q)
  clear A20 Dh loh hih DW loW hiW q
  obtain ⟨log, hig, dg⟩ := A21.out.get 5 rfl
  have Dg := hide (Own.rd dg.1)
  clear dg
  go_wp2_with fail
  refine (heldIntS_calls _ X.length 1 _ Dg.out (by omega) (by omega) (by omega)).mono ?_
  rintro e w22 ⟨rfl, rfl⟩
  clear Dg log hig
  go_wp2
  go_ret
  exact ⟨rfl, A21.out.below⟩
end Go.Proofs.Ytakhggnbhjoojaa

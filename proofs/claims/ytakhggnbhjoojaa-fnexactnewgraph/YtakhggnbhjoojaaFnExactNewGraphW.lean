/-
  The law that holds the program's NewGraph against its model's: at all nodes and roots the call returns true, and nothing that was there is written. No condition.
-/
import Derived.Test.YtakhggnbhjoojaaGnj
namespace Go.Proofs.Ytakhggnbhjoojaa
open Go.RowKit
set_option linter.unusedVariables false

theorem ng_small (m : List Nd) (rs : List Int) (ok : Bool) (h : ok = decide (goodG m rs (cntG m rs))) : SzG (gX ok m) (gX ok rs) (gX ok (cntG m rs)) := by
  cases ok with
  | false => exact ⟨by simp [gX, totN], by simp [gX], by simp [gX]⟩
  | true =>
    have h1 : goodG m rs (cntG m rs) := decide_eq_true_iff.1 h.symm
    exact szG_ok h1.1

set_option maxRecDepth 100000 in
set_option maxHeartbeats 3200000 in
theorem fnExactNewGraph_walk (v : Value) (m : List Nd) (u : Value) (rs : List Int) (w : World) (h : RdN w v m) (hu : Rd w u rs) :
    Calls Try.prog 3 #[v, u] w fun e w' => e = .returned (.bool true) ∧ Below w.heap.size w w' := by
  have R := hide h
  have U := hide hu
  obtain ⟨av, kv, rfl, _, _⟩ := h.sl
  obtain ⟨au, ku, rfl, hu1, hu2⟩ := hu.slc
  have hrm : rs.length ≤ maxLen := by omega
  unfold maxLen at hrm
  clear h hu hu1 hu2
  obtain ⟨ok, hok⟩ : ∃ ok, ok = decide (goodG m rs (cntG m rs)) := ⟨_, rfl⟩
  have C1 := hide (fun V v u h1 h2 => sNewGraph_calls v u m rs ok V h1 h2 hok)
  have C2 := hide (fun V v u h1 h2 => newGraph_calls v u m rs ok V h1 h2 hok)
  have SX := hide (ng_small m rs ok hok)
  generalize gX ok m = X at C1 C2 SX
  generalize gX ok rs = Y at C1 C2 SX
  generalize gX ok (cntG m rs) = Z at C1 C2 SX
  clear hok
  by_cases hr : (1048576 : Int) < (rs.length : Int)
  · go_enter Try.func3, Try.ntmps3
    go_wp2
    go_ret
    exact ⟨rfl, Below.refl _ _⟩
  have hrs : rs.length ≤ 1048576 := by omega
  have A0 := hide (Hand.start w)
  go_enter Try.func3, Try.ntmps3
  go_wp2_with fail
  refine (szNodeS_calls _ m _ (R.out.below A0.out.below)).mono ?_
  rintro e w1 ⟨⟨r, rfl, hr2⟩, q⟩
  have A1 := hide (A0.out.step q)
  clear A0 q
  by_cases r0 : r < 0
  · go_wp2
    go_ret
    exact ⟨rfl, A1.out.below⟩
  have SZ := hide (hr2.resolve_left r0).2.2
  have szm := (hr2.resolve_left r0).2.2
  clear hr2
  have en1 : enN 1 m ≤ 1048577 := by unfold enN; omega
  go_wp2_with fail
  refine (toNodeS_calls _ m _ (R.out.below A1.out.below) SZ.out).mono ?_
  rintro e w2 ⟨gX, rfl, d, q⟩
  have A2 := hide (A1.out.add q (TNds.st _ _) d)
  clear A1 q d
  go_wp2_with fail
  refine (toIntS_calls _ rs _ (U.out.below A2.out.below) hrs).mono ?_
  rintro e w3 ⟨vY, rfl, o, q⟩
  obtain ⟨aY, cY, rfl⟩ := row_slice o
  have A3 := hide (A2.out.add q (TInts.st _ _) ⟨o, row_top o⟩)
  clear A2 q o
  obtain ⟨loX, hiX, dX⟩ := A3.out.get 1 rfl
  have DX := hide (TNds.rd dX)
  clear dX
  obtain ⟨loY, hiY, dY⟩ := A3.out.get 0 rfl
  have DY := hide (Own.rd dY.1)
  clear dY
  go_wp2_with fail
  refine (C1.out _ _ _ DX.out DY.out).mono ?_
  rintro e w4 ⟨pW, rW, cW, rfl, d, q⟩
  obtain ⟨apW, cpW, arW, crW, acW, ccW, rfl, rfl, rfl⟩ := d.sls
  have ltW := q.size
  (try simp only [World.size_alloc] at ltW)
  have A4 := hide ((A3.out.add q (TGrf.st _ _ _ _ _ _) d).box #[.slice apW X.length cpW, .slice arW Y.length crW, .slice acW Z.length ccW] 27)
  clear A3 DX loX hiX DY loY hiY q d
  go_wp2_with fail
  refine (toNodeS_calls _ m _ (R.out.below A4.out.below) SZ.out).mono ?_
  rintro e w5 ⟨gx, rfl, d, q⟩
  have A5 := hide (A4.out.add q (TNds.st _ _) d)
  clear A4 q d
  go_wp2_with fail
  refine (toIntS_calls _ rs _ (U.out.below A5.out.below) hrs).mono ?_
  rintro e w6 ⟨vy, rfl, o, q⟩
  obtain ⟨ay, cy, rfl⟩ := row_slice o
  have A6 := hide (A5.out.add q (TInts.st _ _) ⟨o, row_top o⟩)
  clear A5 q o
  obtain ⟨lox, hix, dx⟩ := A6.out.get 1 rfl
  have Dx := hide (TNds.rd dx)
  clear dx
  obtain ⟨loy, hiy, dy⟩ := A6.out.get 0 rfl
  have Dy := hide (Own.rd dy.1)
  clear dy
  go_wp2_with fail
  refine (C2.out _ _ _ Dx.out Dy.out).mono ?_
  rintro e w7 ⟨pg, rg, cg, rfl, d, q⟩
  obtain ⟨apg, cpg, arg, crg, acg, ccg, rfl, rfl, rfl⟩ := d.sls
  have ltg := q.size
  (try simp only [World.size_alloc] at ltg)
  have A7 := hide ((A6.out.add q (TGrf.st _ _ _ _ _ _) d).box #[.slice apg X.length cpg, .slice arg Y.length crg, .slice acg Z.length ccg] 27)
  clear A6 Dx lox hix Dy loy hiy q d
  obtain ⟨cbg0, cbg1, cbg2⟩ := (A7.out.atBox 0 rfl).c3
  obtain ⟨cbW0, cbW1, cbW2⟩ := (A7.out.atBox 4 rfl).c3
  obtain ⟨log, hig, dg⟩ := A7.out.get 1 rfl
  have Dg := hide (TGrf.rd dg)
  clear dg
  obtain ⟨loW, hiW, dW⟩ := A7.out.get 5 rfl
  have DW := hide (TGrf.rd dW)
  clear dW
  go_wp2_with fail
  refine (eqGraph_same _ _ _ _ _ _ X Y Z _ Dg.out DW.out).mono ?_
  rintro e w8 ⟨rfl, q⟩
  have A8 := hide (A7.out.step q)
  clear A7 cbg0 cbg1 cbg2 cbW0 cbW1 cbW2 Dg log hig DW loW hiW q
  go_wp2_with fail
  refine (toNodeS_calls _ m _ (R.out.below A8.out.below) SZ.out).mono ?_
  rintro e w9 ⟨gt, rfl, d, q⟩
  have A9 := hide (A8.out.add q (TNds.st _ _) d)
  clear A8 q d
  obtain ⟨lox, hix, dx⟩ := A9.out.get 4 rfl
  have Dx := hide (TNds.rd dx)
  clear dx
  obtain ⟨lot, hit, dt⟩ := A9.out.get 0 rfl
  have Dt := hide (TNds.rd dt)
  clear dt
  go_wp2_with fail
  refine (eqNodeS_same _ _ m _ Dx.out Dt.out).mono ?_
  rintro e w10 ⟨rfl, q⟩
  have A10 := hide (A9.out.step q)
  clear A9 Dx lox hix Dt lot hit q
  go_wp2_with fail
  refine (toIntS_calls _ rs _ (U.out.below A10.out.below) hrs).mono ?_
  rintro e w11 ⟨vj, rfl, o, q⟩
  obtain ⟨aj, cj, rfl⟩ := row_slice o
  have A11 := hide (A10.out.add q (TInts.st _ _) ⟨o, row_top o⟩)
  clear A10 q o
  obtain ⟨loy, hiy, dy⟩ := A11.out.get 4 rfl
  have Dy := hide (Own.rd dy.1)
  clear dy
  obtain ⟨loj, hij, dj⟩ := A11.out.get 0 rfl
  have Dj := hide (Own.rd dj.1)
  clear dj
  go_wp2_with fail
  refine (eqIntS_same _ _ rs _ Dy.out Dj.out).mono ?_
  rintro e w12 ⟨rfl, q⟩
  have A12 := hide (A11.out.step q)
  clear A11 Dy loy hiy Dj loj hij q
  obtain ⟨lox, hix, dx, lw, hw, put⟩ := A12.out.open 5 rfl
  have PUT := hide put
  have HW := hide hw
  clear put lw hw
  obtain ⟨usx, dx⟩ := dx
  have Dx := hide dx
  clear dx
  go_wp2_with fail
  refine (markNodeS_calls _ 1 m [] _ [] _ _ _ Dx.out SZ.out (by omega)).mono ?_
  rintro e w13 ⟨rfl, d4, q⟩
  have A13 := hide (PUT.out _ (TNds _ _) (TNds.st _ _) ⟨_, d4⟩ q)
  clear A12 lox hix PUT HW Dx usx q d4
  obtain ⟨kk, hkk⟩ : ∃ kk, kk = enN 1 m := ⟨_, rfl⟩
  rw [← hkk] at en1 ⊢
  clear hkk
  obtain ⟨loy, hiy, dy, lw, hw, put⟩ := A13.out.open 4 rfl
  have PUT := hide put
  have HW := hide hw
  clear put lw hw
  have Dy := hide dy.1
  have TDy := hide dy.2
  clear dy
  go_wp2_with fail
  refine (markIntS_calls _ rs (kk : Int) _ _ Dy.out (by omega) (by omega) (by omega)).mono ?_
  rintro e w14 ⟨rfl, o4, g4⟩
  have A14 := hide (PUT.out _ (TInts _ _) (TInts.st _ _) ⟨o4, TDy.out⟩ (Chg.ofGrown g4 (fun j hj => ⟨row_low Dy.out j hj, TDy.out j hj⟩)))
  clear A13 loy hiy PUT HW Dy TDy o4 g4
  have kn : ¬ ((kk : Int) + (rs.length : Int) < 0) := by omega
  obtain ⟨cbg0, cbg1, cbg2⟩ := (A14.out.atBox 2 rfl).c3
  obtain ⟨cbW0, cbW1, cbW2⟩ := (A14.out.atBox 6 rfl).c3
  obtain ⟨log, hig, dg⟩ := A14.out.get 3 rfl
  have Dg := hide (TGrf.rd dg)
  clear dg
  obtain ⟨loW, hiW, dW⟩ := A14.out.get 7 rfl
  have DW := hide (TGrf.rd dW)
  clear dW
  go_wp2_with fail
  refine (eqGraph_same _ _ _ _ _ _ X Y Z _ Dg.out DW.out).mono ?_
  rintro e w15 ⟨rfl, q⟩
  have A15 := hide (A14.out.step q)
  clear A14 cbg0 cbg1 cbg2 cbW0 cbW1 cbW2 Dg log hig DW loW hiW q
  obtain ⟨cbg0, cbg1, cbg2⟩ := (A15.out.atBox 2 rfl).c3
  obtain ⟨log, hig, dg, lw, hw, put⟩ := A15.out.open 3 rfl
  have PUT := hide put
  have HW := hide hw
  clear put lw hw
  have Dg := hide dg
  clear dg
  go_wp2_with fail
  refine (markGraph_calls _ _ _ X Y Z _ _ _ Dg.out HW.out SX.out).mono ?_
  rintro e w16 ⟨rfl, d4, q⟩
  have A16 := hide (PUT.out _ (TGrf _ _ _ _ _ _) (TGrf.st _ _ _ _ _ _) d4 q)
  clear A15 cbg0 cbg1 cbg2 log hig PUT HW Dg q d4
  obtain ⟨mm, hmm⟩ : ∃ mm, mm = enG X Y Z := ⟨_, rfl⟩
  rw [← hmm]
  have MM := hide hmm
  clear hmm
  have mn : ¬ ((mm : Int) < 0) := by omega
  obtain ⟨cbg0, cbg1, cbg2⟩ := (A16.out.atBox 2 rfl).c3
  obtain ⟨log, hig, dg⟩ := A16.out.get 3 rfl
  have Dg := hide (TGrf.rd dg)
  clear dg
  go_wp2_with fail
  refine (heldGraph_calls _ _ _ X Y Z _ Dg.out SX.out).mono ?_
  rintro e w17 ⟨rfl, q⟩
  have A17 := hide (A16.out.step q)
  clear A16 cbg0 cbg1 cbg2 Dg log hig q
  rw [← MM.out]
  go_wp2_with fail
  refine (toNodeS_calls _ m _ (R.out.below A17.out.below) SZ.out).mono ?_
  rintro e w18 ⟨gz, rfl, d, q⟩
  have A18 := hide (A17.out.add q (TNds.st _ _) d)
  clear A17 q d
  go_wp2_with fail
  refine (toIntS_calls _ rs _ (U.out.below A18.out.below) hrs).mono ?_
  rintro e w19 ⟨vf, rfl, o, q⟩
  obtain ⟨af, cf, rfl⟩ := row_slice o
  have A19 := hide (A18.out.add q (TInts.st _ _) ⟨o, row_top o⟩)
  clear A18 q o
  obtain ⟨loz, hiz, dz⟩ := A19.out.get 1 rfl
  have Dz := hide (TNds.rd dz)
  clear dz
  obtain ⟨lof, hif, df⟩ := A19.out.get 0 rfl
  have Df := hide (Own.rd df.1)
  clear df
  go_wp2_with fail
  refine (C2.out _ _ _ Dz.out Df.out).mono ?_
  rintro e w20 ⟨ph, rh, ch, rfl, d, q⟩
  obtain ⟨aph, cph, arh, crh, ach, cch, rfl, rfl, rfl⟩ := d.sls
  have lth := q.size
  (try simp only [World.size_alloc] at lth)
  have A20 := hide ((A19.out.add q (TGrf.st _ _ _ _ _ _) d).box #[.slice aph X.length cph, .slice arh Y.length crh, .slice ach Z.length cch] 27)
  clear A19 Dz loz hiz Df lof hif q d
  obtain ⟨cbh0, cbh1, cbh2⟩ := (A20.out.atBox 0 rfl).c3
  obtain ⟨cbW0, cbW1, cbW2⟩ := (A20.out.atBox 10 rfl).c3
  obtain ⟨loh, hih, dh⟩ := A20.out.get 1 rfl
  have Dh := hide (TGrf.rd dh)
  clear dh
  obtain ⟨loW, hiW, dW⟩ := A20.out.get 11 rfl
  have DW := hide (TGrf.rd dW)
  clear dW
  go_wp2_with fail
  refine (eqGraph_same _ _ _ _ _ _ X Y Z _ Dh.out DW.out).mono ?_
  rintro e w21 ⟨rfl, q⟩
  have A21 := hide (A20.out.step q)
  clear A20 cbh0 cbh1 cbh2 cbW0 cbW1 cbW2 Dh loh hih DW loW hiW q
  obtain ⟨cbg0, cbg1, cbg2⟩ := (A21.out.atBox 6 rfl).c3
  obtain ⟨log, hig, dg⟩ := A21.out.get 7 rfl
  have Dg := hide (TGrf.rd dg)
  clear dg
  go_wp2_with fail
  refine (heldGraph_calls _ _ _ X Y Z _ Dg.out SX.out).mono ?_
  rintro e w22 ⟨rfl, q⟩
  have A22 := hide (A21.out.step q)
  clear A21 cbg0 cbg1 cbg2 Dg log hig q
  rw [← MM.out]
  go_wp2
  go_ret
  exact ⟨rfl, A22.out.below⟩
end Go.Proofs.Ytakhggnbhjoojaa

/-
  The law that holds the program's SweepGraph against its model's: at every graph the call returns true, and nothing that was there is written. No condition.
-/
import Derived.Test.YtakhggnbhjoojaaSwc
namespace Go.Proofs.Ytakhggnbhjoojaa
open Go.RowKit
set_option linter.unusedVariables false

theorem enG_le {xs : List Nd} {rs cs : List Int} (h : SzG xs rs cs) : enG xs rs cs ≤ 10000000 := by
  have h1 := h.1
  have h2 := h.2.1
  have h3 := h.2.2
  unfold enG enN
  omega
theorem sw_small (m : List Nd) (rs : List Int) (ok : Bool) (h : ok = decide (okG m rs)) : SzG (gX ok (swS m rs).1) (gX ok rs) (gX ok (cntG (swS m rs).1 rs)) ∧ (gX ok (swS m rs).2).length ≤ 14 := by
  cases ok with
  | false => exact ⟨⟨by simp [gX, totN], by simp [gX], by simp [gX]⟩, by simp [gX]⟩
  | true =>
    have h1 : okG m rs := decide_eq_true_iff.1 h.symm
    have h2 := swept_ok h1
    have h3 := lsN_tot _ (okG_ls h2)
    have h4 := swK_len m (rchA m rs) m.length
    have h5 := swK_gone m (rchA m rs) m.length
    have h6 := h1.1.1
    have h7 := h1.2.1
    have h8 : (cntG (swS m rs).1 rs).length = (swS m rs).1.length := by
      show (cntN (cntL (List.replicate (swS m rs).1.length 0) rs) (swS m rs).1).length = _
      rw [cntN_len, cntL_len, List.length_replicate]
    refine ⟨⟨?_, ?_, ?_⟩, ?_⟩
    · simp only [gX, if_pos, swS]
      omega
    · simp only [gX, if_pos]
      omega
    · simp only [gX, if_pos]
      rw [h8]
      simp only [swS]
      omega
    · simp only [gX, if_pos, swS]
      omega

set_option maxRecDepth 100000 in
set_option maxHeartbeats 3200000 in
theorem fnExactSweepGraph_walk (p r c : Value) (m : List Nd) (rs cs : List Int) (w : World) (h : RdG w p r c m rs cs) :
    Calls Try.prog 11 #[.agg #[p, r, c]] w fun e w' => e = .returned (.bool true) ∧ Below w.heap.size w w' := by
  have R := hide h
  clear h
  obtain ⟨ok, hok⟩ : ∃ ok, ok = decide (okG m rs) := ⟨_, rfl⟩
  have C1 := hide (fun V p r c h hz => sSweepGraph_calls p r c m rs cs ok V h hz hok)
  have C2 := hide (fun V p r c h (hz : SzG m rs cs) => sweepGraph_calls p r c m rs cs ok V h hok)
  have SX := hide (sw_small m rs ok hok).1
  have SV := (sw_small m rs ok hok).2
  generalize gX ok (swS m rs).1 = X at C1 C2 SX SV
  generalize gX ok rs = Y at C1 C2 SX SV
  generalize gX ok (cntG (swS m rs).1 rs) = Z at C1 C2 SX SV
  generalize gX ok (swS m rs).2 = V at C1 C2 SX SV
  clear hok
  have A0 := hide ((Hand.start w).box #[p, r, c] 40)
  go_enter Try.func11, Try.ntmps11
  go_wp2_with fail
  refine (szGraph_calls p r c m rs cs _ (R.out.below A0.out.below)).mono ?_
  rintro e w1 ⟨⟨r1, rfl, hr⟩, q⟩
  have A1 := hide (A0.out.step q)
  clear A0 q
  by_cases r0 : r1 < 0
  · go_wp2
    go_ret
    exact ⟨rfl, A1.out.below⟩
  have SZ := hide (hr.resolve_left r0).2
  clear hr
  obtain ⟨caG0, caG1, caG2⟩ := (A1.out.atBox 0 rfl).c3
  go_wp2_with fail
  refine (toGraph_calls p r c m rs cs _ (R.out.below A1.out.below) SZ.out).mono ?_
  rintro e w2 ⟨pX, rX, cX, rfl, d, q⟩
  obtain ⟨apX, cpX, arX, crX, acX, ccX, rfl, rfl, rfl⟩ := d.sls
  have ltX := q.size
  (try simp only [World.size_alloc] at ltX)
  have A2 := hide (A1.out.add q (TGrf.st _ _ _ _ _ _) d)
  clear A1 caG0 caG1 caG2 q d
  obtain ⟨loX, hiX, dX⟩ := A2.out.get 0 rfl
  have DX := hide (TGrf.rd dX)
  clear dX
  go_wp2_with fail
  refine (C1.out _ _ _ _ DX.out SZ.out).mono ?_
  rintro e w3 ⟨pW, rW, cW, yW, rfl, d, q⟩
  obtain ⟨apW, cpW, arW, crW, acW, ccW, ayW, cyW, rfl, rfl, rfl, rfl⟩ := d.sl
  have ltW := q.size
  (try simp only [World.size_alloc] at ltW)
  have A3 := hide ((A2.out.add q (TGrY.st _ _ _ _ _ _ _ _) d).box #[.slice apW X.length cpW, .slice arW Y.length crW, .slice acW Z.length ccW] 27)
  clear A2 DX loX hiX q d
  obtain ⟨caG0, caG1, caG2⟩ := (A3.out.atBox 3 rfl).c3
  go_wp2_with fail
  refine (toGraph_calls p r c m rs cs _ (R.out.below A3.out.below) SZ.out).mono ?_
  rintro e w4 ⟨px, rx, cx, rfl, d, q⟩
  obtain ⟨apx, cpx, arx, crx, acx, ccx, rfl, rfl, rfl⟩ := d.sls
  have ltx := q.size
  (try simp only [World.size_alloc] at ltx)
  have A4 := hide ((A3.out.add q (TGrf.st _ _ _ _ _ _) d).box #[.slice apx m.length cpx, .slice arx rs.length crx, .slice acx cs.length ccx] 27)
  clear A3 caG0 caG1 caG2 q d
  obtain ⟨cbx0, cbx1, cbx2⟩ := (A4.out.atBox 0 rfl).c3
  obtain ⟨lox, hix, dx⟩ := A4.out.get 1 rfl
  have Dx := hide (TGrf.rd dx)
  clear dx
  go_wp2_with fail
  refine (C2.out _ _ _ _ Dx.out SZ.out).mono ?_
  rintro e w5 ⟨pg, rg, cg, yg, rfl, d, q⟩
  obtain ⟨apg, cpg, arg, crg, acg, ccg, ayg, cyg, rfl, rfl, rfl, rfl⟩ := d.sl
  have ltg := q.size
  (try simp only [World.size_alloc] at ltg)
  have A5 := hide ((A4.out.add q (TGrY.st _ _ _ _ _ _ _ _) d).box #[.slice apg X.length cpg, .slice arg Y.length crg, .slice acg Z.length ccg] 27)
  clear A4 cbx0 cbx1 cbx2 Dx lox hix q d
  obtain ⟨cbg0, cbg1, cbg2⟩ := (A5.out.atBox 0 rfl).c3
  obtain ⟨cbW0, cbW1, cbW2⟩ := (A5.out.atBox 4 rfl).c3
  obtain ⟨log, hig, dg⟩ := A5.out.get 1 rfl
  have Dg := hide (TGrY.rd dg)
  have Eg := hide (TGrY.rdY dg)
  clear dg
  obtain ⟨loW, hiW, dW⟩ := A5.out.get 5 rfl
  have DW := hide (TGrY.rd dW)
  have EW := hide (TGrY.rdY dW)
  clear dW
  go_wp2_with fail
  refine (eqGraph_same _ _ _ _ _ _ X Y Z _ Dg.out DW.out).mono ?_
  rintro e w6 ⟨rfl, q⟩
  have A6 := hide (A5.out.step q)
  clear A5 cbg0 cbg1 cbg2 cbW0 cbW1 cbW2 Eg Dg log hig EW DW loW hiW q
  obtain ⟨log, hig, dg⟩ := A6.out.get 1 rfl
  have Dg := hide (TGrY.rd dg)
  have Eg := hide (TGrY.rdY dg)
  clear dg
  obtain ⟨loW, hiW, dW⟩ := A6.out.get 5 rfl
  have DW := hide (TGrY.rd dW)
  have EW := hide (TGrY.rdY dW)
  clear dW
  go_wp2_with fail
  refine (eqIntS_same _ _ V _ Eg.out EW.out).mono ?_
  rintro e w7 ⟨rfl, q⟩
  have A7 := hide (A6.out.step q)
  clear A6 Eg Dg log hig EW DW loW hiW q
  go_wp2
  obtain ⟨lo, hi, dd⟩ := A7.out.get 3 rfl
  have D5 := hide (TGrf.rd dd)
  clear dd
  have F : Hid (∀ w', Below w7.heap.size w7 w' → (w'.cell? ⟨w.heap.size, 0, none⟩ = some p ∧ w'.cell? ⟨w.heap.size, 1, none⟩ = some r ∧ w'.cell? ⟨w.heap.size, 2, none⟩ = some c) ∧ (w'.cell? ⟨w4.heap.size, 0, none⟩ = some (.slice apx m.length cpx) ∧ w'.cell? ⟨w4.heap.size, 1, none⟩ = some (.slice arx rs.length crx) ∧ w'.cell? ⟨w4.heap.size, 2, none⟩ = some (.slice acx cs.length ccx))) :=
    fun w' hb => ⟨((A7.out.step hb).atBox 7 rfl).c3, ((A7.out.step hb).atBox 2 rfl).c3⟩
  go_region_held3 (fun w' => (w'.cell? ⟨w.heap.size, 0, none⟩ = some p ∧ w'.cell? ⟨w.heap.size, 1, none⟩ = some r ∧ w'.cell? ⟨w.heap.size, 2, none⟩ = some c) ∧ (w'.cell? ⟨w4.heap.size, 0, none⟩ = some (.slice apx m.length cpx) ∧ w'.cell? ⟨w4.heap.size, 1, none⟩ = some (.slice arx rs.length crx) ∧ w'.cell? ⟨w4.heap.size, 2, none⟩ = some (.slice acx cs.length ccx))) (first | exact F.out _ (Below.refl _ _).drew | exact F.out _ B2.out | exact F.out _ B1.out)
    ((first | (go_at_call 19; refine (eqGraph_same _ _ _ _ _ _ m rs cs _ (D5.out.below B1.out) D6.out).mono ?_; rintro e' wr7 ⟨rfl, b7⟩; have B2 := hide (B1.out.trans (b7.mono B1.out.size)); clear b7) | (go_at_call 28; refine (toGraph_calls p r c m rs cs _ (R.out.below (A7.out.step (Below.refl _ _).drew).below) SZ.out).mono ?_; rintro e' wr6 ⟨p3, h3, b3, rfl, d6, b6⟩; have D6 := hide (TGrf.rd d6); have B1 := hide ((Below.refl w7.heap.size w7).drew.trans b6); clear b6 d6)))
  have A8 := hide (A7.out.step B2.out)
  clear A7 F B1 B2 D5 D6 lo hi
  obtain ⟨cbx0, cbx1, cbx2⟩ := (A8.out.atBox 2 rfl).c3
  obtain ⟨lox, hix, dx, lw, hw, put⟩ := A8.out.open 3 rfl
  have PUT := hide put
  have HW := hide hw
  clear put lw hw
  have Dx := hide dx
  clear dx
  go_wp2_with fail
  refine (markGraph_calls _ _ _ m rs cs _ _ _ Dx.out HW.out SZ.out).mono ?_
  rintro e w9 ⟨rfl, d4, q⟩
  have A9 := hide (PUT.out _ (TGrf _ _ _ _ _ _) (TGrf.st _ _ _ _ _ _) d4 q)
  clear A8 cbx0 cbx1 cbx2 lox hix PUT HW Dx q d4
  obtain ⟨kk, hkk⟩ : ∃ kk, kk = enG m rs cs := ⟨_, rfl⟩
  rw [← hkk]
  clear hkk
  have kn : ¬ ((kk : Int) < 0) := by omega
  obtain ⟨cbg0, cbg1, cbg2⟩ := (A9.out.atBox 0 rfl).c3
  obtain ⟨cbW0, cbW1, cbW2⟩ := (A9.out.atBox 4 rfl).c3
  obtain ⟨log, hig, dg⟩ := A9.out.get 1 rfl
  have Dg := hide (TGrY.rd dg)
  have Eg := hide (TGrY.rdY dg)
  clear dg
  obtain ⟨loW, hiW, dW⟩ := A9.out.get 5 rfl
  have DW := hide (TGrY.rd dW)
  have EW := hide (TGrY.rdY dW)
  clear dW
  go_wp2_with fail
  refine (eqGraph_same _ _ _ _ _ _ X Y Z _ Dg.out DW.out).mono ?_
  rintro e w10 ⟨rfl, q⟩
  have A10 := hide (A9.out.step q)
  clear A9 cbg0 cbg1 cbg2 cbW0 cbW1 cbW2 Eg Dg log hig EW DW loW hiW q
  obtain ⟨log, hig, dg⟩ := A10.out.get 1 rfl
  have Dg := hide (TGrY.rd dg)
  have Eg := hide (TGrY.rdY dg)
  clear dg
  obtain ⟨loW, hiW, dW⟩ := A10.out.get 5 rfl
  have DW := hide (TGrY.rd dW)
  have EW := hide (TGrY.rdY dW)
  clear dW
  go_wp2_with fail
  refine (eqIntS_same _ _ V _ Eg.out EW.out).mono ?_
  rintro e w11 ⟨rfl, q⟩
  have A11 := hide (A10.out.step q)
  clear A10 Eg Dg log hig EW DW loW hiW q
  obtain ⟨cbg0, cbg1, cbg2⟩ := (A11.out.atBox 0 rfl).c3
  obtain ⟨log, hig, dg, lw, hw, put⟩ := A11.out.open 1 rfl
  have PUT := hide put
  have HW := hide hw
  clear put lw hw
  obtain ⟨usg, dg⟩ := dg
  have Dg := hide dg
  clear dg
  go_wp2_with fail
  refine (markGraphE_calls _ _ _ _ _ X Y Z _ _ _ _ Dg.out HW.out SX.out).mono ?_
  rintro e w12 ⟨rfl, d4, q⟩
  have A12 := hide (PUT.out _ (TGrY _ _ _ _ _ _ _ _) (TGrY.st _ _ _ _ _ _ _ _) ⟨_, d4⟩ q)
  clear A11 cbg0 cbg1 cbg2 log hig PUT HW Dg usg q d4
  obtain ⟨mm, hmm⟩ : ∃ mm, mm = enG X Y Z := ⟨_, rfl⟩
  have mb : mm ≤ 10000000 := by rw [hmm]; exact enG_le SX.out
  rw [← hmm]
  have MM := hide hmm
  clear hmm
  have mn : ¬ ((mm : Int) < 0) := by omega
  obtain ⟨log, hig, dg, lw, hw, put⟩ := A12.out.open 1 rfl
  have PUT := hide put
  have HW := hide hw
  clear put lw hw
  obtain ⟨usg, dg⟩ := dg
  have Dg := hide dg
  clear dg
  go_wp2_with fail
  refine (markIntS_calls _ V (mm : Int) _ _ (Dg.out.rowE 2 (by simp)) (by omega) (by omega) (by omega)).mono ?_
  rintro e w13 ⟨rfl, o4, g4⟩
  have A13 := hide (PUT.out _ (TGrY _ _ _ _ _ _ _ (marks (mm : Int) V.length)) (TGrY.st _ _ _ _ _ _ _ _) ⟨_, Dg.out.writeE 2 (by simp) o4 g4⟩ (Dg.out.writeEChg 2 (by simp) g4))
  clear A12 log hig PUT HW Dg usg o4 g4
  have yn : ¬ ((mm : Int) + (V.length : Int) < 0) := by omega
  obtain ⟨cbg0, cbg1, cbg2⟩ := (A13.out.atBox 0 rfl).c3
  obtain ⟨log, hig, dg⟩ := A13.out.get 1 rfl
  have Dg := hide (TGrY.rd dg)
  have Eg := hide (TGrY.rdY dg)
  clear dg
  go_wp2_with fail
  refine (heldGraph_calls _ _ _ X Y Z _ Dg.out SX.out).mono ?_
  rintro e w14 ⟨rfl, q⟩
  have A14 := hide (A13.out.step q)
  clear A13 cbg0 cbg1 cbg2 Eg Dg log hig q
  rw [← MM.out]
  obtain ⟨log, hig, dg⟩ := A14.out.get 1 rfl
  have Dg := hide (TGrY.rd dg)
  have Eg := hide (TGrY.rdY dg)
  clear dg
  go_wp2_with fail
  refine (heldIntS_calls _ V.length (mm : Int) _ Eg.out (by omega) (by omega) (by omega)).mono ?_
  rintro e w15 ⟨rfl, rfl⟩
  clear Eg Dg log hig
  obtain ⟨caG0, caG1, caG2⟩ := (A14.out.atBox 7 rfl).c3
  go_wp2_with fail
  refine (toGraph_calls p r c m rs cs _ (R.out.below A14.out.below) SZ.out).mono ?_
  rintro e w16 ⟨pz, rz, cz, rfl, d, q⟩
  obtain ⟨apz, cpz, arz, crz, acz, ccz, rfl, rfl, rfl⟩ := d.sls
  have ltz := q.size
  (try simp only [World.size_alloc] at ltz)
  have A16 := hide (A14.out.add q (TGrf.st _ _ _ _ _ _) d)
  clear A14 caG0 caG1 caG2 q d
  obtain ⟨loz, hiz, dz⟩ := A16.out.get 0 rfl
  have Dz := hide (TGrf.rd dz)
  clear dz
  go_wp2_with fail
  refine (C2.out _ _ _ _ Dz.out SZ.out).mono ?_
  rintro e w17 ⟨ph, rh, ch, yh, rfl, d, q⟩
  obtain ⟨aph, cph, arh, crh, ach, cch, ayh, cyh, rfl, rfl, rfl, rfl⟩ := d.sl
  have lth := q.size
  (try simp only [World.size_alloc] at lth)
  have A17 := hide ((A16.out.add q (TGrY.st _ _ _ _ _ _ _ _) d).box #[.slice aph X.length cph, .slice arh Y.length crh, .slice ach Z.length cch] 27)
  clear A16 Dz loz hiz q d
  obtain ⟨cbh0, cbh1, cbh2⟩ := (A17.out.atBox 0 rfl).c3
  obtain ⟨cbW0, cbW1, cbW2⟩ := (A17.out.atBox 7 rfl).c3
  obtain ⟨loh, hih, dh⟩ := A17.out.get 1 rfl
  have Dh := hide (TGrY.rd dh)
  have Eh := hide (TGrY.rdY dh)
  clear dh
  obtain ⟨loW, hiW, dW⟩ := A17.out.get 8 rfl
  have DW := hide (TGrY.rd dW)
  have EW := hide (TGrY.rdY dW)
  clear dW
  go_wp2_with fail
  refine (eqGraph_same _ _ _ _ _ _ X Y Z _ Dh.out DW.out).mono ?_
  rintro e w18 ⟨rfl, q⟩
  have A18 := hide (A17.out.step q)
  clear A17 cbh0 cbh1 cbh2 cbW0 cbW1 cbW2 Eh Dh loh hih EW DW loW hiW q
  obtain ⟨loh, hih, dh⟩ := A18.out.get 1 rfl
  have Dh := hide (TGrY.rd dh)
  have Eh := hide (TGrY.rdY dh)
  clear dh
  obtain ⟨loW, hiW, dW⟩ := A18.out.get 8 rfl
  have DW := hide (TGrY.rd dW)
  have EW := hide (TGrY.rdY dW)
  clear dW
  go_wp2_with fail
  refine (eqIntS_same _ _ V _ Eh.out EW.out).mono ?_
  rintro e w19 ⟨rfl, q⟩
  have A19 := hide (A18.out.step q)
  clear A18 Eh Dh loh hih EW DW loW hiW q
  obtain ⟨cbg0, cbg1, cbg2⟩ := (A19.out.atBox 3 rfl).c3
  obtain ⟨log, hig, dg⟩ := A19.out.get 4 rfl
  have Dg := hide (TGrY.rd dg)
  have Eg := hide (TGrY.rdY dg)
  clear dg
  go_wp2_with fail
  refine (heldGraph_calls _ _ _ X Y Z _ Dg.out SX.out).mono ?_
  rintro e w20 ⟨rfl, q⟩
  have A20 := hide (A19.out.step q)
  clear A19 cbg0 cbg1 cbg2 Eg Dg log hig q
  rw [← MM.out]
  obtain ⟨log, hig, dg⟩ := A20.out.get 4 rfl
  have Dg := hide (TGrY.rd dg)
  have Eg := hide (TGrY.rdY dg)
  clear dg
  go_wp2_with fail
  refine (heldIntS_calls _ V.length (mm : Int) _ Eg.out (by omega) (by omega) (by omega)).mono ?_
  rintro e w21 ⟨rfl, rfl⟩
  clear Eg Dg log hig
  go_wp2
  go_ret
  exact ⟨rfl, A20.out.below⟩
end Go.Proofs.Ytakhggnbhjoojaa

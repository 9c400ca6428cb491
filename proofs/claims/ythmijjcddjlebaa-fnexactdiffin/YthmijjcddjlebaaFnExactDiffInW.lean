/-
  The law that holds the program's DiffIn against its model's: at every pool and two numbers of versions the call returns true, and nothing that was there is written. No condition.
-/
import Derived.Test.YthmijjcddjlebaaPle
namespace Go.Proofs.Ythmijjcddjlebaa
open Go.RowKit
set_option linter.unusedVariables false

set_option maxRecDepth 100000 in
set_option maxHeartbeats 3200000 in
theorem fnExactDiffIn_walk (p r : Value) (m : List Nd) (rs : List Int) (x1 : Int) (x2 : Int) (w : World) (h : RdP w p r m rs) :
    Calls Try.prog 10 #[.agg #[p, r], .int .i64 x1, .int .i64 x2] w fun e w' => e = .returned (.bool true) ∧ Below w.heap.size w w' := by
  have R := hide h
  clear h
  obtain ⟨ok, hok⟩ := bol_of (thP m rs x1 ∧ thP m rs x2)
  have C1 := hide (fun V p r h => sDiffIn_calls p r m rs x1 x2 ok V h hok)
  have C2 := hide (fun V p r h => diffIn_calls p r m rs x1 x2 ok V h hok)
  have SV : (gX ok (difF m rs x1.toNat x2.toNat 16)).length ≤ 16 := by
    cases ok with
    | false => simp [gX]
    | true => rw [gX_true]; exact difF_len _ _ _ _ _
  generalize gX ok (difF m rs x1.toNat x2.toNat 16) = V at C1 C2 SV
  clear hok
  have A0 := hide ((Hand.start w).box #[p, r] 50)
  go_enter Try.func10, Try.ntmps10
  go_wp2_with fail
  refine (szPool_calls p r m rs _ (R.out.below A0.out.below)).mono ?_
  rintro e w1 ⟨⟨r1, rfl, hr⟩, q⟩
  have A1 := hide (A0.out.step q)
  clear A0 q
  by_cases r0 : r1 < 0
  · go_wp2
    go_ret
    exact ⟨rfl, A1.out.below⟩
  have SZ := hide (hr.resolve_left r0).2
  clear hr
  obtain ⟨caP0, caP1⟩ := (A1.out.atBox 0 rfl).c2
  go_wp2_with fail
  refine (toPool_calls p r m rs _ (R.out.below A1.out.below) SZ.out).mono ?_
  rintro e w2 ⟨pX, rX, rfl, d, q⟩
  obtain ⟨apX, cpX, arX, crX, rfl, rfl⟩ := d.sls
  have ltX := q.size
  (try simp only [World.size_alloc] at ltX)
  have A2 := hide (A1.out.add q (TPol.st _ _ _ _) d)
  clear A1 caP0 caP1 q d
  obtain ⟨loX, hiX, dX⟩ := A2.out.get 0 rfl
  have DX := hide (TPol.rd dX)
  clear dX
  go_wp2_with fail
  refine (C1.out _ _ _ DX.out).mono ?_
  rintro e w3 ⟨vW, rfl, o, q⟩
  obtain ⟨aW, cW, rfl⟩ := row_slice o
  have A3 := hide (A2.out.add q (TInts.st _ _) ⟨o, row_top o⟩)
  clear A2 DX loX hiX q o
  obtain ⟨caP0, caP1⟩ := (A3.out.atBox 2 rfl).c2
  go_wp2_with fail
  refine (toPool_calls p r m rs _ (R.out.below A3.out.below) SZ.out).mono ?_
  rintro e w4 ⟨px, rx, rfl, d, q⟩
  obtain ⟨apx, cpx, arx, crx, rfl, rfl⟩ := d.sls
  have ltx := q.size
  (try simp only [World.size_alloc] at ltx)
  have A4 := hide ((A3.out.add q (TPol.st _ _ _ _) d).box #[.slice apx m.length cpx, .slice arx rs.length crx] 43)
  clear A3 caP0 caP1 q d
  obtain ⟨cbx0, cbx1⟩ := (A4.out.atBox 0 rfl).c2
  obtain ⟨lox, hix, dx⟩ := A4.out.get 1 rfl
  have Dx := hide (TPol.rd dx)
  clear dx
  go_wp2_with fail
  refine (C2.out _ _ _ Dx.out).mono ?_
  rintro e w5 ⟨vg, rfl, o, q⟩
  obtain ⟨ag, cg, rfl⟩ := row_slice o
  have A5 := hide (A4.out.add q (TInts.st _ _) ⟨o, row_top o⟩)
  clear A4 cbx0 cbx1 Dx lox hix q o
  obtain ⟨log, hig, dg⟩ := A5.out.get 0 rfl
  have Dg := hide (Own.rd dg.1)
  clear dg
  obtain ⟨loW, hiW, dW⟩ := A5.out.get 3 rfl
  have DW := hide (Own.rd dW.1)
  clear dW
  go_wp2_with fail
  refine (eqIntS_same _ _ V _ Dg.out DW.out).mono ?_
  rintro e w6 ⟨rfl, q⟩
  have A6 := hide (A5.out.step q)
  clear A5 Dg log hig DW loW hiW q
  go_wp2
  obtain ⟨lo, hi, dd⟩ := A6.out.get 2 rfl
  have D5 := hide (TPol.rd dd)
  clear dd
  have F : Hid (∀ w', Below w6.heap.size w6 w' → (w'.cell? ⟨w.heap.size, 0, none⟩ = some p ∧ w'.cell? ⟨w.heap.size, 1, none⟩ = some r) ∧ (w'.cell? ⟨w4.heap.size, 0, none⟩ = some (.slice apx m.length cpx) ∧ w'.cell? ⟨w4.heap.size, 1, none⟩ = some (.slice arx rs.length crx))) :=
    fun w' hb => ⟨((A6.out.step hb).atBox 5 rfl).c2, ((A6.out.step hb).atBox 1 rfl).c2⟩
  go_region_held3 (fun w' => (w'.cell? ⟨w.heap.size, 0, none⟩ = some p ∧ w'.cell? ⟨w.heap.size, 1, none⟩ = some r) ∧ (w'.cell? ⟨w4.heap.size, 0, none⟩ = some (.slice apx m.length cpx) ∧ w'.cell? ⟨w4.heap.size, 1, none⟩ = some (.slice arx rs.length crx))) (first | exact F.out _ (Below.refl _ _).drew | exact F.out _ B2.out | exact F.out _ B1.out)
    ((first | (go_at_call 28; refine (eqPool_same _ _ _ _ m rs _ (D5.out.below B1.out) D6.out).mono ?_; rintro e' wr7 ⟨rfl, b7⟩; have B2 := hide (B1.out.trans (b7.mono B1.out.size)); clear b7) | (go_at_call 33; refine (toPool_calls p r m rs _ (R.out.below (A6.out.step (Below.refl _ _).drew).below) SZ.out).mono ?_; rintro e' wr6 ⟨p3, h3, rfl, d6, b6⟩; have D6 := hide (TPol.rd d6); have B1 := hide ((Below.refl w6.heap.size w6).drew.trans b6); clear b6 d6)))
  have A7 := hide (A6.out.step B2.out)
  clear A6 F B1 B2 D5 D6 lo hi
  obtain ⟨cbx0, cbx1⟩ := (A7.out.atBox 1 rfl).c2
  obtain ⟨lox, hix, dx, lw, hw, put⟩ := A7.out.open 2 rfl
  have PUT := hide put
  have HW := hide hw
  clear put lw hw
  have Dx := hide dx
  clear dx
  go_wp2_with fail
  refine (markPool_calls _ _ m rs _ _ _ Dx.out HW.out SZ.out).mono ?_
  rintro e w8 ⟨rfl, d4, q⟩
  have A8 := hide (PUT.out _ (TPol _ _ _ _) (TPol.st _ _ _ _) d4 q)
  clear A7 cbx0 cbx1 lox hix PUT HW Dx q d4
  obtain ⟨kk, hkk⟩ : ∃ kk, kk = enP m rs := ⟨_, rfl⟩
  rw [← hkk]
  clear hkk
  have kn : ¬ ((kk : Int) < 0) := by omega
  obtain ⟨log, hig, dg⟩ := A8.out.get 0 rfl
  have Dg := hide (Own.rd dg.1)
  clear dg
  obtain ⟨loW, hiW, dW⟩ := A8.out.get 3 rfl
  have DW := hide (Own.rd dW.1)
  clear dW
  go_wp2_with fail
  refine (eqIntS_same _ _ V _ Dg.out DW.out).mono ?_
  rintro e w9 ⟨rfl, q⟩
  have A9 := hide (A8.out.step q)
  clear A8 Dg log hig DW loW hiW q
  obtain ⟨log, hig, dg, lw, hw, put⟩ := A9.out.open 0 rfl
  have PUT := hide put
  have HW := hide hw
  clear put lw hw
  have Dg := hide dg.1
  have TDg := hide dg.2
  clear dg
  go_wp2_with fail
  refine (markIntS_calls _ V 1 _ _ Dg.out (by omega) (by omega) (by omega)).mono ?_
  rintro e w10 ⟨rfl, o4, g4⟩
  have A10 := hide (PUT.out _ (TInts _ _) (TInts.st _ _) ⟨o4, TDg.out⟩ (Chg.ofGrown g4 (fun j hj => ⟨row_low Dg.out j hj, TDg.out j hj⟩)))
  clear A9 log hig PUT HW Dg TDg o4 g4
  have xn : ¬ ((1 : Int) + (V.length : Int) < 0) := by omega
  obtain ⟨log, hig, dg⟩ := A10.out.get 0 rfl
  have Dg := hide (Own.rd dg.1)
  clear dg
  go_wp2_with fail
  refine (heldIntS_calls _ V.length 1 _ Dg.out (by omega) (by omega) (by omega)).mono ?_
  rintro e w11 ⟨rfl, rfl⟩
  clear Dg log hig
  obtain ⟨caP0, caP1⟩ := (A10.out.atBox 5 rfl).c2
  go_wp2_with fail
  refine (toPool_calls p r m rs _ (R.out.below A10.out.below) SZ.out).mono ?_
  rintro e w12 ⟨pz, rz, rfl, d, q⟩
  obtain ⟨apz, cpz, arz, crz, rfl, rfl⟩ := d.sls
  have ltz := q.size
  (try simp only [World.size_alloc] at ltz)
  have A12 := hide (A10.out.add q (TPol.st _ _ _ _) d)
  clear A10 caP0 caP1 q d
  obtain ⟨loz, hiz, dz⟩ := A12.out.get 0 rfl
  have Dz := hide (TPol.rd dz)
  clear dz
  go_wp2_with fail
  refine (C2.out _ _ _ Dz.out).mono ?_
  rintro e w13 ⟨vh, rfl, o, q⟩
  obtain ⟨ah, ch, rfl⟩ := row_slice o
  have A13 := hide (A12.out.add q (TInts.st _ _) ⟨o, row_top o⟩)
  clear A12 Dz loz hiz q o
  obtain ⟨loh, hih, dh⟩ := A13.out.get 0 rfl
  have Dh := hide (Own.rd dh.1)
  clear dh
  obtain ⟨loW, hiW, dW⟩ := A13.out.get 5 rfl
  have DW := hide (Own.rd dW.1)
  clear dW
  go_wp2_with fail
  refine (eqIntS_same _ _ V _ Dh.out DW.out).mono ?_
  rintro e w14 ⟨rfl, q⟩
  have A14 := hide (A13.out.step q)
  clear A13 Dh loh hih DW loW hiW q
  obtain ⟨log, hig, dg⟩ := A14.out.get 2 rfl
  have Dg := hide (Own.rd dg.1)
  clear dg
  go_wp2_with fail
  refine (heldIntS_calls _ V.length 1 _ Dg.out (by omega) (by omega) (by omega)).mono ?_
  rintro e w15 ⟨rfl, rfl⟩
  clear Dg log hig
  go_wp2
  go_ret
  exact ⟨rfl, A14.out.below⟩
end Go.Proofs.Ythmijjcddjlebaa

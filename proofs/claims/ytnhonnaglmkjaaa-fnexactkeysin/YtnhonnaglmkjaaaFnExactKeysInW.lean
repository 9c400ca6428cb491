/-
  The law that holds the program's KeysIn against its model's: at every table the call returns true, and nothing that was there is written. No condition.
-/
import Derived.Test.YtnhonnaglmkjaaaTbx
namespace Go.Proofs.Ytnhonnaglmkjaaa
open Go.RowKit
set_option linter.unusedVariables false

set_option maxRecDepth 100000 in
set_option maxHeartbeats 3200000 in
theorem fnExactKeysIn_walk (s m : Int) (l r : Value) (ls rs : List Sl) (w : World) (hl : RdS w l ls) (hr : RdS w r rs) :
    Calls Try.prog 9 #[.agg #[.int .i64 s, l, r, .int .i64 m]] w fun e w' => e = .returned (.bool true) ∧ Below w.heap.size w w' := by
  have RL := hide hl
  have RR := hide hr
  clear hl hr
  obtain ⟨ok, hok⟩ := bol_ex (okT s ls rs m)
  have C1 := hide (fun (z : ls.length ≤ 1048576 ∧ rs.length ≤ 1048576) V p q h1 h2 => sKeysIn_calls s m p q ls rs ok V h1 h2 z.1 z.2 hok)
  have C2 := hide (fun V p q h1 h2 => keysIn_calls s m p q ls rs ok V h1 h2 hok)
  have VL : (gX ok (kyS (ky (us ls ++ us rs)))).length ≤ 400 := by
    cases ok with
    | false => simp [gX_false]
    | true =>
      rw [gX_true]
      have o := hok.1 rfl
      have h1 := o.2.1.1
      have h2 := o.2.2.1.1
      have h3 := us_len ls
      have h4 := us_len rs
      have h5 := kyF_le (ky (us ls ++ us rs)) []
      rw [ky_len, List.length_append] at h5
      unfold kyS
      simp only [List.length_nil] at h5
      omega
  generalize gX ok (kyS (ky (us ls ++ us rs))) = V at C1 C2 VL
  clear hok
  have A0 := hide ((Hand.start w).box #[.int .i64 s, l, r, .int .i64 m] 32)
  go_enter Try.func9, Try.ntmps9
  go_wp2_with fail
  refine (szTable_calls s m l r ls rs _ (RL.out.below A0.out.below) (RR.out.below A0.out.below)).mono ?_
  rintro e w1 ⟨⟨r1, rfl, hr⟩, q⟩
  have A1 := hide (A0.out.step q)
  clear A0 q
  by_cases r0 : r1 < 0
  · go_wp2
    go_ret
    exact ⟨rfl, A1.out.below⟩
  have SZ := hide (hr.resolve_left r0).2
  clear hr
  have C1 := hide (C1.out SZ.out)
  obtain ⟨caT0, caT1, caT2, caT3⟩ := (A1.out.atBox 0 rfl).c4
  go_wp2_with fail
  refine (toTable_calls s m l r ls rs _ (RL.out.below A1.out.below) (RR.out.below A1.out.below) SZ.out.1 SZ.out.2).mono ?_
  rintro e w2 ⟨lX, rX, rfl, d, q⟩
  obtain ⟨alX, clX, arX, crX, rfl, rfl⟩ := d.sl
  have ltX := q.size
  (try simp only [World.size_alloc] at ltX)
  have A2 := hide (A1.out.add q (TTab.st _ _ _ _) d)
  clear A1 caT0 caT1 caT2 caT3 q d
  obtain ⟨loX, hiX, dX⟩ := A2.out.get 0 rfl
  have DX : Hid (TabV _ loX hiX _ _ ls rs) := dX
  clear dX
  go_wp2_with fail
  refine (C1.out _ _ _ DX.out.rl DX.out.rr).mono ?_
  rintro e w3 ⟨vW, rfl, o, q⟩
  obtain ⟨aW, cW, rfl⟩ := row_slice o
  have A3 := hide (A2.out.add q (TInts.st _ _) ⟨o, row_top o⟩)
  clear A2 DX loX hiX q o
  obtain ⟨caT0, caT1, caT2, caT3⟩ := (A3.out.atBox 2 rfl).c4
  go_wp2_with fail
  refine (toTable_calls s m l r ls rs _ (RL.out.below A3.out.below) (RR.out.below A3.out.below) SZ.out.1 SZ.out.2).mono ?_
  rintro e w4 ⟨lx, rx, rfl, d, q⟩
  obtain ⟨alx, clx, arx, crx, rfl, rfl⟩ := d.sl
  have ltx := q.size
  (try simp only [World.size_alloc] at ltx)
  have A4 := hide ((A3.out.add q (TTab.st _ _ _ _) d).box #[.int .i64 s, .slice alx ls.length clx, .slice arx rs.length crx, .int .i64 m] 24)
  clear A3 caT0 caT1 caT2 caT3 q d
  obtain ⟨cbx0, cbx1, cbx2, cbx3⟩ := (A4.out.atBox 0 rfl).c4
  obtain ⟨lox, hix, dx⟩ := A4.out.get 1 rfl
  have Dx : Hid (TabV _ lox hix _ _ ls rs) := dx
  clear dx
  go_wp2_with fail
  refine (C2.out _ _ _ Dx.out.rl Dx.out.rr).mono ?_
  rintro e w5 ⟨vg, rfl, o, q⟩
  obtain ⟨ag, cg, rfl⟩ := row_slice o
  have A5 := hide (A4.out.add q (TInts.st _ _) ⟨o, row_top o⟩)
  clear A4 cbx0 cbx1 cbx2 cbx3 Dx lox hix q o
  obtain ⟨log, hig, dg⟩ := A5.out.get 0 rfl
  have Dg := hide (Own.rd dg.1)
  clear dg
  obtain ⟨loW, hiW, dW⟩ := A5.out.get 3 rfl
  have DW := hide (Own.rd dW.1)
  clear dW
  go_wp2_with fail
  refine (eqIntS_same _ _ V _ Dg.out DW.out).mono ?_
  rintro e w6 ⟨rfl, q⟩
  have A6 := hide (A5.out.step q)
  clear A5 Dg log hig DW loW hiW q
  go_wp2
  obtain ⟨lo, hi, dd⟩ := A6.out.get 2 rfl
  have D5 : Hid (TabV _ lo hi _ _ ls rs) := dd
  clear dd
  have F : Hid (∀ w', Below w6.heap.size w6 w' → (w'.cell? ⟨w.heap.size, 0, none⟩ = some (.int .i64 s) ∧ w'.cell? ⟨w.heap.size, 1, none⟩ = some l ∧ w'.cell? ⟨w.heap.size, 2, none⟩ = some r ∧ w'.cell? ⟨w.heap.size, 3, none⟩ = some (.int .i64 m)) ∧ (w'.cell? ⟨w4.heap.size, 0, none⟩ = some (.int .i64 s) ∧ w'.cell? ⟨w4.heap.size, 1, none⟩ = some (.slice alx ls.length clx) ∧ w'.cell? ⟨w4.heap.size, 2, none⟩ = some (.slice arx rs.length crx) ∧ w'.cell? ⟨w4.heap.size, 3, none⟩ = some (.int .i64 m))) :=
    fun w' hb => ⟨((A6.out.step hb).atBox 5 rfl).c4, ((A6.out.step hb).atBox 1 rfl).c4⟩
  go_region_held3 (fun w' => (w'.cell? ⟨w.heap.size, 0, none⟩ = some (.int .i64 s) ∧ w'.cell? ⟨w.heap.size, 1, none⟩ = some l ∧ w'.cell? ⟨w.heap.size, 2, none⟩ = some r ∧ w'.cell? ⟨w.heap.size, 3, none⟩ = some (.int .i64 m)) ∧ (w'.cell? ⟨w4.heap.size, 0, none⟩ = some (.int .i64 s) ∧ w'.cell? ⟨w4.heap.size, 1, none⟩ = some (.slice alx ls.length clx) ∧ w'.cell? ⟨w4.heap.size, 2, none⟩ = some (.slice arx rs.length crx) ∧ w'.cell? ⟨w4.heap.size, 3, none⟩ = some (.int .i64 m))) (first | exact F.out _ (Below.refl _ _).drew | exact F.out _ B2.out | exact F.out _ B1.out)
    ((first | (go_at_call 14; refine (eqTable_same s m _ _ _ _ ls rs _ (D5.out.below B1.out).rl (D5.out.below B1.out).rr D6.out.rl D6.out.rr).mono ?_; rintro e' wr7 ⟨rfl, b7⟩; have B2 := hide (B1.out.trans (b7.mono B1.out.size)); clear b7) | (go_at_call 19; refine (toTable_calls s m l r ls rs _ (RL.out.below (A6.out.step (Below.refl _ _).drew).below) (RR.out.below (A6.out.step (Below.refl _ _).drew).below) SZ.out.1 SZ.out.2).mono ?_; rintro e' wr6 ⟨p3, h3, rfl, d6, b6⟩; have D6 := hide d6; have B1 := hide ((Below.refl w6.heap.size w6).drew.trans b6); clear b6 d6)))
  have A7 := hide (A6.out.step B2.out)
  clear A6 F B1 B2 D5 D6 lo hi
  obtain ⟨cbx0, cbx1, cbx2, cbx3⟩ := (A7.out.atBox 1 rfl).c4
  obtain ⟨lox, hix, dx, lw, hw, put⟩ := A7.out.open 2 rfl
  have PUT := hide put
  have HW := hide hw
  clear put lw hw
  have Dx : Hid (TabV _ lox hix _ _ ls rs) := dx
  clear dx
  go_wp2_with fail
  refine (markTable_calls s m _ _ ls rs _ _ _ Dx.out HW.out SZ.out.1 SZ.out.2).mono ?_
  rintro e w8 ⟨rfl, d4, q⟩
  have A8 := hide (PUT.out _ (TTab _ _ _ _) (TTab.st _ _ _ _) d4 q)
  clear A7 cbx0 cbx1 cbx2 cbx3 lox hix PUT HW Dx q d4
  obtain ⟨kk, hkk⟩ : ∃ kk, kk = enT ls rs := ⟨_, rfl⟩
  rw [← hkk]
  have KK := hide hkk
  have kkn : ¬ (kk < 0) := by rw [hkk]; unfold enT; omega
  clear hkk
  obtain ⟨log, hig, dg⟩ := A8.out.get 0 rfl
  have Dg := hide (Own.rd dg.1)
  clear dg
  obtain ⟨loW, hiW, dW⟩ := A8.out.get 3 rfl
  have DW := hide (Own.rd dW.1)
  clear dW
  go_wp2_with fail
  refine (eqIntS_same _ _ V _ Dg.out DW.out).mono ?_
  rintro e w9 ⟨rfl, q⟩
  have A9 := hide (A8.out.step q)
  clear A8 Dg log hig DW loW hiW q
  obtain ⟨log, hig, dg, lw, hw, put⟩ := A9.out.open 0 rfl
  have PUT := hide put
  have HW := hide hw
  clear put lw hw
  have Dg := hide dg.1
  have TDg := hide dg.2
  clear dg
  go_wp2_with fail
  refine (markIntS_calls _ V 1 _ _ Dg.out (by omega) (by omega) (by omega)).mono ?_
  rintro e w10 ⟨rfl, o4, g4⟩
  have A10 := hide (PUT.out _ (TInts _ _) (TInts.st _ _) ⟨o4, TDg.out⟩ (Chg.ofGrown g4 (fun j hj => ⟨row_low Dg.out j hj, TDg.out j hj⟩)))
  clear A9 log hig PUT HW Dg TDg o4 g4
  have xn : ¬ ((1 : Int) + (V.length : Int) < 0) := by omega
  obtain ⟨log, hig, dg⟩ := A10.out.get 0 rfl
  have Dg := hide (Own.rd dg.1)
  clear dg
  go_wp2_with fail
  refine (heldIntS_calls _ V.length 1 _ Dg.out (by omega) (by omega) (by omega)).mono ?_
  rintro e w11 ⟨rfl, rfl⟩
  clear Dg log hig
  obtain ⟨caT0, caT1, caT2, caT3⟩ := (A10.out.atBox 5 rfl).c4
  go_wp2_with fail
  refine (toTable_calls s m l r ls rs _ (RL.out.below A10.out.below) (RR.out.below A10.out.below) SZ.out.1 SZ.out.2).mono ?_
  rintro e w12 ⟨lz, rz, rfl, d, q⟩
  obtain ⟨alz, clz, arz, crz, rfl, rfl⟩ := d.sl
  have ltz := q.size
  (try simp only [World.size_alloc] at ltz)
  have A12 := hide (A10.out.add q (TTab.st _ _ _ _) d)
  clear A10 caT0 caT1 caT2 caT3 q d
  obtain ⟨loz, hiz, dz⟩ := A12.out.get 0 rfl
  have Dz : Hid (TabV _ loz hiz _ _ ls rs) := dz
  clear dz
  go_wp2_with fail
  refine (C2.out _ _ _ Dz.out.rl Dz.out.rr).mono ?_
  rintro e w13 ⟨vh, rfl, o, q⟩
  obtain ⟨ah, ch, rfl⟩ := row_slice o
  have A13 := hide (A12.out.add q (TInts.st _ _) ⟨o, row_top o⟩)
  clear A12 Dz loz hiz q o
  obtain ⟨loh, hih, dh⟩ := A13.out.get 0 rfl
  have Dh := hide (Own.rd dh.1)
  clear dh
  obtain ⟨loW, hiW, dW⟩ := A13.out.get 5 rfl
  have DW := hide (Own.rd dW.1)
  clear dW
  go_wp2_with fail
  refine (eqIntS_same _ _ V _ Dh.out DW.out).mono ?_
  rintro e w14 ⟨rfl, q⟩
  have A14 := hide (A13.out.step q)
  clear A13 Dh loh hih DW loW hiW q
  obtain ⟨log, hig, dg⟩ := A14.out.get 2 rfl
  have Dg := hide (Own.rd dg.1)
  clear dg
  go_wp2_with fail
  refine (heldIntS_calls _ V.length 1 _ Dg.out (by omega) (by omega) (by omega)).mono ?_
  rintro e w15 ⟨rfl, rfl⟩
  clear Dg log hig
  go_wp2
  go_ret
  exact ⟨rfl, A14.out.below⟩
end Go.Proofs.Ytnhonnaglmkjaaa

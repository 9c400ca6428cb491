/-
  The law that holds the program's RehashTo against its model's: at every table and seed the call returns true, and nothing that was there is written. No condition.
-/
import Derived.Test.YtehjfjplajimfaaTrh
import Derived.Test.YtehjfjplajimfaaTrs
namespace Go.Proofs.Ytehjfjplajimfaa
open Go.RowKit
set_option linter.unusedVariables false

set_option maxRecDepth 100000 in
set_option maxHeartbeats 3200000 in
theorem fnExactRehashTo_walk (s m : Int) (l r : Value) (ls rs : List Sl) (sd : Int) (w : World) (hl : RdS w l ls) (hr : RdS w r rs) :
    Calls Try.prog 3 #[.agg #[.int .i64 s, l, r, .int .i64 m], .int .i64 sd] w fun e w' => e = .returned (.bool true) ∧ Below w.heap.size w w' := by
  have RL := hide hl
  have RR := hide hr
  clear hl hr
  obtain ⟨X, Y, sX, mX, ok, hf⟩ := rhAt_ex s m ls rs sd
  have C1 := hide (fun (z : ls.length ≤ 1048576 ∧ rs.length ≤ 1048576) V p q h1 h2 => sRehashTo_calls s m sd p q ls rs X Y sX mX ok V h1 h2 z.1 z.2 hf)
  have C2 := hide (fun V p q h1 h2 => rehashTo_calls s m sd p q ls rs X Y sX mX ok V h1 h2 hf)
  have SX : Hid (X.length ≤ 1048576 ∧ Y.length ≤ 1048576) := by
    rcases hf with ⟨o, hs, ds, res, hp, _, hr, h⟩ | ⟨_, rfl, rfl, _⟩
    · rcases h with ⟨rfl, _⟩ | ⟨_, rfl, rfl, _⟩
      · have o2 := rh_len sd ds new11 new11 0 X Y mX (okT_new sd hs) (fun x hx => by obtain ⟨h1, h2, _⟩ := find_val o (hp.mem_iff.1 hx); exact ⟨h1, h2⟩) hr
        have h1 := o2.2.1.1
        have h2 := o2.2.2.1.1
        exact ⟨by omega, by omega⟩
      · exact ⟨by simp, by simp⟩
    · exact ⟨by simp, by simp⟩
  clear hf
  have A0 := hide ((Hand.start w).box #[.int .i64 s, l, r, .int .i64 m] 24)
  go_enter Try.func3, Try.ntmps3
  go_wp2_with fail
  refine (szTable_calls s m l r ls rs _ (RL.out.below A0.out.below) (RR.out.below A0.out.below)).mono ?_
  rintro e w1 ⟨⟨r1, rfl, hr⟩, q⟩
  have A1 := hide (A0.out.step q)
  clear A0 q
  by_cases r0 : r1 < 0
  · go_wp2
    go_ret
    exact ⟨rfl, A1.out.below⟩
  have SZ := hide (hr.resolve_left r0).2
  clear hr
  have C1 := hide (C1.out SZ.out)
  obtain ⟨caT0, caT1, caT2, caT3⟩ := (A1.out.atBox 0 rfl).c4
  go_wp2_with fail
  refine (toTable_calls s m l r ls rs _ (RL.out.below A1.out.below) (RR.out.below A1.out.below) SZ.out.1 SZ.out.2).mono ?_
  rintro e w2 ⟨lX, rX, rfl, d, q⟩
  obtain ⟨alX, clX, arX, crX, rfl, rfl⟩ := d.sl
  have ltX := q.size
  (try simp only [World.size_alloc] at ltX)
  have A2 := hide (A1.out.add q (TTab.st _ _ _ _) d)
  clear A1 caT0 caT1 caT2 caT3 q d
  obtain ⟨loX, hiX, dX⟩ := A2.out.get 0 rfl
  have DX : Hid (TabV _ loX hiX _ _ ls rs) := dX
  clear dX
  go_wp2_with fail
  refine (C1.out _ _ _ DX.out.rl DX.out.rr).mono ?_
  rintro e w3 ⟨lW, rW, rfl, d, q⟩
  obtain ⟨alW, clW, arW, crW, rfl, rfl⟩ := d.sl
  have ltW := q.size
  (try simp only [World.size_alloc] at ltW)
  have A3 := hide ((A2.out.add q (TTab.st _ _ _ _) d).box #[.int .i64 sX, .slice alW X.length clW, .slice arW Y.length crW, .int .i64 mX] 28)
  clear A2 DX loX hiX q d
  obtain ⟨caT0, caT1, caT2, caT3⟩ := (A3.out.atBox 3 rfl).c4
  go_wp2_with fail
  refine (toTable_calls s m l r ls rs _ (RL.out.below A3.out.below) (RR.out.below A3.out.below) SZ.out.1 SZ.out.2).mono ?_
  rintro e w4 ⟨lx, rx, rfl, d, q⟩
  obtain ⟨alx, clx, arx, crx, rfl, rfl⟩ := d.sl
  have ltx := q.size
  (try simp only [World.size_alloc] at ltx)
  have A4 := hide ((A3.out.add q (TTab.st _ _ _ _) d).box #[.int .i64 s, .slice alx ls.length clx, .slice arx rs.length crx, .int .i64 m] 28)
  clear A3 caT0 caT1 caT2 caT3 q d
  obtain ⟨cbx0, cbx1, cbx2, cbx3⟩ := (A4.out.atBox 0 rfl).c4
  obtain ⟨lox, hix, dx⟩ := A4.out.get 1 rfl
  have Dx : Hid (TabV _ lox hix _ _ ls rs) := dx
  clear dx
  go_wp2_with fail
  refine (C2.out _ _ _ Dx.out.rl Dx.out.rr).mono ?_
  rintro e w5 ⟨lg, rg, rfl, d, q⟩
  obtain ⟨alg, clg, arg, crg, rfl, rfl⟩ := d.sl
  have ltg := q.size
  (try simp only [World.size_alloc] at ltg)
  have A5 := hide ((A4.out.add q (TTab.st _ _ _ _) d).box #[.int .i64 sX, .slice alg X.length clg, .slice arg Y.length crg, .int .i64 mX] 28)
  clear A4 cbx0 cbx1 cbx2 cbx3 Dx lox hix q d
  obtain ⟨cbg0, cbg1, cbg2, cbg3⟩ := (A5.out.atBox 0 rfl).c4
  obtain ⟨cbW0, cbW1, cbW2, cbW3⟩ := (A5.out.atBox 4 rfl).c4
  obtain ⟨log, hig, dg⟩ := A5.out.get 1 rfl
  have Dg : Hid (TabV _ log hig _ _ X Y) := dg
  clear dg
  obtain ⟨loW, hiW, dW⟩ := A5.out.get 5 rfl
  have DW : Hid (TabV _ loW hiW _ _ X Y) := dW
  clear dW
  go_wp2_with fail
  refine (eqTable_same sX mX _ _ _ _ X Y _ Dg.out.rl Dg.out.rr DW.out.rl DW.out.rr).mono ?_
  rintro e w6 ⟨rfl, q⟩
  have A6 := hide (A5.out.step q)
  clear A5 cbg0 cbg1 cbg2 cbg3 cbW0 cbW1 cbW2 cbW3 Dg log hig DW loW hiW q
  go_wp2
  obtain ⟨lo, hi, dd⟩ := A6.out.get 3 rfl
  have D5 : Hid (TabV _ lo hi _ _ ls rs) := dd
  clear dd
  have F : Hid (∀ w', Below w6.heap.size w6 w' → (w'.cell? ⟨w.heap.size, 0, none⟩ = some (.int .i64 s) ∧ w'.cell? ⟨w.heap.size, 1, none⟩ = some l ∧ w'.cell? ⟨w.heap.size, 2, none⟩ = some r ∧ w'.cell? ⟨w.heap.size, 3, none⟩ = some (.int .i64 m)) ∧ (w'.cell? ⟨w4.heap.size, 0, none⟩ = some (.int .i64 s) ∧ w'.cell? ⟨w4.heap.size, 1, none⟩ = some (.slice alx ls.length clx) ∧ w'.cell? ⟨w4.heap.size, 2, none⟩ = some (.slice arx rs.length crx) ∧ w'.cell? ⟨w4.heap.size, 3, none⟩ = some (.int .i64 m))) :=
    fun w' hb => ⟨((A6.out.step hb).atBox 7 rfl).c4, ((A6.out.step hb).atBox 2 rfl).c4⟩
  go_region_held3 (fun w' => (w'.cell? ⟨w.heap.size, 0, none⟩ = some (.int .i64 s) ∧ w'.cell? ⟨w.heap.size, 1, none⟩ = some l ∧ w'.cell? ⟨w.heap.size, 2, none⟩ = some r ∧ w'.cell? ⟨w.heap.size, 3, none⟩ = some (.int .i64 m)) ∧ (w'.cell? ⟨w4.heap.size, 0, none⟩ = some (.int .i64 s) ∧ w'.cell? ⟨w4.heap.size, 1, none⟩ = some (.slice alx ls.length clx) ∧ w'.cell? ⟨w4.heap.size, 2, none⟩ = some (.slice arx rs.length crx) ∧ w'.cell? ⟨w4.heap.size, 3, none⟩ = some (.int .i64 m))) (first | exact F.out _ (Below.refl _ _).drew | exact F.out _ B2.out | exact F.out _ B1.out)
    ((first | (go_at_call 18; refine (eqTable_same s m _ _ _ _ ls rs _ (D5.out.below B1.out).rl (D5.out.below B1.out).rr D6.out.rl D6.out.rr).mono ?_; rintro e' wr7 ⟨rfl, b7⟩; have B2 := hide (B1.out.trans (b7.mono B1.out.size)); clear b7) | (go_at_call 16; refine (toTable_calls s m l r ls rs _ (RL.out.below (A6.out.step (Below.refl _ _).drew).below) (RR.out.below (A6.out.step (Below.refl _ _).drew).below) SZ.out.1 SZ.out.2).mono ?_; rintro e' wr6 ⟨p3, h3, rfl, d6, b6⟩; have D6 := hide d6; have B1 := hide ((Below.refl w6.heap.size w6).drew.trans b6); clear b6 d6)))
  have A7 := hide (A6.out.step B2.out)
  clear A6 F B1 B2 D5 D6 lo hi
  obtain ⟨cbx0, cbx1, cbx2, cbx3⟩ := (A7.out.atBox 2 rfl).c4
  obtain ⟨lox, hix, dx, lw, hw, put⟩ := A7.out.open 3 rfl
  have PUT := hide put
  have HW := hide hw
  clear put lw hw
  have Dx : Hid (TabV _ lox hix _ _ ls rs) := dx
  clear dx
  go_wp2_with fail
  refine (markTable_calls s m _ _ ls rs _ _ _ Dx.out HW.out SZ.out.1 SZ.out.2).mono ?_
  rintro e w8 ⟨rfl, d4, q⟩
  have A8 := hide (PUT.out _ (TTab _ _ _ _) (TTab.st _ _ _ _) d4 q)
  clear A7 cbx0 cbx1 cbx2 cbx3 lox hix PUT HW Dx q d4
  obtain ⟨kk, hkk⟩ : ∃ kk, kk = enT ls rs := ⟨_, rfl⟩
  rw [← hkk]
  have KK := hide hkk
  have kkn : ¬ (kk < 0) := by rw [hkk]; unfold enT; omega
  clear hkk
  obtain ⟨cbg0, cbg1, cbg2, cbg3⟩ := (A8.out.atBox 0 rfl).c4
  obtain ⟨cbW0, cbW1, cbW2, cbW3⟩ := (A8.out.atBox 4 rfl).c4
  obtain ⟨log, hig, dg⟩ := A8.out.get 1 rfl
  have Dg : Hid (TabV _ log hig _ _ X Y) := dg
  clear dg
  obtain ⟨loW, hiW, dW⟩ := A8.out.get 5 rfl
  have DW : Hid (TabV _ loW hiW _ _ X Y) := dW
  clear dW
  go_wp2_with fail
  refine (eqTable_same sX mX _ _ _ _ X Y _ Dg.out.rl Dg.out.rr DW.out.rl DW.out.rr).mono ?_
  rintro e w9 ⟨rfl, q⟩
  have A9 := hide (A8.out.step q)
  clear A8 cbg0 cbg1 cbg2 cbg3 cbW0 cbW1 cbW2 cbW3 Dg log hig DW loW hiW q
  obtain ⟨cbg0, cbg1, cbg2, cbg3⟩ := (A9.out.atBox 0 rfl).c4
  obtain ⟨log, hig, dg, lw, hw, put⟩ := A9.out.open 1 rfl
  have PUT := hide put
  have HW := hide hw
  clear put lw hw
  have Dg : Hid (TabV _ log hig _ _ X Y) := dg
  clear dg
  go_wp2_with fail
  refine (markTable_calls sX mX _ _ X Y _ _ _ Dg.out HW.out SX.out.1 SX.out.2).mono ?_
  rintro e w10 ⟨rfl, d4, q⟩
  have A10 := hide (PUT.out _ (TTab _ _ _ _) (TTab.st _ _ _ _) d4 q)
  clear A9 cbg0 cbg1 cbg2 cbg3 log hig PUT HW Dg q d4
  obtain ⟨mm, hmm⟩ : ∃ mm, mm = enT X Y := ⟨_, rfl⟩
  rw [← hmm]
  have MM := hide hmm
  have mmn : ¬ (mm < 0) := by rw [hmm]; unfold enT; omega
  clear hmm
  obtain ⟨cbg0, cbg1, cbg2, cbg3⟩ := (A10.out.atBox 0 rfl).c4
  obtain ⟨log, hig, dg⟩ := A10.out.get 1 rfl
  have Dg : Hid (TabV _ log hig _ _ (mkS 1 X.length) (mkS (1 + 3 * (X.length : Int)) Y.length)) := dg
  clear dg
  go_wp2_with fail
  refine (heldTable_calls sX mX _ _ X Y _ Dg.out.rl Dg.out.rr SX.out.1 SX.out.2).mono ?_
  rintro e w11 ⟨rfl, q⟩
  have A11 := hide (A10.out.step q)
  clear A10 cbg0 cbg1 cbg2 cbg3 Dg log hig q
  rw [← MM.out]
  obtain ⟨caT0, caT1, caT2, caT3⟩ := (A11.out.atBox 7 rfl).c4
  go_wp2_with fail
  refine (toTable_calls s m l r ls rs _ (RL.out.below A11.out.below) (RR.out.below A11.out.below) SZ.out.1 SZ.out.2).mono ?_
  rintro e w12 ⟨lz, rz, rfl, d, q⟩
  obtain ⟨alz, clz, arz, crz, rfl, rfl⟩ := d.sl
  have ltz := q.size
  (try simp only [World.size_alloc] at ltz)
  have A12 := hide (A11.out.add q (TTab.st _ _ _ _) d)
  clear A11 caT0 caT1 caT2 caT3 q d
  obtain ⟨loz, hiz, dz⟩ := A12.out.get 0 rfl
  have Dz : Hid (TabV _ loz hiz _ _ ls rs) := dz
  clear dz
  go_wp2_with fail
  refine (C2.out _ _ _ Dz.out.rl Dz.out.rr).mono ?_
  rintro e w13 ⟨lh, rh, rfl, d, q⟩
  obtain ⟨alh, clh, arh, crh, rfl, rfl⟩ := d.sl
  have lth := q.size
  (try simp only [World.size_alloc] at lth)
  have A13 := hide ((A12.out.add q (TTab.st _ _ _ _) d).box #[.int .i64 sX, .slice alh X.length clh, .slice arh Y.length crh, .int .i64 mX] 28)
  clear A12 Dz loz hiz q d
  obtain ⟨cbh0, cbh1, cbh2, cbh3⟩ := (A13.out.atBox 0 rfl).c4
  obtain ⟨cbW0, cbW1, cbW2, cbW3⟩ := (A13.out.atBox 7 rfl).c4
  obtain ⟨loh, hih, dh⟩ := A13.out.get 1 rfl
  have Dh : Hid (TabV _ loh hih _ _ X Y) := dh
  clear dh
  obtain ⟨loW, hiW, dW⟩ := A13.out.get 8 rfl
  have DW : Hid (TabV _ loW hiW _ _ X Y) := dW
  clear dW
  go_wp2_with fail
  refine (eqTable_same sX mX _ _ _ _ X Y _ Dh.out.rl Dh.out.rr DW.out.rl DW.out.rr).mono ?_
  rintro e w14 ⟨rfl, q⟩
  have A14 := hide (A13.out.step q)
  clear A13 cbh0 cbh1 cbh2 cbh3 cbW0 cbW1 cbW2 cbW3 Dh loh hih DW loW hiW q
  obtain ⟨cbg0, cbg1, cbg2, cbg3⟩ := (A14.out.atBox 3 rfl).c4
  obtain ⟨log, hig, dg⟩ := A14.out.get 4 rfl
  have Dg : Hid (TabV _ log hig _ _ (mkS 1 X.length) (mkS (1 + 3 * (X.length : Int)) Y.length)) := dg
  clear dg
  go_wp2_with fail
  refine (heldTable_calls sX mX _ _ X Y _ Dg.out.rl Dg.out.rr SX.out.1 SX.out.2).mono ?_
  rintro e w15 ⟨rfl, q⟩
  have A15 := hide (A14.out.step q)
  clear A14 cbg0 cbg1 cbg2 cbg3 Dg log hig q
  rw [← MM.out]
  go_wp2
  go_ret
  exact ⟨rfl, A15.out.below⟩
end Go.Proofs.Ytehjfjplajimfaa

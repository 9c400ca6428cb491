/-
  The law that holds the program's GiveRoom against its model's: at any rooms and any place the call returns true, and nothing that was there is written. No condition.
-/
import Derived.Test.YtjffjoednmlkiaaRnp
namespace Go.Proofs.Ytjffjoednmlkiaa
open Go.RowKit
set_option linter.unusedVariables false

set_option maxRecDepth 100000 in
set_option maxHeartbeats 3200000 in
theorem fnExactGiveRoom_walk (f h : Value) (m : List (List Int)) (hs : List Hl) (s : Int) (w : World) (hf : RdM w f m) (hh : RdH w h hs) (wfs : wfI s) :
    Calls Try.prog 3 #[.agg #[f, h], .int .i64 s] w fun e w' => e = .returned (.bool true) ∧ Below w.heap.size w w' := by
  have RF := hide hf
  have RH := hide hh
  clear hf hh
  obtain ⟨X, Y, ok, hX⟩ := giveP_ex m hs s
  have SX := hide (giveP_small hX)
  have C1 : Hid (∀ (z : m.length + tot m ≤ 1048576 ∧ hs.length ≤ 1048576) V p q (h1 : RdM V p m) (h2 : RdH V q hs), Calls Try.prog 12 #[.agg #[p, q], .int .i64 s] V fun e w' => ∃ f' h', e = .returned (.tuple #[.agg #[f', h'], .bool ok]) ∧ RomV w' V.heap.size w'.heap.size f' h' X Y ∧ Below V.heap.size V w') := fun z V p q h1 h2 => sGiveRoom_calls p q m hs s X Y ok V h1 h2 z.1 z.2 hX
  have C2 : Hid (∀ (z : m.length + tot m ≤ 1048576 ∧ hs.length ≤ 1048576) V p q (h1 : RdM V p m) (h2 : RdH V q hs), Calls Try.prog 14 #[.agg #[p, q], .int .i64 s] V fun e w' => ∃ f' h', e = .returned (.tuple #[.agg #[f', h'], .bool ok]) ∧ RomV w' V.heap.size w'.heap.size f' h' X Y ∧ Below V.heap.size V w') := fun z V p q h1 h2 => giveRoom_calls p q m hs s X Y ok V h1 h2 z.1 z.2 wfs hX
  clear hX wfs
  have A0 := hide ((Hand.start w).box #[f, h] 25)
  go_enter Try.func3, Try.ntmps3
  go_wp2_with fail
  refine (szRooms_calls f h m hs _ (RF.out.below A0.out.below) (RH.out.below A0.out.below)).mono ?_
  rintro e w1 ⟨⟨r1, rfl, hr⟩, q⟩
  have A1 := hide (A0.out.step q)
  clear A0 q
  by_cases r0 : r1 < 0
  · go_wp2
    go_ret
    exact ⟨rfl, A1.out.below⟩
  have SZ := hide (hr.resolve_left r0).2
  clear hr
  have C1 := hide (C1.out SZ.out)
  have C2 := hide (C2.out SZ.out)
  obtain ⟨caT0, caT1⟩ := (A1.out.atBox 0 rfl).c2
  go_wp2_with fail
  refine (toRooms_calls f h m hs _ (RF.out.below A1.out.below) (RH.out.below A1.out.below) SZ.out.1 SZ.out.2).mono ?_
  rintro e w2 ⟨lX, rX, rfl, d, q⟩
  obtain ⟨alX, clX, arX, crX, rfl, rfl⟩ := d.sl
  have ltX := q.size
  (try simp only [World.size_alloc] at ltX)
  have A2 := hide (A1.out.add q (TRom.st _ _ _ _) d)
  clear A1 caT0 caT1 q d
  obtain ⟨loX, hiX, dX⟩ := A2.out.get 0 rfl
  have DX : Hid (RomV _ loX hiX _ _ m hs) := dX
  clear dX
  go_wp2_with fail
  refine (C1.out _ _ _ DX.out.rf DX.out.rh).mono ?_
  rintro e w3 ⟨lW, rW, rfl, d, q⟩
  obtain ⟨alW, clW, arW, crW, rfl, rfl⟩ := d.sl
  have ltW := q.size
  (try simp only [World.size_alloc] at ltW)
  have A3 := hide ((A2.out.add q (TRom.st _ _ _ _) d).box #[.slice alW X.length clW, .slice arW Y.length crW] 29)
  clear A2 DX loX hiX q d
  obtain ⟨caT0, caT1⟩ := (A3.out.atBox 3 rfl).c2
  go_wp2_with fail
  refine (toRooms_calls f h m hs _ (RF.out.below A3.out.below) (RH.out.below A3.out.below) SZ.out.1 SZ.out.2).mono ?_
  rintro e w4 ⟨lx, rx, rfl, d, q⟩
  obtain ⟨alx, clx, arx, crx, rfl, rfl⟩ := d.sl
  have ltx := q.size
  (try simp only [World.size_alloc] at ltx)
  have A4 := hide ((A3.out.add q (TRom.st _ _ _ _) d).box #[.slice alx m.length clx, .slice arx hs.length crx] 29)
  clear A3 caT0 caT1 q d
  obtain ⟨cbx0, cbx1⟩ := (A4.out.atBox 0 rfl).c2
  obtain ⟨lox, hix, dx⟩ := A4.out.get 1 rfl
  have Dx : Hid (RomV _ lox hix _ _ m hs) := dx
  clear dx
  go_wp2_with fail
  refine (C2.out _ _ _ Dx.out.rf Dx.out.rh).mono ?_
  rintro e w5 ⟨lg, rg, rfl, d, q⟩
  obtain ⟨alg, clg, arg, crg, rfl, rfl⟩ := d.sl
  have ltg := q.size
  (try simp only [World.size_alloc] at ltg)
  have A5 := hide ((A4.out.add q (TRom.st _ _ _ _) d).box #[.slice alg X.length clg, .slice arg Y.length crg] 29)
  clear A4 cbx0 cbx1 Dx lox hix q d
  obtain ⟨cbg0, cbg1⟩ := (A5.out.atBox 0 rfl).c2
  obtain ⟨cbW0, cbW1⟩ := (A5.out.atBox 4 rfl).c2
  obtain ⟨log, hig, dg⟩ := A5.out.get 1 rfl
  have Dg : Hid (RomV _ log hig _ _ X Y) := dg
  clear dg
  obtain ⟨loW, hiW, dW⟩ := A5.out.get 5 rfl
  have DW : Hid (RomV _ loW hiW _ _ X Y) := dW
  clear dW
  go_wp2_with fail
  refine (eqRooms_same _ _ _ _ X Y _ Dg.out.rf Dg.out.rh DW.out.rf DW.out.rh).mono ?_
  rintro e w6 ⟨rfl, q⟩
  have A6 := hide (A5.out.step q)
  clear A5 cbg0 cbg1 cbW0 cbW1 Dg log hig DW loW hiW q
  go_wp2
  obtain ⟨lo, hi, dd⟩ := A6.out.get 3 rfl
  have D5 : Hid (RomV _ lo hi _ _ m hs) := dd
  clear dd
  have F : Hid (∀ w', Below w6.heap.size w6 w' → (w'.cell? ⟨w.heap.size, 0, none⟩ = some f ∧ w'.cell? ⟨w.heap.size, 1, none⟩ = some h) ∧ (w'.cell? ⟨w4.heap.size, 0, none⟩ = some (.slice alx m.length clx) ∧ w'.cell? ⟨w4.heap.size, 1, none⟩ = some (.slice arx hs.length crx))) :=
    fun w' hb => ⟨((A6.out.step hb).atBox 7 rfl).c2, ((A6.out.step hb).atBox 2 rfl).c2⟩
  go_region_held3 (fun w' => (w'.cell? ⟨w.heap.size, 0, none⟩ = some f ∧ w'.cell? ⟨w.heap.size, 1, none⟩ = some h) ∧ (w'.cell? ⟨w4.heap.size, 0, none⟩ = some (.slice alx m.length clx) ∧ w'.cell? ⟨w4.heap.size, 1, none⟩ = some (.slice arx hs.length crx))) (first | exact F.out _ (Below.refl _ _).drew | exact F.out _ B2.out | exact F.out _ B1.out)
    ((first | (go_at_call 15; refine (eqRooms_same _ _ _ _ m hs _ (D5.out.below B1.out).rf (D5.out.below B1.out).rh D6.out.rf D6.out.rh).mono ?_; rintro e' wr7 ⟨rfl, b7⟩; have B2 := hide (B1.out.trans (b7.mono B1.out.size)); clear b7) | (go_at_call 13; refine (toRooms_calls f h m hs _ (RF.out.below (A6.out.step (Below.refl _ _).drew).below) (RH.out.below (A6.out.step (Below.refl _ _).drew).below) SZ.out.1 SZ.out.2).mono ?_; rintro e' wr6 ⟨p3, h3, rfl, d6, b6⟩; have D6 := hide d6; have B1 := hide ((Below.refl w6.heap.size w6).drew.trans b6); clear b6 d6)))
  have A7 := hide (A6.out.step B2.out)
  clear A6 F B1 B2 D5 D6 lo hi
  obtain ⟨cbx0, cbx1⟩ := (A7.out.atBox 2 rfl).c2
  obtain ⟨lox, hix, dx, lw, hw, put⟩ := A7.out.open 3 rfl
  have PUT := hide put
  have HW := hide hw
  clear put lw hw
  have Dx : Hid (RomV _ lox hix _ _ m hs) := dx
  clear dx
  go_wp2_with fail
  refine (markRooms_calls _ _ m hs _ _ _ Dx.out HW.out SZ.out.1 SZ.out.2).mono ?_
  rintro e w8 ⟨rfl, d4, q⟩
  have A8 := hide (PUT.out _ (TRom _ _ _ _) (TRom.st _ _ _ _) d4 q)
  clear A7 cbx0 cbx1 lox hix PUT HW Dx q d4
  obtain ⟨kk, hkk⟩ : ∃ kk, kk = enR m hs := ⟨_, rfl⟩
  rw [← hkk]
  have KK := hide hkk
  have kkn : ¬ (kk < 0) := by rw [hkk]; unfold enR; omega
  clear hkk
  obtain ⟨cbg0, cbg1⟩ := (A8.out.atBox 0 rfl).c2
  obtain ⟨cbW0, cbW1⟩ := (A8.out.atBox 4 rfl).c2
  obtain ⟨log, hig, dg⟩ := A8.out.get 1 rfl
  have Dg : Hid (RomV _ log hig _ _ X Y) := dg
  clear dg
  obtain ⟨loW, hiW, dW⟩ := A8.out.get 5 rfl
  have DW : Hid (RomV _ loW hiW _ _ X Y) := dW
  clear dW
  go_wp2_with fail
  refine (eqRooms_same _ _ _ _ X Y _ Dg.out.rf Dg.out.rh DW.out.rf DW.out.rh).mono ?_
  rintro e w9 ⟨rfl, q⟩
  have A9 := hide (A8.out.step q)
  clear A8 cbg0 cbg1 cbW0 cbW1 Dg log hig DW loW hiW q
  obtain ⟨cbg0, cbg1⟩ := (A9.out.atBox 0 rfl).c2
  obtain ⟨log, hig, dg, lw, hw, put⟩ := A9.out.open 1 rfl
  have PUT := hide put
  have HW := hide hw
  clear put lw hw
  have Dg : Hid (RomV _ log hig _ _ X Y) := dg
  clear dg
  go_wp2_with fail
  refine (markRooms_calls _ _ X Y _ _ _ Dg.out HW.out SX.out.1 SX.out.2).mono ?_
  rintro e w10 ⟨rfl, d4, q⟩
  have A10 := hide (PUT.out _ (TRom _ _ _ _) (TRom.st _ _ _ _) d4 q)
  clear A9 cbg0 cbg1 log hig PUT HW Dg q d4
  obtain ⟨mm, hmm⟩ : ∃ mm, mm = enR X Y := ⟨_, rfl⟩
  rw [← hmm]
  have MM := hide hmm
  have mmn : ¬ (mm < 0) := by rw [hmm]; unfold enR; omega
  clear hmm
  obtain ⟨cbg0, cbg1⟩ := (A10.out.atBox 0 rfl).c2
  obtain ⟨log, hig, dg⟩ := A10.out.get 1 rfl
  have Dg : Hid (RomV _ log hig _ _ (marksM 1 X) (mkH (1 + (tot X : Int)) Y.length)) := dg
  clear dg
  go_wp2_with fail
  refine (heldRooms_calls _ _ X Y _ Dg.out.rf Dg.out.rh SX.out.1 SX.out.2).mono ?_
  rintro e w11 ⟨rfl, q⟩
  have A11 := hide (A10.out.step q)
  clear A10 cbg0 cbg1 Dg log hig q
  rw [← MM.out]
  obtain ⟨caT0, caT1⟩ := (A11.out.atBox 7 rfl).c2
  go_wp2_with fail
  refine (toRooms_calls f h m hs _ (RF.out.below A11.out.below) (RH.out.below A11.out.below) SZ.out.1 SZ.out.2).mono ?_
  rintro e w12 ⟨lz, rz, rfl, d, q⟩
  obtain ⟨alz, clz, arz, crz, rfl, rfl⟩ := d.sl
  have ltz := q.size
  (try simp only [World.size_alloc] at ltz)
  have A12 := hide (A11.out.add q (TRom.st _ _ _ _) d)
  clear A11 caT0 caT1 q d
  obtain ⟨loz, hiz, dz⟩ := A12.out.get 0 rfl
  have Dz : Hid (RomV _ loz hiz _ _ m hs) := dz
  clear dz
  go_wp2_with fail
  refine (C2.out _ _ _ Dz.out.rf Dz.out.rh).mono ?_
  rintro e w13 ⟨lh, rh, rfl, d, q⟩
  obtain ⟨alh, clh, arh, crh, rfl, rfl⟩ := d.sl
  have lth := q.size
  (try simp only [World.size_alloc] at lth)
  have A13 := hide ((A12.out.add q (TRom.st _ _ _ _) d).box #[.slice alh X.length clh, .slice arh Y.length crh] 29)
  clear A12 Dz loz hiz q d
  obtain ⟨cbh0, cbh1⟩ := (A13.out.atBox 0 rfl).c2
  obtain ⟨cbW0, cbW1⟩ := (A13.out.atBox 7 rfl).c2
  obtain ⟨loh, hih, dh⟩ := A13.out.get 1 rfl
  have Dh : Hid (RomV _ loh hih _ _ X Y) := dh
  clear dh
  obtain ⟨loW, hiW, dW⟩ := A13.out.get 8 rfl
  have DW : Hid (RomV _ loW hiW _ _ X Y) := dW
  clear dW
  go_wp2_with fail
  refine (eqRooms_same _ _ _ _ X Y _ Dh.out.rf Dh.out.rh DW.out.rf DW.out.rh).mono ?_
  rintro e w14 ⟨rfl, q⟩
  have A14 := hide (A13.out.step q)
  clear A13 cbh0 cbh1 cbW0 cbW1 Dh loh hih DW loW hiW q
  obtain ⟨cbg0, cbg1⟩ := (A14.out.atBox 3 rfl).c2
  obtain ⟨log, hig, dg⟩ := A14.out.get 4 rfl
  have Dg : Hid (RomV _ log hig _ _ (marksM 1 X) (mkH (1 + (tot X : Int)) Y.length)) := dg
  clear dg
  go_wp2_with fail
  refine (heldRooms_calls _ _ X Y _ Dg.out.rf Dg.out.rh SX.out.1 SX.out.2).mono ?_
  rintro e w15 ⟨rfl, q⟩
  have A15 := hide (A14.out.step q)
  clear A14 cbg0 cbg1 Dg log hig q
  rw [← MM.out]
  go_wp2
  go_ret
  exact ⟨rfl, A15.out.below⟩
end Go.Proofs.Ytjffjoednmlkiaa

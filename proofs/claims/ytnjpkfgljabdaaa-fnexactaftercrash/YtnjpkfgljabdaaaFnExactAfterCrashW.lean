/-
  The law that holds the program's AfterCrash against its model's: at every disk and list the call returns true, and nothing that was there is written. No condition.
-/
import Derived.Test.YtnjpkfgljabdaaaDac
namespace Go.Proofs.Ytnjpkfgljabdaaa
open Go.RowKit
set_option linter.unusedVariables false

set_option maxRecDepth 100000 in
set_option maxHeartbeats 1600000 in
theorem fnExactAfterCrash_walk (p h b : Value) (P H : List ByteArray) (B : List Bool) (v : Value) (ks : List Int) (w : World) (hp : RdT w p P) (hh : RdT w h H) (hb : RdZ w b B) (hv : Rd w v ks) :
    Calls Try.prog 9 #[.agg #[p, h, b], v] w fun e w' => e = .returned (.bool true) ∧ Below w.heap.size w w' := by
  have RP := hide hp
  have RH := hide hh
  have RB := hide hb
  have RV := hide hv
  obtain ⟨av, cv, rfl, mv, _⟩ := hv.sl
  by_cases hkl : ks.length ≤ 1048576
  case neg =>
    have h' : (1048576 : Int) < (ks.length : Int) := by omega
    have B0 := hide (below_box w (.cells #[p, h, b] 31))
    clear hp hh hb hv
    go_enter Try.func9, Try.ntmps9
    go_wp2
    go_ret
    exact ⟨rfl, B0.out⟩
  have hkl' : ¬ (1048576 : Int) < (ks.length : Int) := by omega
  obtain ⟨ok, hok⟩ := ac_bool P H B ks
  have C1 := hide (fun V p h b v h1 h2 h3 h4 => sAfterCrash_calls p h b v P H B ks ok V hok h1 h2 h3 h4 hkl)
  have C2 := hide (fun V p h b v h1 h2 h3 h4 => afterCrash_calls p h b v P H B ks ok V hok h1 h2 h3 h4 hkl)
  have SX := hide (ac_len hok)
  generalize acP ok P H ks = X at C1 C2 SX
  generalize acH ok H = Y at C1 C2 SX
  generalize acB ok B = Z at C1 C2 SX
  clear hp hh hb hv hok
  have A0 := hide ((Hand.start w).box #[p, h, b] 31)
  go_enter Try.func9, Try.ntmps9
  go_wp2_with fail
  refine (szDisk_calls p h b P H B _ (RP.out.below A0.out.below) (RH.out.below A0.out.below) (RB.out.below A0.out.below)).mono ?_
  rintro e w1 ⟨⟨r, rfl, hr⟩, q⟩
  have A1 := hide (A0.out.step q)
  clear A0 q
  by_cases r0 : r < 0
  · go_wp2
    go_ret
    exact ⟨rfl, A1.out.below⟩
  have SZ := hide (hr.resolve_left r0).2.2
  have r1 := (hr.resolve_left r0).2.1
  clear hr
  obtain ⟨caD0, caD1, caD2⟩ := (A1.out.atBox 0 rfl).c3
  go_wp2_with fail
  refine (toDisk_calls p h b P H B _ (RP.out.below A1.out.below) (RH.out.below A1.out.below) (RB.out.below A1.out.below) SZ.out).mono ?_
  rintro e w2 ⟨px, hx, bx, rfl, d, q⟩
  obtain ⟨apx, cpx, ahx, chx, abx, cbx, rfl, rfl, rfl⟩ := d.sl
  have ltx := q.size
  (try simp only [World.size_alloc] at ltx)
  have A2 := hide (A1.out.add q (TDsk.st _ _ _ _ _ _) d)
  clear A1 caD0 caD1 caD2 q d
  go_wp2_with fail
  refine (toIntS_calls _ ks _ (RV.out.below A2.out.below) hkl).mono ?_
  rintro e w3 ⟨vi, rfl, o, q⟩
  obtain ⟨ai, ci, rfl⟩ := row_slice o
  have lti := q.size
  (try simp only [World.size_alloc] at lti)
  have A3 := hide (A2.out.add q (TInts.st _ _) ⟨o, row_top o⟩)
  clear A2 q o
  obtain ⟨lox, hix, dx⟩ := A3.out.get 1 rfl
  have Dx : Hid (DskV _ lox hix _ _ _ P H B) := dx
  clear dx
  obtain ⟨loi, hii, di⟩ := A3.out.get 0 rfl
  have Di : Hid (Own _ loi _ ks) := di.1
  clear di
  go_wp2_with fail
  refine (C1.out _ _ _ _ _ Dx.out.rp Dx.out.rh Dx.out.rb Di.out.rd).mono ?_
  rintro e w4 ⟨pyy, hyy, byy, rfl, d, q⟩
  obtain ⟨apyy, cpyy, ahyy, chyy, abyy, cbyy, rfl, rfl, rfl⟩ := d.sl
  have ltyy := q.size
  (try simp only [World.size_alloc] at ltyy)
  have A4 := hide ((A3.out.add q (TDsk.st _ _ _ _ _ _) d).box #[.slice apyy X.length cpyy, .slice ahyy Y.length chyy, .slice abyy Z.length cbyy] 25)
  clear A3 Dx lox hix Di loi hii q d
  obtain ⟨caD0, caD1, caD2⟩ := (A4.out.atBox 4 rfl).c3
  go_wp2_with fail
  refine (toDisk_calls p h b P H B _ (RP.out.below A4.out.below) (RH.out.below A4.out.below) (RB.out.below A4.out.below) SZ.out).mono ?_
  rintro e w5 ⟨pz, hz, bz, rfl, d, q⟩
  obtain ⟨apz, cpz, ahz, chz, abz, cbz, rfl, rfl, rfl⟩ := d.sl
  have ltz := q.size
  (try simp only [World.size_alloc] at ltz)
  have A5 := hide ((A4.out.add q (TDsk.st _ _ _ _ _ _) d).box #[.slice apz P.length cpz, .slice ahz H.length chz, .slice abz B.length cbz] 25)
  clear A4 caD0 caD1 caD2 q d
  go_wp2_with fail
  refine (toIntS_calls _ ks _ (RV.out.below A5.out.below) hkl).mono ?_
  rintro e w6 ⟨vj, rfl, o, q⟩
  obtain ⟨aj, cj, rfl⟩ := row_slice o
  have ltj := q.size
  (try simp only [World.size_alloc] at ltj)
  have A6 := hide (A5.out.add q (TInts.st _ _) ⟨o, row_top o⟩)
  clear A5 q o
  obtain ⟨cx00, cx01, cx02⟩ := (A6.out.atBox 1 rfl).c3
  obtain ⟨loz, hiz, dz⟩ := A6.out.get 2 rfl
  have Dz : Hid (DskV _ loz hiz _ _ _ P H B) := dz
  clear dz
  obtain ⟨loj, hij, dj⟩ := A6.out.get 0 rfl
  have Dj : Hid (Own _ loj _ ks) := dj.1
  clear dj
  go_wp2_with fail
  refine (C2.out _ _ _ _ _ Dz.out.rp Dz.out.rh Dz.out.rb Dj.out.rd).mono ?_
  rintro e w7 ⟨pu, hu, bu, rfl, d, q⟩
  obtain ⟨apu, cpu, ahu, chu, abu, cbu, rfl, rfl, rfl⟩ := d.sl
  have ltu := q.size
  (try simp only [World.size_alloc] at ltu)
  have A7 := hide ((A6.out.add q (TDsk.st _ _ _ _ _ _) d).box #[.slice apu X.length cpu, .slice ahu Y.length chu, .slice abu Z.length cbu] 25)
  clear A6 cx00 cx01 cx02 Dz loz hiz Dj loj hij q d
  obtain ⟨cw00, cw01, cw02⟩ := (A7.out.atBox 5 rfl).c3
  obtain ⟨lou, hiu, du⟩ := A7.out.get 1 rfl
  have Du : Hid (DskV _ lou hiu _ _ _ X Y Z) := du
  clear du
  obtain ⟨loyy, hiyy, dyy⟩ := A7.out.get 6 rfl
  have Dyy : Hid (DskV _ loyy hiyy _ _ _ X Y Z) := dyy
  clear dyy
  go_wp2_with fail
  refine (eqDisk_same _ _ _ _ _ _ X Y Z _ Du.out.rp Du.out.rh Du.out.rb Dyy.out.rp Dyy.out.rh Dyy.out.rb).mono ?_
  rintro e w8 ⟨rfl, q⟩
  have A8 := hide (A7.out.step q)
  clear A7 cw00 cw01 cw02 Du lou hiu Dyy loyy hiyy q
  go_wp2
  obtain ⟨lo, hi, dd⟩ := A8.out.get 4 rfl
  have D5 : Hid (DskV _ lo hi _ _ _ P H B) := dd
  clear dd
  have F : Hid (∀ w', Below w8.heap.size w8 w' → (w'.cell? ⟨w.heap.size, 0, none⟩ = some p ∧ w'.cell? ⟨w.heap.size, 1, none⟩ = some h ∧ w'.cell? ⟨w.heap.size, 2, none⟩ = some b) ∧ (w'.cell? ⟨w5.heap.size, 0, none⟩ = some (.slice apz P.length cpz) ∧ w'.cell? ⟨w5.heap.size, 1, none⟩ = some (.slice ahz H.length chz) ∧ w'.cell? ⟨w5.heap.size, 2, none⟩ = some (.slice abz B.length cbz))) :=
    fun w' hb => ⟨((A8.out.step hb).atBox 9 rfl).c3, ((A8.out.step hb).atBox 3 rfl).c3⟩
  go_region_held3 (fun w' => (w'.cell? ⟨w.heap.size, 0, none⟩ = some p ∧ w'.cell? ⟨w.heap.size, 1, none⟩ = some h ∧ w'.cell? ⟨w.heap.size, 2, none⟩ = some b) ∧ (w'.cell? ⟨w5.heap.size, 0, none⟩ = some (.slice apz P.length cpz) ∧ w'.cell? ⟨w5.heap.size, 1, none⟩ = some (.slice ahz H.length chz) ∧ w'.cell? ⟨w5.heap.size, 2, none⟩ = some (.slice abz B.length cbz))) (first | exact F.out _ (Below.refl _ _).drew | exact F.out _ B2.out | exact F.out _ B1.out)
    ((first | (go_at_call 12; refine (eqDisk_same _ _ _ _ _ _ P H B _ (D5.out.below B1.out).rp (D5.out.below B1.out).rh (D5.out.below B1.out).rb D6.out.rp D6.out.rh D6.out.rb).mono ?_; rintro e' wr7 ⟨rfl, b7⟩; have B2 := hide (B1.out.trans (b7.mono B1.out.size)); clear b7) | (go_at_call 17; refine (toDisk_calls p h b P H B _ (RP.out.below (A8.out.step (Below.refl _ _).drew).below) (RH.out.below (A8.out.step (Below.refl _ _).drew).below) (RB.out.below (A8.out.step (Below.refl _ _).drew).below) SZ.out).mono ?_; rintro e' wr6 ⟨p3, h3, b3, rfl, d6, b6⟩; have D6 := hide d6; have B1 := hide ((Below.refl w8.heap.size w8).drew.trans b6); clear b6 d6)))
  have A9 := hide (A8.out.step B2.out)
  clear A8 F B1 B2 D5 D6 lo hi
  go_wp2_with fail
  refine (toIntS_calls _ ks _ (RV.out.below A9.out.below) hkl).mono ?_
  rintro e w10 ⟨vi2, rfl, o, q⟩
  obtain ⟨ai2, ci2, rfl⟩ := row_slice o
  have lti2 := q.size
  (try simp only [World.size_alloc] at lti2)
  have A10 := hide (A9.out.add q (TInts.st _ _) ⟨o, row_top o⟩)
  clear A9 q o
  obtain ⟨loj, hij, dj⟩ := A10.out.get 3 rfl
  have Dj : Hid (Own _ loj _ ks) := dj.1
  clear dj
  obtain ⟨loi2, hii2, di2⟩ := A10.out.get 0 rfl
  have Di2 : Hid (Own _ loi2 _ ks) := di2.1
  clear di2
  go_wp2_with fail
  refine (eqIntS_same _ _ ks _ Dj.out.rd Di2.out.rd).mono ?_
  rintro e w11 ⟨rfl, q⟩
  have A11 := hide (A10.out.step q)
  clear A10 Dj loj hij Di2 loi2 hii2 q
  have zb : P.length ≤ 1048576 ∧ H.length ≤ 1048576 ∧ B.length ≤ 1048576 := SZ.out
  obtain ⟨cx00, cx01, cx02⟩ := (A11.out.atBox 4 rfl).c3
  obtain ⟨loz, hiz, dz, lw, hw, put⟩ := A11.out.open 5 rfl
  have Dz : Hid (DskV _ loz hiz _ _ _ P H B) := dz
  have PUT := hide put
  clear dz put lw
  go_wp2_with fail
  refine (markDisk_calls _ _ _ P H B 1 loz hiz _ Dz.out hw (by omega) (by omega) SZ.out).mono ?_
  rintro e w12 ⟨rfl, d4, q⟩
  have A12 := hide (PUT.out _ (TDsk _ _ _ _ _ _) (TDsk.st _ _ _ _ _ _) d4 q)
  clear A11 cx00 cx01 cx02 Dz loz hiz PUT hw q d4
  obtain ⟨kk, hkk⟩ : ∃ kk : Nat, kk = 1 + P.length + H.length + B.length := ⟨_, rfl⟩
  have kb : kk ≤ 4000000 := by omega
  rw [← hkk]
  clear hkk
  obtain ⟨loj, hij, dj, lw, hw, put⟩ := A12.out.open 3 rfl
  have Dj : Hid (Own _ loj _ ks) := dj.1
  have TDj := hide dj.2
  have PUT := hide put
  clear dj put lw
  go_wp2_with fail
  refine (markIntS_calls _ ks (kk : Int) loj _ Dj.out (by omega) (by omega) hkl).mono ?_
  rintro e w13 ⟨rfl, o4, g4⟩
  have A13 := hide (PUT.out _ (TInts _ _) (TInts.st _ _) ⟨o4, TDj.out⟩ (Chg.ofGrown g4 (fun j hj => ⟨row_low Dj.out j hj, TDj.out j hj⟩)))
  clear A12 TDj Dj loj hij PUT hw o4 g4
  have kn : ¬ (kk : Int) + (ks.length : Int) < 0 := by omega
  obtain ⟨cg00, cg01, cg02⟩ := (A13.out.atBox 1 rfl).c3
  obtain ⟨cw00, cw01, cw02⟩ := (A13.out.atBox 6 rfl).c3
  obtain ⟨lou, hiu, du⟩ := A13.out.get 2 rfl
  have Du : Hid (DskV _ lou hiu _ _ _ X Y Z) := du
  clear du
  obtain ⟨loyy, hiyy, dyy⟩ := A13.out.get 7 rfl
  have Dyy : Hid (DskV _ loyy hiyy _ _ _ X Y Z) := dyy
  clear dyy
  go_wp2_with fail
  refine (eqDisk_same _ _ _ _ _ _ X Y Z _ Du.out.rp Du.out.rh Du.out.rb Dyy.out.rp Dyy.out.rh Dyy.out.rb).mono ?_
  rintro e w14 ⟨rfl, q⟩
  have A14 := hide (A13.out.step q)
  clear A13 cg00 cg01 cg02 cw00 cw01 cw02 Du lou hiu Dyy loyy hiyy q
  obtain ⟨cg00, cg01, cg02⟩ := (A14.out.atBox 1 rfl).c3
  obtain ⟨lou, hiu, du, lw, hw, put⟩ := A14.out.open 2 rfl
  have Du : Hid (DskV _ lou hiu _ _ _ X Y Z) := du
  have PUT := hide put
  clear du put lw
  go_wp2_with fail
  refine (markDisk_calls _ _ _ X Y Z 1 lou hiu _ Du.out hw (by omega) (by omega) SX.out).mono ?_
  rintro e w15 ⟨rfl, d4, q⟩
  have A15 := hide (PUT.out _ (TDsk _ _ _ _ _ _) (TDsk.st _ _ _ _ _ _) d4 q)
  clear A14 cg00 cg01 cg02 Du lou hiu PUT hw q d4
  obtain ⟨cg00, cg01, cg02⟩ := (A15.out.atBox 1 rfl).c3
  obtain ⟨lou, hiu, du⟩ := A15.out.get 2 rfl
  have Du : Hid (DskV _ lou hiu _ _ _ (marksT 1 X.length) (marksT (1 + X.length) Y.length) (marksZ ((1 + X.length + Y.length : Nat) : Int) Z.length)) := du
  clear du
  go_wp2_with fail
  refine (heldDisk_calls _ _ _ X.length Y.length Z.length 1 _ Du.out.rp Du.out.rh Du.out.rb (by omega) (by omega) SX.out.1 SX.out.2.1 SX.out.2.2).mono ?_
  rintro e w16 ⟨rfl, q⟩
  have A16 := hide (A15.out.step q)
  clear A15 cg00 cg01 cg02 Du lou hiu q
  obtain ⟨caD0, caD1, caD2⟩ := (A16.out.atBox 10 rfl).c3
  go_wp2_with fail
  refine (toDisk_calls p h b P H B _ (RP.out.below A16.out.below) (RH.out.below A16.out.below) (RB.out.below A16.out.below) SZ.out).mono ?_
  rintro e w17 ⟨pq1, hq1, bq1, rfl, d, q⟩
  obtain ⟨apq1, cpq1, ahq1, chq1, abq1, cbq1, rfl, rfl, rfl⟩ := d.sl
  have ltq1 := q.size
  (try simp only [World.size_alloc] at ltq1)
  have A17 := hide (A16.out.add q (TDsk.st _ _ _ _ _ _) d)
  clear A16 caD0 caD1 caD2 q d
  go_wp2_with fail
  refine (toIntS_calls _ ks _ (RV.out.below A17.out.below) hkl).mono ?_
  rintro e w18 ⟨vq2, rfl, o, q⟩
  obtain ⟨aq2, cq2, rfl⟩ := row_slice o
  have ltq2 := q.size
  (try simp only [World.size_alloc] at ltq2)
  have A18 := hide (A17.out.add q (TInts.st _ _) ⟨o, row_top o⟩)
  clear A17 q o
  obtain ⟨loq1, hiq1, dq1⟩ := A18.out.get 1 rfl
  have Dq1 : Hid (DskV _ loq1 hiq1 _ _ _ P H B) := dq1
  clear dq1
  obtain ⟨loq2, hiq2, dq2⟩ := A18.out.get 0 rfl
  have Dq2 : Hid (Own _ loq2 _ ks) := dq2.1
  clear dq2
  go_wp2_with fail
  refine (C2.out _ _ _ _ _ Dq1.out.rp Dq1.out.rh Dq1.out.rb Dq2.out.rd).mono ?_
  rintro e w19 ⟨pv, hv, bv, rfl, d, q⟩
  obtain ⟨apv, cpv, ahv, chv, abv, cbv, rfl, rfl, rfl⟩ := d.sl
  have ltv := q.size
  (try simp only [World.size_alloc] at ltv)
  have A19 := hide ((A18.out.add q (TDsk.st _ _ _ _ _ _) d).box #[.slice apv X.length cpv, .slice ahv Y.length chv, .slice abv Z.length cbv] 25)
  clear A18 Dq1 loq1 hiq1 Dq2 loq2 hiq2 q d
  obtain ⟨cw00, cw01, cw02⟩ := (A19.out.atBox 10 rfl).c3
  obtain ⟨lov, hiv, dv⟩ := A19.out.get 1 rfl
  have Dv : Hid (DskV _ lov hiv _ _ _ X Y Z) := dv
  clear dv
  obtain ⟨loyy, hiyy, dyy⟩ := A19.out.get 11 rfl
  have Dyy : Hid (DskV _ loyy hiyy _ _ _ X Y Z) := dyy
  clear dyy
  go_wp2_with fail
  refine (eqDisk_same _ _ _ _ _ _ X Y Z _ Dv.out.rp Dv.out.rh Dv.out.rb Dyy.out.rp Dyy.out.rh Dyy.out.rb).mono ?_
  rintro e w20 ⟨rfl, q⟩
  have A20 := hide (A19.out.step q)
  clear A19 cw00 cw01 cw02 Dv lov hiv Dyy loyy hiyy q
  obtain ⟨cg00, cg01, cg02⟩ := (A20.out.atBox 5 rfl).c3
  obtain ⟨lou, hiu, du⟩ := A20.out.get 6 rfl
  have Du : Hid (DskV _ lou hiu _ _ _ (marksT 1 X.length) (marksT (1 + X.length) Y.length) (marksZ ((1 + X.length + Y.length : Nat) : Int) Z.length)) := du
  clear du
  go_wp2_with fail
  refine (heldDisk_calls _ _ _ X.length Y.length Z.length 1 _ Du.out.rp Du.out.rh Du.out.rb (by omega) (by omega) SX.out.1 SX.out.2.1 SX.out.2.2).mono ?_
  rintro e w21 ⟨rfl, q⟩
  have A21 := hide (A20.out.step q)
  clear A20 cg00 cg01 cg02 Du lou hiu q
  go_wp2
  go_ret
  exact ⟨rfl, A21.out.below⟩
end Go.Proofs.Ytnjpkfgljabdaaa

/-
  The law that holds the program's HeldIn against its model's: at every disk the call returns true, and nothing that was there is written. No condition.
-/
import Derived.Test.YtnjpkfgljabdaaaDhi
namespace Go.Proofs.Ytnjpkfgljabdaaa
open Go.RowKit
set_option linter.unusedVariables false

set_option maxRecDepth 100000 in
set_option maxHeartbeats 1600000 in
theorem fnExactHeldIn_walk (p h b : Value) (P H : List ByteArray) (B : List Bool) (w : World) (hp : RdT w p P) (hh : RdT w h H) (hb : RdZ w b B) :
    Calls Try.prog 8 #[.agg #[p, h, b]] w fun e w' => e = .returned (.bool true) ∧ Below w.heap.size w w' := by
  have RP := hide hp
  have RH := hide hh
  have RB := hide hb
  obtain ⟨g, hg⟩ := gk_bool' P H B
  have C1 := hide (fun V p h b h1 h2 h3 => sHeldIn_calls p h b P H B g V hg h1 h2 h3)
  have C2 := hide (fun V p h b h1 h2 h3 => heldIn_calls p h b P H B g V hg h1 h2 h3)
  have xl := hiL_len hg
  generalize hiL g H = X at C1 C2 xl
  clear hp hh hb hg
  have A0 := hide ((Hand.start w).box #[p, h, b] 31)
  go_enter Try.func8, Try.ntmps8
  go_wp2_with fail
  refine (szDisk_calls p h b P H B _ (RP.out.below A0.out.below) (RH.out.below A0.out.below) (RB.out.below A0.out.below)).mono ?_
  rintro e w1 ⟨⟨r, rfl, hr⟩, q⟩
  have A1 := hide (A0.out.step q)
  clear A0 q
  by_cases r0 : r < 0
  · go_wp2
    go_ret
    exact ⟨rfl, A1.out.below⟩
  have SZ := hide (hr.resolve_left r0).2.2
  have r1 := (hr.resolve_left r0).2.1
  clear hr
  obtain ⟨caD0, caD1, caD2⟩ := (A1.out.atBox 0 rfl).c3
  go_wp2_with fail
  refine (toDisk_calls p h b P H B _ (RP.out.below A1.out.below) (RH.out.below A1.out.below) (RB.out.below A1.out.below) SZ.out).mono ?_
  rintro e w2 ⟨px, hx, bx, rfl, d, q⟩
  obtain ⟨apx, cpx, ahx, chx, abx, cbx, rfl, rfl, rfl⟩ := d.sl
  have ltx := q.size
  (try simp only [World.size_alloc] at ltx)
  have A2 := hide (A1.out.add q (TDsk.st _ _ _ _ _ _) d)
  clear A1 caD0 caD1 caD2 q d
  obtain ⟨lox, hix, dx⟩ := A2.out.get 0 rfl
  have Dx : Hid (DskV _ lox hix _ _ _ P H B) := dx
  clear dx
  go_wp2_with fail
  refine (C1.out _ _ _ _ Dx.out.rp Dx.out.rh Dx.out.rb).mono ?_
  rintro e w3 ⟨vy, rfl, o, q⟩
  obtain ⟨ay, cy, rfl⟩ := row_slice o
  have lty := q.size
  (try simp only [World.size_alloc] at lty)
  have A3 := hide (A2.out.add q (TInts.st _ _) ⟨o, row_top o⟩)
  clear A2 Dx lox hix q o
  obtain ⟨caD0, caD1, caD2⟩ := (A3.out.atBox 2 rfl).c3
  go_wp2_with fail
  refine (toDisk_calls p h b P H B _ (RP.out.below A3.out.below) (RH.out.below A3.out.below) (RB.out.below A3.out.below) SZ.out).mono ?_
  rintro e w4 ⟨pz, hz, bz, rfl, d, q⟩
  obtain ⟨apz, cpz, ahz, chz, abz, cbz, rfl, rfl, rfl⟩ := d.sl
  have ltz := q.size
  (try simp only [World.size_alloc] at ltz)
  have A4 := hide ((A3.out.add q (TDsk.st _ _ _ _ _ _) d).box #[.slice apz P.length cpz, .slice ahz H.length chz, .slice abz B.length cbz] 25)
  clear A3 caD0 caD1 caD2 q d
  obtain ⟨loz, hiz, dz⟩ := A4.out.get 1 rfl
  have Dz : Hid (DskV _ loz hiz _ _ _ P H B) := dz
  clear dz
  go_wp2_with fail
  refine (C2.out _ _ _ _ Dz.out.rp Dz.out.rh Dz.out.rb).mono ?_
  rintro e w5 ⟨vu, rfl, o, q⟩
  obtain ⟨au, cu, rfl⟩ := row_slice o
  have ltu := q.size
  (try simp only [World.size_alloc] at ltu)
  have A5 := hide (A4.out.add q (TInts.st _ _) ⟨o, row_top o⟩)
  clear A4 Dz loz hiz q o
  obtain ⟨lou, hiu, du⟩ := A5.out.get 0 rfl
  have Du : Hid (Own _ lou _ X) := du.1
  clear du
  obtain ⟨loy, hiy, dy⟩ := A5.out.get 3 rfl
  have Dy : Hid (Own _ loy _ X) := dy.1
  clear dy
  go_wp2_with fail
  refine (eqIntS_same _ _ X _ Du.out.rd Dy.out.rd).mono ?_
  rintro e w6 ⟨rfl, q⟩
  have A6 := hide (A5.out.step q)
  clear A5 Du lou hiu Dy loy hiy q
  go_wp2
  obtain ⟨lo, hi, dd⟩ := A6.out.get 2 rfl
  have D5 : Hid (DskV _ lo hi _ _ _ P H B) := dd
  clear dd
  have F : Hid (∀ w', Below w6.heap.size w6 w' → (w'.cell? ⟨w.heap.size, 0, none⟩ = some p ∧ w'.cell? ⟨w.heap.size, 1, none⟩ = some h ∧ w'.cell? ⟨w.heap.size, 2, none⟩ = some b) ∧ (w'.cell? ⟨w4.heap.size, 0, none⟩ = some (.slice apz P.length cpz) ∧ w'.cell? ⟨w4.heap.size, 1, none⟩ = some (.slice ahz H.length chz) ∧ w'.cell? ⟨w4.heap.size, 2, none⟩ = some (.slice abz B.length cbz))) :=
    fun w' hb => ⟨((A6.out.step hb).atBox 5 rfl).c3, ((A6.out.step hb).atBox 1 rfl).c3⟩
  go_region_held3 (fun w' => (w'.cell? ⟨w.heap.size, 0, none⟩ = some p ∧ w'.cell? ⟨w.heap.size, 1, none⟩ = some h ∧ w'.cell? ⟨w.heap.size, 2, none⟩ = some b) ∧ (w'.cell? ⟨w4.heap.size, 0, none⟩ = some (.slice apz P.length cpz) ∧ w'.cell? ⟨w4.heap.size, 1, none⟩ = some (.slice ahz H.length chz) ∧ w'.cell? ⟨w4.heap.size, 2, none⟩ = some (.slice abz B.length cbz))) (first | exact F.out _ (Below.refl _ _).drew | exact F.out _ B2.out | exact F.out _ B1.out)
    ((first | (go_at_call 12; refine (eqDisk_same _ _ _ _ _ _ P H B _ (D5.out.below B1.out).rp (D5.out.below B1.out).rh (D5.out.below B1.out).rb D6.out.rp D6.out.rh D6.out.rb).mono ?_; rintro e' wr7 ⟨rfl, b7⟩; have B2 := hide (B1.out.trans (b7.mono B1.out.size)); clear b7) | (go_at_call 17; refine (toDisk_calls p h b P H B _ (RP.out.below (A6.out.step (Below.refl _ _).drew).below) (RH.out.below (A6.out.step (Below.refl _ _).drew).below) (RB.out.below (A6.out.step (Below.refl _ _).drew).below) SZ.out).mono ?_; rintro e' wr6 ⟨p3, h3, b3, rfl, d6, b6⟩; have D6 := hide d6; have B1 := hide ((Below.refl w6.heap.size w6).drew.trans b6); clear b6 d6)))
  have A7 := hide (A6.out.step B2.out)
  clear A6 F B1 B2 D5 D6 lo hi
  obtain ⟨cx00, cx01, cx02⟩ := (A7.out.atBox 1 rfl).c3
  obtain ⟨loz, hiz, dz, lw, hw, put⟩ := A7.out.open 2 rfl
  have Dz : Hid (DskV _ loz hiz _ _ _ P H B) := dz
  have PUT := hide put
  clear dz put lw
  go_wp2_with fail
  refine (markDisk_calls _ _ _ P H B 1 loz hiz _ Dz.out hw (by omega) (by omega) SZ.out).mono ?_
  rintro e w8 ⟨rfl, d4, q⟩
  have A8 := hide (PUT.out _ (TDsk _ _ _ _ _ _) (TDsk.st _ _ _ _ _ _) d4 q)
  clear A7 cx00 cx01 cx02 Dz loz hiz PUT hw q d4
  have kk : ¬ ((1 + P.length + H.length + B.length : Nat) : Int) < 0 := by omega
  obtain ⟨lou, hiu, du⟩ := A8.out.get 0 rfl
  have Du : Hid (Own _ lou _ X) := du.1
  clear du
  obtain ⟨loy, hiy, dy⟩ := A8.out.get 3 rfl
  have Dy : Hid (Own _ loy _ X) := dy.1
  clear dy
  go_wp2_with fail
  refine (eqIntS_same _ _ X _ Du.out.rd Dy.out.rd).mono ?_
  rintro e w9 ⟨rfl, q⟩
  have A9 := hide (A8.out.step q)
  clear A8 Du lou hiu Dy loy hiy q
  obtain ⟨lou, hiu, du, lw, hw, put⟩ := A9.out.open 0 rfl
  have Du : Hid (Own _ lou _ X) := du.1
  have TDu := hide du.2
  have PUT := hide put
  clear du put lw
  go_wp2_with fail
  refine (markIntS_calls _ X 1 lou _ Du.out (by omega) (by omega) (by omega)).mono ?_
  rintro e w10 ⟨rfl, o4, g4⟩
  have A10 := hide (PUT.out _ (TInts _ _) (TInts.st _ _) ⟨o4, TDu.out⟩ (Chg.ofGrown g4 (fun j hj => ⟨row_low Du.out j hj, TDu.out j hj⟩)))
  clear A9 TDu Du lou hiu PUT hw o4 g4
  obtain ⟨lou, hiu, du⟩ := A10.out.get 0 rfl
  have Du : Hid (Own _ lou _ (marks 1 X.length)) := du.1
  clear du
  go_wp2_with fail
  refine (heldIntS_calls _ X.length 1 _ Du.out.rd (by omega) (by omega) (by omega)).mono ?_
  rintro e w11 ⟨rfl, rfl⟩
  clear Du lou hiu
  obtain ⟨caD0, caD1, caD2⟩ := (A10.out.atBox 5 rfl).c3
  go_wp2_with fail
  refine (toDisk_calls p h b P H B _ (RP.out.below A10.out.below) (RH.out.below A10.out.below) (RB.out.below A10.out.below) SZ.out).mono ?_
  rintro e w12 ⟨pq1, hq1, bq1, rfl, d, q⟩
  obtain ⟨apq1, cpq1, ahq1, chq1, abq1, cbq1, rfl, rfl, rfl⟩ := d.sl
  have ltq1 := q.size
  (try simp only [World.size_alloc] at ltq1)
  have A12 := hide (A10.out.add q (TDsk.st _ _ _ _ _ _) d)
  clear A10 caD0 caD1 caD2 q d
  obtain ⟨loq1, hiq1, dq1⟩ := A12.out.get 0 rfl
  have Dq1 : Hid (DskV _ loq1 hiq1 _ _ _ P H B) := dq1
  clear dq1
  go_wp2_with fail
  refine (C2.out _ _ _ _ Dq1.out.rp Dq1.out.rh Dq1.out.rb).mono ?_
  rintro e w13 ⟨vv, rfl, o, q⟩
  obtain ⟨av, cv, rfl⟩ := row_slice o
  have ltv := q.size
  (try simp only [World.size_alloc] at ltv)
  have A13 := hide (A12.out.add q (TInts.st _ _) ⟨o, row_top o⟩)
  clear A12 Dq1 loq1 hiq1 q o
  obtain ⟨lov, hiv, dv⟩ := A13.out.get 0 rfl
  have Dv : Hid (Own _ lov _ X) := dv.1
  clear dv
  obtain ⟨loy, hiy, dy⟩ := A13.out.get 5 rfl
  have Dy : Hid (Own _ loy _ X) := dy.1
  clear dy
  go_wp2_with fail
  refine (eqIntS_same _ _ X _ Dv.out.rd Dy.out.rd).mono ?_
  rintro e w14 ⟨rfl, q⟩
  have A14 := hide (A13.out.step q)
  clear A13 Dv lov hiv Dy loy hiy q
  obtain ⟨lou, hiu, du⟩ := A14.out.get 2 rfl
  have Du : Hid (Own _ lou _ (marks 1 X.length)) := du.1
  clear du
  go_wp2_with fail
  refine (heldIntS_calls _ X.length 1 _ Du.out.rd (by omega) (by omega) (by omega)).mono ?_
  rintro e w15 ⟨rfl, rfl⟩
  clear Du lou hiu
  go_wp2
  go_ret
  exact ⟨rfl, A14.out.below⟩
end Go.Proofs.Ytnjpkfgljabdaaa

/-
  The law that holds the program's HealthOf against its model's: at every disk and numbers the call returns true, and nothing that was there is written. No condition.
-/
import Derived.Test.YtiojipicincgfaaShw
namespace Go.Proofs.Ytiojipicincgfaa
open Go.RowKit
set_option linter.unusedVariables false

set_option maxRecDepth 100000 in
set_option maxHeartbeats 1600000 in
theorem fnExactHealthOf_walk (p h b : Value) (P H : List ByteArray) (B : List Bool) (A least : Int) (w : World) (hp : RdT w p P) (hh : RdT w h H) (hb : RdZ w b B) (hA : (Lit.int .i64 A).wf = true) (hL : (Lit.int .i64 least).wf = true) :
    Calls Try.prog 3 #[.agg #[p, h, b], .int .i64 A, .int .i64 least] w fun e w' => e = .returned (.bool true) ∧ Below w.heap.size w w' := by
  have RP := hide hp
  have RH := hide hh
  have RB := hide hb
  obtain ⟨f, hf⟩ := ft_bool P H B A
  have C1 := hide (fun V p h b h1 h2 h3 => sHealthOf_calls p h b P H B A least f V hf hA h1 h2 h3)
  have C2 := hide (fun V p h b h1 h2 h3 => healthOf_calls p h b P H B A least f V hf hA h1 h2 h3)
  have xl := hlX_le f P H B least A
  have yl := hlY_le f P H B least A
  generalize hlW f P H B least A = ww at C1 C2
  generalize hlX f P H B least A = X at C1 C2 xl
  generalize hlY f P H B least A = Y at C1 C2 yl
  clear hp hh hb hf
  have A0 := hide ((Hand.start w).box #[p, h, b] 25)
  go_enter Try.func3, Try.ntmps3
  go_wp2_with fail
  refine (szDisk_calls p h b P H B _ (RP.out.below A0.out.below) (RH.out.below A0.out.below) (RB.out.below A0.out.below)).mono ?_
  rintro e w1 ⟨⟨r, rfl, hr⟩, q⟩
  have A1 := hide (A0.out.step q)
  clear A0 q
  by_cases r0 : r < 0
  · go_wp2
    go_ret
    exact ⟨rfl, A1.out.below⟩
  have SZ := hide (hr.resolve_left r0).2.2
  have r1 := (hr.resolve_left r0).2.1
  clear hr
  obtain ⟨caD0, caD1, caD2⟩ := (A1.out.atBox 0 rfl).c3
  go_wp2_with fail
  refine (toDisk_calls p h b P H B _ (RP.out.below A1.out.below) (RH.out.below A1.out.below) (RB.out.below A1.out.below) SZ.out).mono ?_
  rintro e w2 ⟨px, hx, bx, rfl, d, q⟩
  obtain ⟨apx, cpx, ahx, chx, abx, cbx, rfl, rfl, rfl⟩ := d.sl
  have ltx := q.size
  (try simp only [World.size_alloc] at ltx)
  have A2 := hide (A1.out.add q (TDsk.st _ _ _ _ _ _) d)
  clear A1 caD0 caD1 caD2 q d
  obtain ⟨lox, hix, dx⟩ := A2.out.get 0 rfl
  have Dx : Hid (DskV _ lox hix _ _ _ P H B) := dx
  clear dx
  go_wp2_with fail
  refine (C1.out _ _ _ _ Dx.out.rp Dx.out.rh Dx.out.rb).mono ?_
  rintro e w3 ⟨vl, vs, rfl, tw, q⟩
  obtain ⟨aly, cly, rfl⟩ := row_slice tw.a
  obtain ⟨asy, csy, rfl⟩ := row_slice tw.b
  have lty := q.size
  (try simp only [World.size_alloc] at lty)
  have A3 := hide ((A2.out.add q (TTwo.st _ _ _ _) tw).box #[.slice aly X.length cly, .slice asy Y.length csy, .bool ww] 29)
  clear A2 Dx lox hix q tw
  obtain ⟨caD0, caD1, caD2⟩ := (A3.out.atBox 3 rfl).c3
  go_wp2_with fail
  refine (toDisk_calls p h b P H B _ (RP.out.below A3.out.below) (RH.out.below A3.out.below) (RB.out.below A3.out.below) SZ.out).mono ?_
  rintro e w4 ⟨pz, hz, bz, rfl, d, q⟩
  obtain ⟨apz, cpz, ahz, chz, abz, cbz, rfl, rfl, rfl⟩ := d.sl
  have ltz := q.size
  (try simp only [World.size_alloc] at ltz)
  have A4 := hide ((A3.out.add q (TDsk.st _ _ _ _ _ _) d).box #[.slice apz P.length cpz, .slice ahz H.length chz, .slice abz B.length cbz] 32)
  clear A3 caD0 caD1 caD2 q d
  obtain ⟨loz, hiz, dz⟩ := A4.out.get 1 rfl
  have Dz : Hid (DskV _ loz hiz _ _ _ P H B) := dz
  clear dz
  go_wp2_with fail
  refine (C2.out _ _ _ _ Dz.out.rp Dz.out.rh Dz.out.rb).mono ?_
  rintro e w5 ⟨vl, vs, rfl, tw, q⟩
  obtain ⟨alu, clu, rfl⟩ := row_slice tw.a
  obtain ⟨asu, csu, rfl⟩ := row_slice tw.b
  have ltu := q.size
  (try simp only [World.size_alloc] at ltu)
  have A5 := hide ((A4.out.add q (TTwo.st _ _ _ _) tw).box #[.slice alu X.length clu, .slice asu Y.length csu, .bool ww] 29)
  clear A4 Dz loz hiz q tw
  obtain ⟨cg00, cg01, cg02⟩ := (A5.out.atBox 0 rfl).c3
  obtain ⟨cw00, cw01, cw02⟩ := (A5.out.atBox 4 rfl).c3
  obtain ⟨lou, hiu, du⟩ := A5.out.get 1 rfl
  have Du : Hid (Two _ lou hiu _ _ X Y) := du
  clear du
  obtain ⟨loy, hiy, dy⟩ := A5.out.get 5 rfl
  have Dy : Hid (Two _ loy hiy _ _ X Y) := dy
  clear dy
  go_wp2_with fail
  refine (eqHealth_same _ _ _ _ X Y ww _ Du.out.a.rd Du.out.b.rd Dy.out.a.rd Dy.out.b.rd).mono ?_
  rintro e w6 ⟨rfl, q⟩
  have A6 := hide (A5.out.step q)
  clear A5 cg00 cg01 cg02 cw00 cw01 cw02 Du lou hiu Dy loy hiy q
  go_wp2
  obtain ⟨lo, hi, dd⟩ := A6.out.get 3 rfl
  have D5 : Hid (DskV _ lo hi _ _ _ P H B) := dd
  clear dd
  have F : Hid (∀ w', Below w6.heap.size w6 w' → (w'.cell? ⟨w.heap.size, 0, none⟩ = some p ∧ w'.cell? ⟨w.heap.size, 1, none⟩ = some h ∧ w'.cell? ⟨w.heap.size, 2, none⟩ = some b) ∧ (w'.cell? ⟨w4.heap.size, 0, none⟩ = some (.slice apz P.length cpz) ∧ w'.cell? ⟨w4.heap.size, 1, none⟩ = some (.slice ahz H.length chz) ∧ w'.cell? ⟨w4.heap.size, 2, none⟩ = some (.slice abz B.length cbz))) :=
    fun w' hb => ⟨((A6.out.step hb).atBox 7 rfl).c3, ((A6.out.step hb).atBox 2 rfl).c3⟩
  go_region_held3 (fun w' => (w'.cell? ⟨w.heap.size, 0, none⟩ = some p ∧ w'.cell? ⟨w.heap.size, 1, none⟩ = some h ∧ w'.cell? ⟨w.heap.size, 2, none⟩ = some b) ∧ (w'.cell? ⟨w4.heap.size, 0, none⟩ = some (.slice apz P.length cpz) ∧ w'.cell? ⟨w4.heap.size, 1, none⟩ = some (.slice ahz H.length chz) ∧ w'.cell? ⟨w4.heap.size, 2, none⟩ = some (.slice abz B.length cbz))) (first | exact F.out _ (Below.refl _ _).drew | exact F.out _ B2.out | exact F.out _ B1.out)
    ((first | (go_at_call 10; refine (eqDisk_same _ _ _ _ _ _ P H B _ (D5.out.below B1.out).rp (D5.out.below B1.out).rh (D5.out.below B1.out).rb D6.out.rp D6.out.rh D6.out.rb).mono ?_; rintro e' wr7 ⟨rfl, b7⟩; have B2 := hide (B1.out.trans (b7.mono B1.out.size)); clear b7) | (go_at_call 7; refine (toDisk_calls p h b P H B _ (RP.out.below (A6.out.step (Below.refl _ _).drew).below) (RH.out.below (A6.out.step (Below.refl _ _).drew).below) (RB.out.below (A6.out.step (Below.refl _ _).drew).below) SZ.out).mono ?_; rintro e' wr6 ⟨p3, h3, b3, rfl, d6, b6⟩; have D6 := hide d6; have B1 := hide ((Below.refl w6.heap.size w6).drew.trans b6); clear b6 d6)))
  have A7 := hide (A6.out.step B2.out)
  clear A6 F B1 B2 D5 D6 lo hi
  obtain ⟨cx00, cx01, cx02⟩ := (A7.out.atBox 2 rfl).c3
  obtain ⟨loz, hiz, dz, lw, hw, put⟩ := A7.out.open 3 rfl
  have Dz : Hid (DskV _ loz hiz _ _ _ P H B) := dz
  have PUT := hide put
  clear dz put lw
  go_wp2_with fail
  refine (markDisk_calls _ _ _ P H B 1 loz hiz _ Dz.out hw (by omega) (by omega) SZ.out).mono ?_
  rintro e w8 ⟨rfl, d4, q⟩
  have A8 := hide (PUT.out _ (TDsk _ _ _ _ _ _) (TDsk.st _ _ _ _ _ _) d4 q)
  clear A7 cx00 cx01 cx02 Dz loz hiz PUT hw q d4
  have kk : ¬ ((1 + P.length + H.length + B.length : Nat) : Int) < 0 := by omega
  obtain ⟨cg00, cg01, cg02⟩ := (A8.out.atBox 0 rfl).c3
  obtain ⟨cw00, cw01, cw02⟩ := (A8.out.atBox 4 rfl).c3
  obtain ⟨lou, hiu, du⟩ := A8.out.get 1 rfl
  have Du : Hid (Two _ lou hiu _ _ X Y) := du
  clear du
  obtain ⟨loy, hiy, dy⟩ := A8.out.get 5 rfl
  have Dy : Hid (Two _ loy hiy _ _ X Y) := dy
  clear dy
  go_wp2_with fail
  refine (eqHealth_same _ _ _ _ X Y ww _ Du.out.a.rd Du.out.b.rd Dy.out.a.rd Dy.out.b.rd).mono ?_
  rintro e w9 ⟨rfl, q⟩
  have A9 := hide (A8.out.step q)
  clear A8 cg00 cg01 cg02 cw00 cw01 cw02 Du lou hiu Dy loy hiy q
  obtain ⟨cg00, cg01, cg02⟩ := (A9.out.atBox 0 rfl).c3
  obtain ⟨lou, hiu, du, lw, hw, put⟩ := A9.out.open 1 rfl
  have Du : Hid (Two _ lou hiu _ _ X Y) := du
  have PUT := hide put
  clear du put lw
  go_wp2_with fail
  refine (markHealth_calls _ _ X Y ww 1 lou hiu _ Du.out hw (by omega) (by omega) (by omega) (by omega)).mono ?_
  rintro e w10 ⟨rfl, d4, q⟩
  have A10 := hide (PUT.out _ (TTwo _ _ _ _) (TTwo.st _ _ _ _) d4 q)
  clear A9 cg00 cg01 cg02 Du lou hiu PUT hw q d4
  obtain ⟨cg00, cg01, cg02⟩ := (A10.out.atBox 0 rfl).c3
  obtain ⟨lou, hiu, du⟩ := A10.out.get 1 rfl
  have Du : Hid (Two _ lou hiu _ _ (marks 1 X.length) (marks (1 + X.length) Y.length)) := du
  clear du
  go_wp2_with fail
  refine (heldHealth_calls _ _ X.length Y.length ww 1 _ Du.out.a.rd Du.out.b.rd (by omega) (by omega) (by omega) (by omega)).mono ?_
  rintro e w11 ⟨rfl, q⟩
  have A11 := hide (A10.out.step q)
  clear A10 cg00 cg01 cg02 Du lou hiu q
  obtain ⟨caD0, caD1, caD2⟩ := (A11.out.atBox 7 rfl).c3
  go_wp2_with fail
  refine (toDisk_calls p h b P H B _ (RP.out.below A11.out.below) (RH.out.below A11.out.below) (RB.out.below A11.out.below) SZ.out).mono ?_
  rintro e w12 ⟨pq1, hq1, bq1, rfl, d, q⟩
  obtain ⟨apq1, cpq1, ahq1, chq1, abq1, cbq1, rfl, rfl, rfl⟩ := d.sl
  have ltq1 := q.size
  (try simp only [World.size_alloc] at ltq1)
  have A12 := hide (A11.out.add q (TDsk.st _ _ _ _ _ _) d)
  clear A11 caD0 caD1 caD2 q d
  obtain ⟨loq1, hiq1, dq1⟩ := A12.out.get 0 rfl
  have Dq1 : Hid (DskV _ loq1 hiq1 _ _ _ P H B) := dq1
  clear dq1
  go_wp2_with fail
  refine (C2.out _ _ _ _ Dq1.out.rp Dq1.out.rh Dq1.out.rb).mono ?_
  rintro e w13 ⟨vl, vs, rfl, tw, q⟩
  obtain ⟨alv, clv, rfl⟩ := row_slice tw.a
  obtain ⟨asv, csv, rfl⟩ := row_slice tw.b
  have ltv := q.size
  (try simp only [World.size_alloc] at ltv)
  have A13 := hide ((A12.out.add q (TTwo.st _ _ _ _) tw).box #[.slice alv X.length clv, .slice asv Y.length csv, .bool ww] 29)
  clear A12 Dq1 loq1 hiq1 q tw
  obtain ⟨ch00, ch01, ch02⟩ := (A13.out.atBox 0 rfl).c3
  obtain ⟨cw00, cw01, cw02⟩ := (A13.out.atBox 7 rfl).c3
  obtain ⟨lov, hiv, dv⟩ := A13.out.get 1 rfl
  have Dv : Hid (Two _ lov hiv _ _ X Y) := dv
  clear dv
  obtain ⟨loy, hiy, dy⟩ := A13.out.get 8 rfl
  have Dy : Hid (Two _ loy hiy _ _ X Y) := dy
  clear dy
  go_wp2_with fail
  refine (eqHealth_same _ _ _ _ X Y ww _ Dv.out.a.rd Dv.out.b.rd Dy.out.a.rd Dy.out.b.rd).mono ?_
  rintro e w14 ⟨rfl, q⟩
  have A14 := hide (A13.out.step q)
  clear A13 ch00 ch01 ch02 cw00 cw01 cw02 Dv lov hiv Dy loy hiy q
  obtain ⟨cg00, cg01, cg02⟩ := (A14.out.atBox 3 rfl).c3
  obtain ⟨lou, hiu, du⟩ := A14.out.get 4 rfl
  have Du : Hid (Two _ lou hiu _ _ (marks 1 X.length) (marks (1 + X.length) Y.length)) := du
  clear du
  go_wp2_with fail
  refine (heldHealth_calls _ _ X.length Y.length ww 1 _ Du.out.a.rd Du.out.b.rd (by omega) (by omega) (by omega) (by omega)).mono ?_
  rintro e w15 ⟨rfl, q⟩
  have A15 := hide (A14.out.step q)
  clear A14 cg00 cg01 cg02 Du lou hiu q
  go_wp2
  go_ret
  exact ⟨rfl, A15.out.below⟩
end Go.Proofs.Ytiojipicincgfaa

/-
  The law that holds the program's RewriteAt against its model's: at every scrub, number and text the call returns true, and nothing that was there is written. The program's table of rests must hold its seven numbers.
-/
import Derived.Test.YtbgadbokejaomaaGreatDoorRewriteAtB32
import Derived.Deep.RegionHeld3
namespace Go.Proofs.YtbgadbokejaomaaGreatDoor
open Go.RowKit
set_option linter.unusedVariables false
set_option linter.unusedSimpArgs false

theorem rw_sz {P H : List ByteArray} {B : List Bool} {es : List Int} {cu me K : Int} {T : ByteArray} {ok : Bool} (h : ok = true ↔ rwQ P H B es cu me K T) : SzSc (ifS ok (rwP P H es K T)) (ifS ok (crH (rwH H es K T))) (ifS ok B) (ifS ok (rwE es K)) := by
  cases ok with
  | false => simp [SzSc, SzD, ifS]
  | true =>
    obtain ⟨⟨⟨n14, _, n5, gk, _⟩, _⟩, _⟩ := h.1 rfl
    have l1 := gk.1
    have l2 := gk.2.1
    have l3 := gk.2.2.1
    have l4 : (rwH H es K T).length = H.length := wsH_len _ _ _ _
    simp only [SzSc, SzD, ifS, if_true, rwP, crP_len, crH, List.length_map, rwE, List.length_set, List.length_replicate]
    omega

set_option maxRecDepth 100000 in
set_option maxHeartbeats 3200000 in
theorem fnExactRewriteAt_walk (p h b e : Value) (cu me : Int) (P H : List ByteArray) (B : List Bool) (es : List Int) (K : Int) (T : ByteArray) (w : World) (hT : Gf.Tab w) (d : RdSc w p h b e P H B es) (hwf : (Lit.int .i64 K).wf = true) (hS : T.size ≤ maxLen) :
    Calls Tryz.prog 8 #[.agg (scC p h b e cu me), .int .i64 K, .string T] w fun x w' => x = .returned (.bool true) ∧ Below w.heap.size w w' := by
  have D := hide d
  clear d
  have TT := hide hT
  obtain ⟨ok, hok⟩ := bol_exS (rwQ P H B es cu me K T)
  have C1 := hide (fun W p h b e q => sRewriteAt_calls p h b e cu me P H B es K T ok W q hok hS)
  have C2 := hide (fun W p h b e q0 q => rewriteAt_calls p h b e cu me P H B es K T ok W q0 q hok hS)
  have XZ := hide (rw_sz hok)
  have ms := hS
  unfold maxLen at ms
  clear hok hS hT
  generalize ifS ok (rwP P H es K T) = XP at C1 C2 XZ
  generalize ifS ok (crH (rwH H es K T)) = XH at C1 C2 XZ
  generalize ifS ok B = XB at C1 C2 XZ
  generalize ifS ok (rwE es K) = XE at C1 C2 XZ
  generalize ifI ok cu = xcu at C1 C2
  generalize ifI ok me = xme at C1 C2
  have A0 := hide ((Hand.start w).box (scC p h b e cu me) 39)
  go_enter Tryz.func8, Tryz.ntmps8
  by_cases ns : T.size ≤ 1048576
  case neg =>
    have ns1 : (1048576 : Int) < (T.size : Int) := by omega
    go_wp2
    go_ret
    exact ⟨rfl, A0.out.below⟩
  have ns2 : ¬ (1048576 : Int) < (T.size : Int) := by omega
  obtain ⟨caS0, caS1, caS2, caS3, caS4, caS5⟩ := (A0.out.atBox 0 rfl).c6
  go_wp2_with fail
  refine (szScrub_calls p h b e cu me P H B es _ (D.out.below A0.out.below)).mono ?_
  rintro e w1 ⟨⟨r, rfl, hr⟩, q⟩
  have A1 := hide (A0.out.step q)
  clear A0 caS0 caS1 caS2 caS3 caS4 caS5 q
  by_cases r0 : r < 0
  · go_wp2
    go_ret
    exact ⟨rfl, A1.out.below⟩
  have SZ := hide (hr.resolve_left r0).2.2
  have r1 := (hr.resolve_left r0).2.1
  clear hr
  obtain ⟨caS0, caS1, caS2, caS3, caS4, caS5⟩ := (A1.out.atBox 0 rfl).c6
  go_wp2_with fail
  refine (toScrub_calls p h b e cu me P H B es _ (D.out.below A1.out.below) SZ.out).mono ?_
  rintro e w2 ⟨ps, hs, bs, es, rfl, d, q⟩
  obtain ⟨aps, cps, ahs, chs, abs, cbs, aes, ces, rfl, rfl, rfl, rfl⟩ := d.sl
  have A2 := hide (A1.out.add q (TSrb.st _ _ _ _ _ _ _ _) d)
  clear A1 caS0 caS1 caS2 caS3 caS4 caS5 q d
  obtain ⟨los, his, ds⟩ := A2.out.get 0 rfl
  have Ds : Hid (SrbV _ los his _ _ _ _ P H B es) := ds
  clear ds
  go_wp2_with fail
  refine (C1.out _ _ _ _ _ Ds.out.rd).mono ?_
  rintro e w3 ⟨pj, hj, bj, ej, rfl, d, q⟩
  obtain ⟨apj, cpj, ahj, chj, abj, cbj, aej, cej, rfl, rfl, rfl, rfl⟩ := d.sl
  have A3 := hide ((A2.out.add q (TSrb.st _ _ _ _ _ _ _ _) d).box (scC (.slice apj XP.length cpj) (.slice ahj XH.length chj) (.slice abj XB.length cbj) (.slice aej XE.length cej) xcu xme) 29)
  clear A2 Ds los his q d
  obtain ⟨caS0, caS1, caS2, caS3, caS4, caS5⟩ := (A3.out.atBox 3 rfl).c6
  go_wp2_with fail
  refine (toScrub_calls p h b e cu me P H B es _ (D.out.below A3.out.below) SZ.out).mono ?_
  rintro e w4 ⟨px, hx, bx, ex, rfl, d, q⟩
  obtain ⟨apx, cpx, ahx, chx, abx, cbx, aex, cex, rfl, rfl, rfl, rfl⟩ := d.sl
  have A4 := hide ((A3.out.add q (TSrb.st _ _ _ _ _ _ _ _) d).box (scC (.slice apx P.length cpx) (.slice ahx H.length chx) (.slice abx B.length cbx) (.slice aex es.length cex) cu me) 29)
  clear A3 caS0 caS1 caS2 caS3 caS4 caS5 q d
  obtain ⟨cbx0, cbx1, cbx2, cbx3, cbx4, cbx5⟩ := (A4.out.atBox 0 rfl).c6
  obtain ⟨lox, hix, dx⟩ := A4.out.get 1 rfl
  have Dx : Hid (SrbV _ lox hix _ _ _ _ P H B es) := dx
  clear dx
  go_wp2_with fail
  refine (C2.out _ _ _ _ _ (Gf.Tab.below TT.out A4.out.below) Dx.out.rd).mono ?_
  rintro e w5 ⟨pg, hg, bg, eg, rfl, d, q⟩
  obtain ⟨apg, cpg, ahg, chg, abg, cbg, aeg, ceg, rfl, rfl, rfl, rfl⟩ := d.sl
  have A5 := hide ((A4.out.add q (TSrb.st _ _ _ _ _ _ _ _) d).box (scC (.slice apg XP.length cpg) (.slice ahg XH.length chg) (.slice abg XB.length cbg) (.slice aeg XE.length ceg) xcu xme) 29)
  clear A4 cbx0 cbx1 cbx2 cbx3 cbx4 cbx5 Dx lox hix q d
  have ee : (ok != ok) = false := by simp
  obtain ⟨cbg0, cbg1, cbg2, cbg3, cbg4, cbg5⟩ := (A5.out.atBox 0 rfl).c6
  obtain ⟨cvj0, cvj1, cvj2, cvj3, cvj4, cvj5⟩ := (A5.out.atBox 4 rfl).c6
  obtain ⟨log, hig, dg⟩ := A5.out.get 1 rfl
  have Dg : Hid (SrbV _ log hig _ _ _ _ XP XH XB XE) := dg
  clear dg
  obtain ⟨loj, hij, dj⟩ := A5.out.get 5 rfl
  have Dj : Hid (SrbV _ loj hij _ _ _ _ XP XH XB XE) := dj
  clear dj
  go_wp2_with fail
  refine (eqScrub_same _ _ _ _ _ _ _ _ xcu xme XP XH XB XE _ Dg.out.rd Dj.out.rd).mono ?_
  rintro e w6 ⟨rfl, q⟩
  have A6 := hide (A5.out.step q)
  clear A5 cbg0 cbg1 cbg2 cbg3 cbg4 cbg5 cvj0 cvj1 cvj2 cvj3 cvj4 cvj5 Dg log hig Dj loj hij q
  go_wp2
  obtain ⟨lo5, hi5, dd⟩ := A6.out.get 3 rfl
  have D5 : Hid (SrbV _ lo5 hi5 _ _ _ _ P H B es) := dd
  clear dd
  have F : Hid (∀ w', Below w6.heap.size w6 w' → (w'.cell? ⟨w.heap.size, 0, none⟩ = some p ∧ w'.cell? ⟨w.heap.size, 1, none⟩ = some h ∧ w'.cell? ⟨w.heap.size, 2, none⟩ = some b ∧ w'.cell? ⟨w.heap.size, 3, none⟩ = some e ∧ w'.cell? ⟨w.heap.size, 4, none⟩ = some (.int .i64 cu) ∧ w'.cell? ⟨w.heap.size, 5, none⟩ = some (.int .i64 me)) ∧ (w'.cell? ⟨w4.heap.size, 0, none⟩ = some (.slice apx P.length cpx) ∧ w'.cell? ⟨w4.heap.size, 1, none⟩ = some (.slice ahx H.length chx) ∧ w'.cell? ⟨w4.heap.size, 2, none⟩ = some (.slice abx B.length cbx) ∧ w'.cell? ⟨w4.heap.size, 3, none⟩ = some (.slice aex es.length cex) ∧ w'.cell? ⟨w4.heap.size, 4, none⟩ = some (.int .i64 cu) ∧ w'.cell? ⟨w4.heap.size, 5, none⟩ = some (.int .i64 me))) :=
    fun w' hb => ⟨((A6.out.step hb).atBox 7 rfl).c6, ((A6.out.step hb).atBox 2 rfl).c6⟩
  go_region_held3 (fun w' => (w'.cell? ⟨w.heap.size, 0, none⟩ = some p ∧ w'.cell? ⟨w.heap.size, 1, none⟩ = some h ∧ w'.cell? ⟨w.heap.size, 2, none⟩ = some b ∧ w'.cell? ⟨w.heap.size, 3, none⟩ = some e ∧ w'.cell? ⟨w.heap.size, 4, none⟩ = some (.int .i64 cu) ∧ w'.cell? ⟨w.heap.size, 5, none⟩ = some (.int .i64 me)) ∧ (w'.cell? ⟨w4.heap.size, 0, none⟩ = some (.slice apx P.length cpx) ∧ w'.cell? ⟨w4.heap.size, 1, none⟩ = some (.slice ahx H.length chx) ∧ w'.cell? ⟨w4.heap.size, 2, none⟩ = some (.slice abx B.length cbx) ∧ w'.cell? ⟨w4.heap.size, 3, none⟩ = some (.slice aex es.length cex) ∧ w'.cell? ⟨w4.heap.size, 4, none⟩ = some (.int .i64 cu) ∧ w'.cell? ⟨w4.heap.size, 5, none⟩ = some (.int .i64 me))) (first | exact F.out _ (Below.refl _ _).drew | exact F.out _ B2.out | exact F.out _ B1.out)
    ((first | (go_at_call 17; refine (eqScrub_same _ _ _ _ _ _ _ _ cu me P H B es _ (D5.out.below B1.out).rd D6.out.rd).mono ?_; rintro e' wr7 ⟨rfl, b7⟩; have B2 := hide (B1.out.trans (b7.mono B1.out.size)); clear b7) | (go_at_call 24; refine (toScrub_calls p h b e cu me P H B es _ (D.out.below (A6.out.step (Below.refl _ _).drew).below) SZ.out).mono ?_; rintro e' wr6 ⟨p3, h3, b3, e3, rfl, d6, b6⟩; have D6 := hide d6; have B1 := hide ((Below.refl w6.heap.size w6).drew.trans b6); clear b6 d6)))
  have A7 := hide (A6.out.step B2.out)
  clear A6 F B1 B2 D5 D6 lo5 hi5
  obtain ⟨cbx0, cbx1, cbx2, cbx3, cbx4, cbx5⟩ := (A7.out.atBox 2 rfl).c6
  obtain ⟨lox, hix, dx, lw, hw, put⟩ := A7.out.open 3 rfl
  have PUT := hide put
  have HW := hide hw
  have Dx : Hid (SrbV _ lox hix _ _ _ _ P H B es) := dx
  clear put lw hw dx
  go_wp2_with fail
  refine (markScrub_calls _ _ _ _ cu me P H B es lox hix _ Dx.out HW.out SZ.out.1 SZ.out.2).mono ?_
  rintro e w8 ⟨rfl, d4, c4⟩
  have A8 := hide (PUT.out _ (TSrb _ _ _ _ _ _ _ _) (TSrb.st _ _ _ _ _ _ _ _) d4 c4)
  clear A7 cbx0 cbx1 cbx2 cbx3 cbx4 cbx5 lox hix PUT HW Dx d4 c4
  have k0 : ¬ ((enSc P H B es : Nat) : Int) < 0 := by omega
  obtain ⟨cbg0, cbg1, cbg2, cbg3, cbg4, cbg5⟩ := (A8.out.atBox 0 rfl).c6
  obtain ⟨cvj0, cvj1, cvj2, cvj3, cvj4, cvj5⟩ := (A8.out.atBox 4 rfl).c6
  obtain ⟨log, hig, dg⟩ := A8.out.get 1 rfl
  have Dg : Hid (SrbV _ log hig _ _ _ _ XP XH XB XE) := dg
  clear dg
  obtain ⟨loj, hij, dj⟩ := A8.out.get 5 rfl
  have Dj : Hid (SrbV _ loj hij _ _ _ _ XP XH XB XE) := dj
  clear dj
  go_wp2_with fail
  refine (eqScrub_same _ _ _ _ _ _ _ _ xcu xme XP XH XB XE _ Dg.out.rd Dj.out.rd).mono ?_
  rintro e w9 ⟨rfl, q⟩
  have A9 := hide (A8.out.step q)
  clear A8 cbg0 cbg1 cbg2 cbg3 cbg4 cbg5 cvj0 cvj1 cvj2 cvj3 cvj4 cvj5 Dg log hig Dj loj hij q
  obtain ⟨cbg0, cbg1, cbg2, cbg3, cbg4, cbg5⟩ := (A9.out.atBox 0 rfl).c6
  obtain ⟨log, hig, dg, lw, hw, put⟩ := A9.out.open 1 rfl
  have PUT := hide put
  have HW := hide hw
  have Dg : Hid (SrbV _ log hig _ _ _ _ XP XH XB XE) := dg
  clear put lw hw dg
  go_wp2_with fail
  refine (markScrub_calls _ _ _ _ xcu xme XP XH XB XE log hig _ Dg.out HW.out XZ.out.1 XZ.out.2).mono ?_
  rintro e w10 ⟨rfl, d4, c4⟩
  have A10 := hide (PUT.out _ (TSrb _ _ _ _ _ _ _ _) (TSrb.st _ _ _ _ _ _ _ _) d4 c4)
  clear A9 cbg0 cbg1 cbg2 cbg3 cbg4 cbg5 log hig PUT HW Dg d4 c4
  obtain ⟨cbg0, cbg1, cbg2, cbg3, cbg4, cbg5⟩ := (A10.out.atBox 0 rfl).c6
  obtain ⟨log, hig, dg⟩ := A10.out.get 1 rfl
  have Dg : Hid (SrbV _ log hig _ _ _ _ (mkS1 XP) (mkS2 XP XH) (mkS3 XP XH XB) (mkS4 XP XH XB XE)) := dg
  clear dg
  go_wp2_with fail
  refine (heldScrub_calls _ _ _ _ xcu xme XP XH XB XE _ Dg.out.rd XZ.out.1 XZ.out.2).mono ?_
  rintro e w11 ⟨rfl, q⟩
  have A11 := hide (A10.out.step q)
  clear A10 cbg0 cbg1 cbg2 cbg3 cbg4 cbg5 Dg log hig q
  have k1 : ¬ ((enSc XP XH XB XE : Nat) : Int) < 0 := by omega
  have k2 : (((enSc XP XH XB XE : Nat) : Int) != ((enSc XP XH XB XE : Nat) : Int)) = false := by simp
  obtain ⟨caS0, caS1, caS2, caS3, caS4, caS5⟩ := (A11.out.atBox 7 rfl).c6
  go_wp2_with fail
  refine (toScrub_calls p h b e cu me P H B es _ (D.out.below A11.out.below) SZ.out).mono ?_
  rintro e w12 ⟨pz, hz, bz, ez, rfl, d, q⟩
  obtain ⟨apz, cpz, ahz, chz, abz, cbz, aez, cez, rfl, rfl, rfl, rfl⟩ := d.sl
  have A12 := hide (A11.out.add q (TSrb.st _ _ _ _ _ _ _ _) d)
  clear A11 caS0 caS1 caS2 caS3 caS4 caS5 q d
  obtain ⟨loz, hiz, dz⟩ := A12.out.get 0 rfl
  have Dz : Hid (SrbV _ loz hiz _ _ _ _ P H B es) := dz
  clear dz
  go_wp2_with fail
  refine (C2.out _ _ _ _ _ (Gf.Tab.below TT.out A12.out.below) Dz.out.rd).mono ?_
  rintro e w13 ⟨pu, hu, bu, eu, rfl, d, q⟩
  obtain ⟨apu, cpu, ahu, chu, abu, cbu, aeu, ceu, rfl, rfl, rfl, rfl⟩ := d.sl
  have A13 := hide ((A12.out.add q (TSrb.st _ _ _ _ _ _ _ _) d).box (scC (.slice apu XP.length cpu) (.slice ahu XH.length chu) (.slice abu XB.length cbu) (.slice aeu XE.length ceu) xcu xme) 29)
  clear A12 Dz loz hiz q d
  obtain ⟨cbu0, cbu1, cbu2, cbu3, cbu4, cbu5⟩ := (A13.out.atBox 0 rfl).c6
  obtain ⟨cvj0, cvj1, cvj2, cvj3, cvj4, cvj5⟩ := (A13.out.atBox 7 rfl).c6
  obtain ⟨lou, hiu, du⟩ := A13.out.get 1 rfl
  have Du : Hid (SrbV _ lou hiu _ _ _ _ XP XH XB XE) := du
  clear du
  obtain ⟨loj, hij, dj⟩ := A13.out.get 8 rfl
  have Dj : Hid (SrbV _ loj hij _ _ _ _ XP XH XB XE) := dj
  clear dj
  go_wp2_with fail
  refine (eqScrub_same _ _ _ _ _ _ _ _ xcu xme XP XH XB XE _ Du.out.rd Dj.out.rd).mono ?_
  rintro e w14 ⟨rfl, q⟩
  have A14 := hide (A13.out.step q)
  clear A13 cbu0 cbu1 cbu2 cbu3 cbu4 cbu5 cvj0 cvj1 cvj2 cvj3 cvj4 cvj5 Du lou hiu Dj loj hij q
  obtain ⟨cbg0, cbg1, cbg2, cbg3, cbg4, cbg5⟩ := (A14.out.atBox 3 rfl).c6
  obtain ⟨log, hig, dg⟩ := A14.out.get 4 rfl
  have Dg : Hid (SrbV _ log hig _ _ _ _ (mkS1 XP) (mkS2 XP XH) (mkS3 XP XH XB) (mkS4 XP XH XB XE)) := dg
  clear dg
  go_wp2_with fail
  refine (heldScrub_calls _ _ _ _ xcu xme XP XH XB XE _ Dg.out.rd XZ.out.1 XZ.out.2).mono ?_
  rintro e w15 ⟨rfl, q⟩
  have A15 := hide (A14.out.step q)
  clear A14 cbg0 cbg1 cbg2 cbg3 cbg4 cbg5 Dg log hig q
  go_wp2
  go_ret
  exact ⟨rfl, A15.out.below⟩
end Go.Proofs.YtbgadbokejaomaaGreatDoor

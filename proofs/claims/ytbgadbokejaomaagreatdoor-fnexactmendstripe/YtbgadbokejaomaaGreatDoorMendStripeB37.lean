/-
  MendStripe of the model, at every disk and numbers. The law that holds the program's MendStripe against its model's: at every disk and numbers the call returns true, and nothing that was there is written. The program's table of rests must hold its seven numbers.
-/
import Derived.Test.YtbgadbokejaomaaGreatDoorMendStripeB36
namespace Go.Proofs.YtbgadbokejaomaaGreatDoor
open Go.RowKit
open Gf (ci nat)
set_option linter.unusedVariables false

set_option maxRecDepth 100000 in
set_option maxHeartbeats 3200000 in
theorem sMendStripe_calls (p h b : Value) (P H : List ByteArray) (B : List Bool) (A least : Int) (ok : Bool) (w : World) (hok : ok = true ↔ ((gkP P H B ∧ ftP P A) ∧ dcOk (rsX P H B least A))) (hp : RdT w p P) (hh : RdT w h H) (hb : RdZ w b B) :
    Calls Tryz.prog 55 #[.agg #[p, h, b], .int .i64 A, .int .i64 least] w fun e w' => ∃ p' h' b', e = .returned (.tuple #[.agg #[p', h', b'], .int .i64 (mdC ok B A (rsX P H B least A)), .bool ok]) ∧ DskV w' w.heap.size w'.heap.size p' h' b' (ifT ok P) (ifT ok (mdH H B A (rsX P H B least A))) (ifT ok B) ∧ Below w.heap.size w w' := by
  have RP := hide hp
  have RH := hide hh
  have RB := hide hb
  have C1 := hide (fun W h1 h2 h3 => sReadStripe_calls p h b P H B A least ok W hok h1 h2 h3)
  have A0 : Hid (Hand w ((w.alloc (.cells #[p, h, b] 26)).alloc (.cells nil3 26)) [TBox (w.heap.size + 1) nil3 26, TBox w.heap.size #[p, h, b] 26]) := by
    show Hand _ _ _
    have := ((Hand.start w).box #[p, h, b] 26).box nil3 26
    simpa using this
  obtain ⟨c0, c1, c2⟩ := (A0.out.atBox 1 rfl).c3
  have HOK := hide hok
  clear hp hh hb hok
  cases ok with
  | false =>
    show Calls _ _ _ _ fun e w' => ∃ p' h' b', e = .returned (.tuple #[.agg #[p', h', b'], .int .i64 0, .bool false]) ∧ DskV w' w.heap.size w'.heap.size p' h' b' [] [] [] ∧ Below w.heap.size w w'
    clear HOK
    generalize dcT false (rsX P H B least A) = tt at *
    generalize rsOth false (rsX P H B least A) = oo at *
    go_enter Tryz.func55, Tryz.ntmps55
    go_wp2_with fail
    refine (C1.out _ (RP.out.below A0.out.below) (RH.out.below A0.out.below) (RB.out.below A0.out.below)).mono ?_
    rintro e w1 ⟨v1, rfl, o1, q⟩
    have A1 := hide (A0.out.step q)
    clear q A0 c0 c1 c2 o1
    obtain ⟨d0, d1, d2⟩ := (A1.out.atBox 0 rfl).c3
    have g0 := (A1.out.atBox 0 rfl).frozen 0
    have g1 := (A1.out.atBox 0 rfl).frozen 1
    have g2 := (A1.out.atBox 0 rfl).frozen 2
    have AZ := hide (A1.out.store3 0 rfl (.slice none 0 0) (.slice none 0 0) (.slice none 0 0))
    go_wp2
    exact bodyPost_ret (res_dsk3 rfl _ _ (w.heap.size + 1) _ _ _ (0, 0) rfl (AZ.out.atBox 0 rfl)) rfl ⟨_, _, _, rfl, DskV.nil _ _ _, AZ.out.below⟩
  | true =>
    have GK := hide (HOK.out.1 rfl).1.1
    have FT := hide (HOK.out.1 rfl).1.2
    have DC := hide (HOK.out.1 rfl).2
    obtain ⟨a, rfl⟩ : ∃ a : Nat, A = (a : Int) := ⟨A.toNat, by have := FT.out.1; omega⟩
    have ha5 : a + 5 ≤ P.length := by have := FT.out.2; omega
    have n24 : P.length ≤ 24 := GK.out.1.2
    have ex : rsX P H B least (a : Int) = skL P H B least a := by unfold rsX; rw [Int.toNat_natCast]
    rw [ex] at C1 DC
    rw [ex]
    have LM : Hid ((mdH H B (a : Int) (skL P H B least a)).length = P.length) := by show _ = _; unfold mdH; rw [mdW_length]; exact GK.out.2.1
    have C2 := hide (fun W h1 h2 h3 => l7Own_calls p h b P H B W h1 h2 h3 ⟨by omega, n24⟩ (by rw [GK.out.2.1]; omega) (by rw [GK.out.2.2.1]; omega))
    have C3 := hide (fun lo hi W p h b d hb => l8Mend_calls p h b P H B a least lo hi W GK.out ha5 DC.out.1 d hb)
    have C4 := hide (fun W p h b h1 h2 h3 => l7Own_calls p h b P (mdH H B (a : Int) (skL P H B least a)) B W h1 h2 h3 ⟨by omega, n24⟩ (by rw [LM.out]; omega) (by rw [GK.out.2.2.1]; omega))
    show Calls _ _ _ _ fun e w' => ∃ p' h' b', e = .returned (.tuple #[.agg #[p', h', b'], .int .i64 ((mdL B (a : Int) (skL P H B least a)).length : Int), .bool true]) ∧ DskV w' w.heap.size w'.heap.size p' h' b' P (mdH H B (a : Int) (skL P H B least a)) B ∧ Below w.heap.size w w'
    generalize mdH H B (a : Int) (skL P H B least a) = Y at *
    generalize (mdL B (a : Int) (skL P H B least a)).length = cn at *
    generalize dcT true (skL P H B least a) = tt at *
    generalize rsOth true (skL P H B least a) = oo at *
    clear HOK FT DC ex LM GK
    go_enter Tryz.func55, Tryz.ntmps55
    go_wp2_with fail
    refine (C1.out _ (RP.out.below A0.out.below) (RH.out.below A0.out.below) (RB.out.below A0.out.below)).mono ?_
    rintro e w1 ⟨v1, rfl, o1, q⟩
    have A1 := hide (A0.out.step q)
    clear q A0 c0 c1 c2 o1
    obtain ⟨c0, c1, c2⟩ := (A1.out.atBox 1 rfl).c3
    go_wp2_with fail
    refine (C2.out _ (RP.out.below A1.out.below) (RH.out.below A1.out.below) (RB.out.below A1.out.below)).mono ?_
    rintro e w2 ⟨p2, h2, b2, rfl, d2, q⟩
    have A2 := hide (A1.out.add q (TDsk.st _ _ _ _ _ _) d2)
    clear q A1 c0 c1 c2 d2
    obtain ⟨lo, hi, d3, lw, hw3, put⟩ := A2.out.open 0 rfl
    have D3 : Hid (DskV w2 lo hi p2 h2 b2 P H B) := d3
    have PUT := hide put
    clear d3 put
    obtain ⟨ap, cp, ah, ch, ab, cb, e1, e2, e3⟩ := D3.out.sl
    subst e1
    subst e2
    subst e3
    have C3' := hide (C3.out lo hi w2 _ _ _ D3.out hw3)
    go_wp2_with fail
    refine C3'.out.mono ?_
    rintro e w3 ⟨rfl, d4, q4⟩
    have A3 := hide ((PUT.out w3 (TDsk _ _ _ P Y B) (TDsk.st _ _ _ _ _ _) d4 q4).box #[.slice ap P.length cp, .slice ah H.length ch, .slice ab B.length cb] 26)
    clear PUT D3 C3' C3 d4 q4 A2 lw hw3
    obtain ⟨c0, c1, c2⟩ := (A3.out.atBox 0 rfl).c3
    obtain ⟨lo2, hi2, d5⟩ := A3.out.get 1 rfl
    have D5 : Hid (DskV _ lo2 hi2 (.slice ap P.length cp) (.slice ah H.length ch) (.slice ab B.length cb) P Y B) := d5
    clear d5
    go_wp2_with fail
    refine (C4.out _ _ _ _ D5.out.rp D5.out.rh D5.out.rb).mono ?_
    rintro e w5 ⟨p5, h5, b5, rfl, d6, q⟩
    obtain ⟨ap5, cp5, ah5, ch5, ab5, cb5, rfl, rfl, rfl⟩ := d6.sl
    have A5 := hide (A3.out.add q (TDsk.st _ _ _ _ _ _) d6)
    clear q d6 A3 c0 c1 c2 D5
    obtain ⟨d0, d1, d2⟩ := (A5.out.atBox 3 rfl).c3
    have g0 := (A5.out.atBox 3 rfl).frozen 0
    have g1 := (A5.out.atBox 3 rfl).frozen 1
    have g2 := (A5.out.atBox 3 rfl).frozen 2
    have AZ := hide (A5.out.store3 3 rfl (.slice ap5 P.length cp5) (.slice ah5 Y.length ch5) (.slice ab5 B.length cb5))
    go_wp2
    obtain ⟨lo3, hi3, d7, lw, hw3, _⟩ := AZ.out.open 0 rfl
    have D7 : DskV _ lo3 hi3 (.slice ap5 P.length cp5) (.slice ah5 Y.length ch5) (.slice ab5 B.length cb5) P Y B := d7
    exact bodyPost_ret (res_dsk3 rfl _ _ (w.heap.size + 1) _ _ _ (0, 0) rfl (AZ.out.atBox 3 rfl)) rfl ⟨_, _, _, rfl, D7.wider lw hw3, AZ.out.below⟩
end Go.Proofs.YtbgadbokejaomaaGreatDoor

namespace Go.Proofs.YtbgadbokejaomaaGreatDoor
open Go.RowKit
set_option linter.unusedVariables false

theorem ms_len {P H : List ByteArray} {B : List Bool} {A least : Int} {ok : Bool} (h : ok = true ↔ ((gkP P H B ∧ ftP P A) ∧ dcOk (rsX P H B least A))) : SzD (ifT ok P) (ifT ok (mdH H B A (rsX P H B least A))) (ifT ok B) := by
  unfold ifT
  cases ok with
  | false => exact ⟨by simp, by simp, by simp⟩
  | true =>
    have g := (h.1 rfl).1.1
    have h1 := g.1.2
    have h2 := g.2.1
    have h3 := g.2.2.1
    refine ⟨?_, ?_, ?_⟩
    · show P.length ≤ _
      omega
    · show (mdH H B A (rsX P H B least A)).length ≤ _
      unfold mdH
      rw [mdW_length]
      omega
    · show B.length ≤ _
      omega

set_option maxRecDepth 100000 in
set_option maxHeartbeats 1600000 in
theorem fnExactMendStripe_walk (p h b : Value) (P H : List ByteArray) (B : List Bool) (A least : Int) (w : World) (hT : Gf.Tab w) (hp : RdT w p P) (hh : RdT w h H) (hb : RdZ w b B) (hA : (Lit.int .i64 A).wf = true) (hL : (Lit.int .i64 least).wf = true) :
    Calls Tryz.prog 12 #[.agg #[p, h, b], .int .i64 A, .int .i64 least] w fun e w' => e = .returned (.bool true) ∧ Below w.heap.size w w' := by
  have RP := hide hp
  have RH := hide hh
  have RB := hide hb
  have TT := hide hT
  obtain ⟨ok, hok⟩ := rs_bool P H B A least
  have SX := hide (ms_len hok)
  have C1 := hide (fun V p h b h1 h2 h3 => sMendStripe_calls p h b P H B A least ok V hok h1 h2 h3)
  have C2 := hide (fun V p h b hT h1 h2 h3 => mendStripe_calls p h b P H B A least ok V hT hok hA h1 h2 h3)
  generalize ifT ok P = X at C1 C2 SX
  generalize ifT ok (mdH H B A (rsX P H B least A)) = Y at C1 C2 SX
  generalize ifT ok B = Z at C1 C2 SX
  generalize mdC ok B A (rsX P H B least A) = cn at C1 C2
  clear hp hh hb hok hT
  have A0 := hide ((Hand.start w).box #[p, h, b] 37)
  go_enter Tryz.func12, Tryz.ntmps12
  go_wp2_with fail
  refine (szDisk_calls p h b P H B _ (RP.out.below A0.out.below) (RH.out.below A0.out.below) (RB.out.below A0.out.below)).mono ?_
  rintro e w1 ⟨⟨r, rfl, hr⟩, q⟩
  have A1 := hide (A0.out.step q)
  clear A0 q
  by_cases r0 : r < 0
  · go_wp2
    go_ret
    exact ⟨rfl, A1.out.below⟩
  have SZ := hide (hr.resolve_left r0).2.2
  have r1 := (hr.resolve_left r0).2.1
  clear hr
  obtain ⟨caD0, caD1, caD2⟩ := (A1.out.atBox 0 rfl).c3
  go_wp2_with fail
  refine (toDisk_calls p h b P H B _ (RP.out.below A1.out.below) (RH.out.below A1.out.below) (RB.out.below A1.out.below) SZ.out).mono ?_
  rintro e w2 ⟨px, hx, bx, rfl, d, q⟩
  obtain ⟨apx, cpx, ahx, chx, abx, cbx, rfl, rfl, rfl⟩ := d.sl
  have ltx := q.size
  (try simp only [World.size_alloc] at ltx)
  have A2 := hide (A1.out.add q (TDsk.st _ _ _ _ _ _) d)
  clear A1 caD0 caD1 caD2 q d
  obtain ⟨lox, hix, dx⟩ := A2.out.get 0 rfl
  have Dx : Hid (DskV _ lox hix _ _ _ P H B) := dx
  clear dx
  go_wp2_with fail
  refine (C1.out _ _ _ _ Dx.out.rp Dx.out.rh Dx.out.rb).mono ?_
  rintro e w3 ⟨pyy, hyy, byy, rfl, d, q⟩
  obtain ⟨apyy, cpyy, ahyy, chyy, abyy, cbyy, rfl, rfl, rfl⟩ := d.sl
  have ltyy := q.size
  (try simp only [World.size_alloc] at ltyy)
  have A3 := hide ((A2.out.add q (TDsk.st _ _ _ _ _ _) d).box #[.slice apyy X.length cpyy, .slice ahyy Y.length chyy, .slice abyy Z.length cbyy] 26)
  clear A2 Dx lox hix q d
  obtain ⟨caD0, caD1, caD2⟩ := (A3.out.atBox 3 rfl).c3
  go_wp2_with fail
  refine (toDisk_calls p h b P H B _ (RP.out.below A3.out.below) (RH.out.below A3.out.below) (RB.out.below A3.out.below) SZ.out).mono ?_
  rintro e w4 ⟨pz, hz, bz, rfl, d, q⟩
  obtain ⟨apz, cpz, ahz, chz, abz, cbz, rfl, rfl, rfl⟩ := d.sl
  have ltz := q.size
  (try simp only [World.size_alloc] at ltz)
  have A4 := hide ((A3.out.add q (TDsk.st _ _ _ _ _ _) d).box #[.slice apz P.length cpz, .slice ahz H.length chz, .slice abz B.length cbz] 26)
  clear A3 caD0 caD1 caD2 q d
  obtain ⟨cx00, cx01, cx02⟩ := (A4.out.atBox 0 rfl).c3
  obtain ⟨loz, hiz, dz⟩ := A4.out.get 1 rfl
  have Dz : Hid (DskV _ loz hiz _ _ _ P H B) := dz
  clear dz
  go_wp2_with fail
  refine (C2.out _ _ _ _ (Gf.Tab.below TT.out A4.out.below) Dz.out.rp Dz.out.rh Dz.out.rb).mono ?_
  rintro e w5 ⟨pu, hu, bu, rfl, d, q⟩
  obtain ⟨apu, cpu, ahu, chu, abu, cbu, rfl, rfl, rfl⟩ := d.sl
  have ltu := q.size
  (try simp only [World.size_alloc] at ltu)
  have A5 := hide ((A4.out.add q (TDsk.st _ _ _ _ _ _) d).box #[.slice apu X.length cpu, .slice ahu Y.length chu, .slice abu Z.length cbu] 26)
  clear A4 cx00 cx01 cx02 Dz loz hiz q d
  obtain ⟨cw00, cw01, cw02⟩ := (A5.out.atBox 4 rfl).c3
  obtain ⟨cg00, cg01, cg02⟩ := (A5.out.atBox 0 rfl).c3
  obtain ⟨lou, hiu, du⟩ := A5.out.get 1 rfl
  have Du : Hid (DskV _ lou hiu _ _ _ X Y Z) := du
  clear du
  obtain ⟨loyy, hiyy, dyy⟩ := A5.out.get 5 rfl
  have Dyy : Hid (DskV _ loyy hiyy _ _ _ X Y Z) := dyy
  clear dyy
  go_wp2_with fail
  refine (eqDisk_same _ _ _ _ _ _ X Y Z _ Du.out.rp Du.out.rh Du.out.rb Dyy.out.rp Dyy.out.rh Dyy.out.rb).mono ?_
  rintro e w6 ⟨rfl, q⟩
  have A6 := hide (A5.out.step q)
  clear A5 cw00 cw01 cw02 cg00 cg01 cg02 Du lou hiu Dyy loyy hiyy q
  go_wp2
  obtain ⟨lo, hi, dd⟩ := A6.out.get 3 rfl
  have D5 : Hid (DskV _ lo hi _ _ _ P H B) := dd
  clear dd
  have F : Hid (∀ w', Below w6.heap.size w6 w' → (w'.cell? ⟨w.heap.size, 0, none⟩ = some p ∧ w'.cell? ⟨w.heap.size, 1, none⟩ = some h ∧ w'.cell? ⟨w.heap.size, 2, none⟩ = some b) ∧ (w'.cell? ⟨w4.heap.size, 0, none⟩ = some (.slice apz P.length cpz) ∧ w'.cell? ⟨w4.heap.size, 1, none⟩ = some (.slice ahz H.length chz) ∧ w'.cell? ⟨w4.heap.size, 2, none⟩ = some (.slice abz B.length cbz))) :=
    fun w' hb => ⟨((A6.out.step hb).atBox 7 rfl).c3, ((A6.out.step hb).atBox 2 rfl).c3⟩
  go_region_held3 (fun w' => (w'.cell? ⟨w.heap.size, 0, none⟩ = some p ∧ w'.cell? ⟨w.heap.size, 1, none⟩ = some h ∧ w'.cell? ⟨w.heap.size, 2, none⟩ = some b) ∧ (w'.cell? ⟨w4.heap.size, 0, none⟩ = some (.slice apz P.length cpz) ∧ w'.cell? ⟨w4.heap.size, 1, none⟩ = some (.slice ahz H.length chz) ∧ w'.cell? ⟨w4.heap.size, 2, none⟩ = some (.slice abz B.length cbz))) (first | exact F.out _ (Below.refl _ _).drew | exact F.out _ B2.out | exact F.out _ B1.out)
    ((first | (go_at_call 50; refine (eqDisk_same _ _ _ _ _ _ P H B _ (D5.out.below B1.out).rp (D5.out.below B1.out).rh (D5.out.below B1.out).rb D6.out.rp D6.out.rh D6.out.rb).mono ?_; rintro e' wr7 ⟨rfl, b7⟩; have B2 := hide (B1.out.trans (b7.mono B1.out.size)); clear b7) | (go_at_call 48; refine (toDisk_calls p h b P H B _ (RP.out.below (A6.out.step (Below.refl _ _).drew).below) (RH.out.below (A6.out.step (Below.refl _ _).drew).below) (RB.out.below (A6.out.step (Below.refl _ _).drew).below) SZ.out).mono ?_; rintro e' wr6 ⟨p3, h3, b3, rfl, d6, b6⟩; have D6 := hide d6; have B1 := hide ((Below.refl w6.heap.size w6).drew.trans b6); clear b6 d6)))
  have A7 := hide (A6.out.step B2.out)
  clear A6 F B1 B2 D5 D6 lo hi
  have zb : P.length ≤ 1048576 ∧ H.length ≤ 1048576 ∧ B.length ≤ 1048576 := SZ.out
  obtain ⟨cx00, cx01, cx02⟩ := (A7.out.atBox 2 rfl).c3
  obtain ⟨loz, hiz, dz, lw, hw, put⟩ := A7.out.open 3 rfl
  have Dz : Hid (DskV _ loz hiz _ _ _ P H B) := dz
  have PUT := hide put
  clear dz put lw
  go_wp2_with fail
  refine (markDisk_calls _ _ _ P H B 1 loz hiz _ Dz.out hw (by omega) (by omega) SZ.out).mono ?_
  rintro e w8 ⟨rfl, d4, q⟩
  have A8 := hide (PUT.out _ (TDsk _ _ _ _ _ _) (TDsk.st _ _ _ _ _ _) d4 q)
  clear A7 cx00 cx01 cx02 Dz loz hiz PUT hw q d4
  have kk : ¬ ((1 + P.length + H.length + B.length : Nat) : Int) < 0 := by omega
  obtain ⟨cg00, cg01, cg02⟩ := (A8.out.atBox 0 rfl).c3
  obtain ⟨cw00, cw01, cw02⟩ := (A8.out.atBox 4 rfl).c3
  obtain ⟨lou, hiu, du⟩ := A8.out.get 1 rfl
  have Du : Hid (DskV _ lou hiu _ _ _ X Y Z) := du
  clear du
  obtain ⟨loyy, hiyy, dyy⟩ := A8.out.get 5 rfl
  have Dyy : Hid (DskV _ loyy hiyy _ _ _ X Y Z) := dyy
  clear dyy
  go_wp2_with fail
  refine (eqDisk_same _ _ _ _ _ _ X Y Z _ Du.out.rp Du.out.rh Du.out.rb Dyy.out.rp Dyy.out.rh Dyy.out.rb).mono ?_
  rintro e w9 ⟨rfl, q⟩
  have A9 := hide (A8.out.step q)
  clear A8 cg00 cg01 cg02 cw00 cw01 cw02 Du lou hiu Dyy loyy hiyy q
  obtain ⟨cg00, cg01, cg02⟩ := (A9.out.atBox 0 rfl).c3
  obtain ⟨lou, hiu, du, lw, hw, put⟩ := A9.out.open 1 rfl
  have Du : Hid (DskV _ lou hiu _ _ _ X Y Z) := du
  have PUT := hide put
  clear du put lw
  go_wp2_with fail
  refine (markDisk_calls _ _ _ X Y Z 1 lou hiu _ Du.out hw (by omega) (by omega) SX.out).mono ?_
  rintro e w10 ⟨rfl, d4, q⟩
  have A10 := hide (PUT.out _ (TDsk _ _ _ _ _ _) (TDsk.st _ _ _ _ _ _) d4 q)
  clear A9 cg00 cg01 cg02 Du lou hiu PUT hw q d4
  obtain ⟨cg00, cg01, cg02⟩ := (A10.out.atBox 0 rfl).c3
  obtain ⟨lou, hiu, du⟩ := A10.out.get 1 rfl
  have Du : Hid (DskV _ lou hiu _ _ _ (marksT 1 X.length) (marksT (1 + X.length) Y.length) (marksZ ((1 + X.length + Y.length : Nat) : Int) Z.length)) := du
  clear du
  go_wp2_with fail
  refine (heldDisk_calls _ _ _ X.length Y.length Z.length 1 _ Du.out.rp Du.out.rh Du.out.rb (by omega) (by omega) SX.out.1 SX.out.2.1 SX.out.2.2).mono ?_
  rintro e w11 ⟨rfl, q⟩
  have A11 := hide (A10.out.step q)
  clear A10 cg00 cg01 cg02 Du lou hiu q
  obtain ⟨caD0, caD1, caD2⟩ := (A11.out.atBox 7 rfl).c3
  go_wp2_with fail
  refine (toDisk_calls p h b P H B _ (RP.out.below A11.out.below) (RH.out.below A11.out.below) (RB.out.below A11.out.below) SZ.out).mono ?_
  rintro e w12 ⟨pq1, hq1, bq1, rfl, d, q⟩
  obtain ⟨apq1, cpq1, ahq1, chq1, abq1, cbq1, rfl, rfl, rfl⟩ := d.sl
  have ltq1 := q.size
  (try simp only [World.size_alloc] at ltq1)
  have A12 := hide (A11.out.add q (TDsk.st _ _ _ _ _ _) d)
  clear A11 caD0 caD1 caD2 q d
  obtain ⟨loq1, hiq1, dq1⟩ := A12.out.get 0 rfl
  have Dq1 : Hid (DskV _ loq1 hiq1 _ _ _ P H B) := dq1
  clear dq1
  go_wp2_with fail
  refine (C2.out _ _ _ _ (Gf.Tab.below TT.out A12.out.below) Dq1.out.rp Dq1.out.rh Dq1.out.rb).mono ?_
  rintro e w13 ⟨pv, hv, bv, rfl, d, q⟩
  obtain ⟨apv, cpv, ahv, chv, abv, cbv, rfl, rfl, rfl⟩ := d.sl
  have ltv := q.size
  (try simp only [World.size_alloc] at ltv)
  have A13 := hide ((A12.out.add q (TDsk.st _ _ _ _ _ _) d).box #[.slice apv X.length cpv, .slice ahv Y.length chv, .slice abv Z.length cbv] 26)
  clear A12 Dq1 loq1 hiq1 q d
  obtain ⟨cw00, cw01, cw02⟩ := (A13.out.atBox 7 rfl).c3
  obtain ⟨ch00, ch01, ch02⟩ := (A13.out.atBox 0 rfl).c3
  obtain ⟨lov, hiv, dv⟩ := A13.out.get 1 rfl
  have Dv : Hid (DskV _ lov hiv _ _ _ X Y Z) := dv
  clear dv
  obtain ⟨loyy, hiyy, dyy⟩ := A13.out.get 8 rfl
  have Dyy : Hid (DskV _ loyy hiyy _ _ _ X Y Z) := dyy
  clear dyy
  go_wp2_with fail
  refine (eqDisk_same _ _ _ _ _ _ X Y Z _ Dv.out.rp Dv.out.rh Dv.out.rb Dyy.out.rp Dyy.out.rh Dyy.out.rb).mono ?_
  rintro e w14 ⟨rfl, q⟩
  have A14 := hide (A13.out.step q)
  clear A13 cw00 cw01 cw02 ch00 ch01 ch02 Dv lov hiv Dyy loyy hiyy q
  obtain ⟨cg00, cg01, cg02⟩ := (A14.out.atBox 3 rfl).c3
  obtain ⟨lou, hiu, du⟩ := A14.out.get 4 rfl
  have Du : Hid (DskV _ lou hiu _ _ _ (marksT 1 X.length) (marksT (1 + X.length) Y.length) (marksZ ((1 + X.length + Y.length : Nat) : Int) Z.length)) := du
  clear du
  go_wp2_with fail
  refine (heldDisk_calls _ _ _ X.length Y.length Z.length 1 _ Du.out.rp Du.out.rh Du.out.rb (by omega) (by omega) SX.out.1 SX.out.2.1 SX.out.2.2).mono ?_
  rintro e w15 ⟨rfl, q⟩
  have A15 := hide (A14.out.step q)
  clear A14 cg00 cg01 cg02 Du lou hiu q
  go_wp2
  go_ret
  exact ⟨rfl, A15.out.below⟩
end Go.Proofs.YtbgadbokejaomaaGreatDoor

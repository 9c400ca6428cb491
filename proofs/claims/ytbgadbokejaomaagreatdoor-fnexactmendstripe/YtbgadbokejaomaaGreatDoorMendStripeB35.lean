/-
  MendStripe of the program, at every disk and numbers. The program's table of rests must hold its seven numbers where the program's own functions are called. A write to a bad sector by the model: nothing that was there is written.
-/
import Derived.Test.YtbgadbokejaomaaGreatDoorMendStripeB34
namespace Go.Proofs.YtbgadbokejaomaaGreatDoor
open Go.RowKit
open Gf (ci nat)
set_option linter.unusedVariables false

/-- The numbers written again, what is held then, and how many they are. -/
def mdL (B : List Bool) (A : Int) (xs : List Pc) : List Nat := lfN B A.toNat (othN xs) (othN xs).length
def mdH (H : List ByteArray) (B : List Bool) (A : Int) (xs : List Pc) : List ByteArray := mdW H B A.toNat (rtX xs) (dcN xs) (othN xs) (othN xs).length
def mdC (ok : Bool) (B : List Bool) (A : Int) (xs : List Pc) : Int := if ok = true then ((mdL B A xs).length : Int) else 0

set_option maxRecDepth 100000 in
set_option maxHeartbeats 3200000 in
theorem mendStripe_calls (p h b : Value) (P H : List ByteArray) (B : List Bool) (A least : Int) (ok : Bool) (w : World) (hT : Gf.Tab w) (hok : ok = true ↔ ((gkP P H B ∧ ftP P A) ∧ dcOk (rsX P H B least A))) (hwf : (Lit.int .i64 A).wf = true) (hp : RdT w p P) (hh : RdT w h H) (hb : RdZ w b B) :
    Calls Tryz.prog 56 #[.agg #[p, h, b], .int .i64 A, .int .i64 least] w fun e w' => ∃ p' h' b', e = .returned (.tuple #[.agg #[p', h', b'], .int .i64 (mdC ok B A (rsX P H B least A)), .bool ok]) ∧ DskV w' w.heap.size w'.heap.size p' h' b' (ifT ok P) (ifT ok (mdH H B A (rsX P H B least A))) (ifT ok B) ∧ Below w.heap.size w w' := by
  have T := hide hT
  have RP := hide hp
  have RH := hide hh
  have RB := hide hb
  obtain ⟨f, hf⟩ := ft_bool P H B A
  have HF := hide hf
  have C1 := hide (fun W h1 h2 h3 => liesOn_calls p h b P H B A f W hf hwf h1 h2 h3)
  have A0 : Hid (Hand w ((w.alloc (.cells #[p, h, b] 26)).alloc (.cells nil3 26)) [TBox (w.heap.size + 1) nil3 26, TBox w.heap.size #[p, h, b] 26]) := by
    show Hand _ _ _
    have := ((Hand.start w).box #[p, h, b] 26).box nil3 26
    simpa using this
  obtain ⟨c0, c1, c2⟩ := (A0.out.atBox 1 rfl).c3
  clear hp hh hb hT hf hwf
  cases f with
  | false =>
    have okf : ok = false := by
      cases ok with
      | false => rfl
      | true => have := HF.out.2 (hok.1 rfl).1; simp at this
    subst okf
    clear hok HF
    show Calls _ _ _ _ fun e w' => ∃ p' h' b', e = .returned (.tuple #[.agg #[p', h', b'], .int .i64 0, .bool false]) ∧ DskV w' w.heap.size w'.heap.size p' h' b' [] [] [] ∧ Below w.heap.size w w'
    go_enter Tryz.func56, Tryz.ntmps56
    go_wp2_with fail
    refine (C1.out _ (RP.out.below A0.out.below) (RH.out.below A0.out.below) (RB.out.below A0.out.below)).mono ?_
    rintro e w1 ⟨rfl, q⟩
    have A1 := hide (A0.out.step q)
    clear q A0 c0 c1 c2
    obtain ⟨d0, d1, d2⟩ := (A1.out.atBox 0 rfl).c3
    have g0 := (A1.out.atBox 0 rfl).frozen 0
    have g1 := (A1.out.atBox 0 rfl).frozen 1
    have g2 := (A1.out.atBox 0 rfl).frozen 2
    have AZ := hide (A1.out.store3 0 rfl (.slice none 0 0) (.slice none 0 0) (.slice none 0 0))
    go_wp2
    exact bodyPost_ret (res_dsk3 rfl _ _ (w.heap.size + 1) _ _ _ (0, 0) rfl (AZ.out.atBox 0 rfl)) rfl ⟨_, _, _, rfl, DskV.nil _ _ _, AZ.out.below⟩
  | true =>
  have GK := hide (HF.out.1 rfl).1
  have FT := hide (HF.out.1 rfl).2
  have HD : Hid (ok = true ↔ dcOk (rsX P H B least A)) := by show _ ↔ _; rw [hok]; exact ⟨fun h => h.2, fun h => ⟨HF.out.1 rfl, h⟩⟩
  obtain ⟨a, rfl⟩ : ∃ a : Nat, A = (a : Int) := ⟨A.toNat, by have := FT.out.1; omega⟩
  have ha5 : a + 5 ≤ P.length := by have := FT.out.2; omega
  have n24 : P.length ≤ 24 := GK.out.1.2
  have ex : rsX P H B least (a : Int) = skL P H B least a := by unfold rsX; rw [Int.toNat_natCast]
  rw [ex] at HD
  rw [ex]
  have C2' : Hid (∀ W, RdT W p P → RdT W h H → RdZ W b B → Calls Tryz.prog 87 #[.agg #[p, h, b], .int .i64 (a : Int), .int .i64 least] W fun e w' => ∃ v, e = .returned (.agg #[v, .int .i64 (rtX (skL P H B least a))]) ∧ OwnP w' W.heap.size v (skL P H B least a) ∧ Below W.heap.size W w') := fun W h1 h2 h3 => findStripe_calls p h b P H B a least W GK.out ha5 h1 h2 h3
  obtain ⟨xs, hxs⟩ : ∃ xs, xs = skL P H B least a := ⟨_, rfl⟩
  have xl : xs.length = 5 := by rw [hxs, skL_length]
  have xok : ∀ k, okP (xs.getD k none) := by rw [hxs]; exact skL_ok _ _ _ _ _
  rw [← hxs] at C2' HD ⊢
  have C3 := hide (fun W v hT hv => decodeStripe_calls v xs ok W hT hv xok xl HD.out)
  have C4 := hide (fun W v hv => othersIn_calls v xs (rtX xs) W hv xok (by rw [xl]; omega))
  rw [xl, ← othN_ci] at C4
  have LB5 : a + 5 ≤ B.length := by rw [GK.out.2.2.1]; exact ha5
  have LB24 : B.length ≤ 24 := by rw [GK.out.2.2.1]; exact n24
  have C5 := hide (fun W v h1 h2 => withoutBad_calls p h b v B a (othN xs) W h1 h2 (othN_le xs) (othN_lt xs) LB5 LB24)
  have C6 : Hid (ok = true → ∀ W vm vk, RdM W vm (dcM xs) → Rd W vk (ci (lfN B a (othN xs) (othN xs).length)) → RdT W p P → RdT W h H → RdZ W b B → Calls Tryz.prog 99 #[.agg #[p, h, b], .int .i64 (a : Int), .int .i64 (rtX xs), vm, vk] W fun e w' => ∃ p' h' b', e = .returned (.tuple #[.agg #[p', h', b'], .bool true]) ∧ DskV w' W.heap.size w'.heap.size p' h' b' P (mdW H B a (rtX xs) (dcN xs) (othN xs) (othN xs).length) B ∧ Below W.heap.size W w') := fun e W vm vk h1 h2 h3 h4 h5 => by
    have hr := (HD.out.1 e).1
    have r16 := (tf_r16 (dc_tf xl xok hr)).1
    have hE : 0 ≤ rtX xs ∧ rtX xs ≤ 60000 := ⟨hr, rtX_le xok⟩
    rw [← dcN_ci r16] at h1
    exact writePieces_calls p h b P H B a (rtX xs) vm (dcN xs) vk (lfN B a (othN xs) (othN xs).length) true W GK.out ha5 h1 (dcN_length r16) (dcN_ok r16) h2 (by have := lfN_le B a (othN xs) (othN xs).length; have := othN_le xs; omega) (lfN_lt B a (othN xs) _ (Nat.le_refl _) (othN_lt xs)) ⟨fun _ => lfN_ok B a (othN xs) _ hE _, fun _ => rfl⟩ h3 h4 h5
  have EL : Hid (mdL B (a : Int) xs = lfN B a (othN xs) (othN xs).length) := by show lfN B (a : Int).toNat _ _ = _; rw [Int.toNat_natCast]
  have EH : Hid (mdH H B (a : Int) xs = mdW H B a (rtX xs) (dcN xs) (othN xs) (othN xs).length) := by show mdW H B (a : Int).toNat _ _ _ _ = _; rw [Int.toNat_natCast]
  unfold mdC
  rw [EL.out, EH.out]
  have LL := lfN_le B a (othN xs) (othN xs).length
  have OL := othN_le xs
  generalize lfN B a (othN xs) (othN xs).length = ll at *
  generalize mdW H B a (rtX xs) (dcN xs) (othN xs) (othN xs).length = hw at *
  generalize othN xs = on at *
  generalize rtX xs = r at *
  generalize dcM xs = dm at *
  generalize dcT ok xs = tt at *
  clear ex hok HD HF FT hxs xok xl EL EH LB5 LB24
  go_enter Tryz.func56, Tryz.ntmps56
  go_wp2_with fail
  refine (C1.out _ (RP.out.below A0.out.below) (RH.out.below A0.out.below) (RB.out.below A0.out.below)).mono ?_
  rintro e w1 ⟨rfl, q⟩
  have A1 := hide (A0.out.step q)
  clear q A0 c0 c1 c2
  obtain ⟨c0, c1, c2⟩ := (A1.out.atBox 1 rfl).c3
  go_wp2_with fail
  refine (C2'.out _ (RP.out.below A1.out.below) (RH.out.below A1.out.below) (RB.out.below A1.out.below)).mono ?_
  rintro e w2 ⟨v2, rfl, o2, q⟩
  obtain ⟨av, cv, hv2⟩ := row_slice o2
  subst hv2
  have R2 := hide (OwnP.rd o2)
  have A2 := hide ((A1.out.step q).box #[.slice av xs.length cv, .int .i64 r] 110)
  have R2' := hide (R2.out.below (below_box w2 (.cells #[.slice av xs.length cv, .int .i64 r] 110)))
  clear q o2 A1 c0 c1 c2 R2
  have c0 : World.cell? _ ⟨w2.heap.size, 0, none⟩ = some (.slice av xs.length cv) := (A2.out.atBox 0 rfl).cell 0
  have c1 : World.cell? _ ⟨w2.heap.size, 1, none⟩ = some (.int .i64 r) := (A2.out.atBox 0 rfl).cell 1
  go_wp2_with fail
  refine (C3.out _ _ (Gf.Tab.below T.out A2.out.below) R2'.out).mono ?_
  rintro e w3 ⟨v3, rfl, r3, q⟩
  have A3 := hide (A2.out.step q)
  have R3 := hide (R2'.out.below q)
  have RM := hide r3
  clear q A2 R2' c0 c1 r3
  cases ok with
  | false =>
    show _
    obtain ⟨d0, d1, d2⟩ := (A3.out.atBox 1 rfl).c3
    have g0 := (A3.out.atBox 1 rfl).frozen 0
    have g1 := (A3.out.atBox 1 rfl).frozen 1
    have g2 := (A3.out.atBox 1 rfl).frozen 2
    have AZ := hide (A3.out.store3 1 rfl (.slice none 0 0) (.slice none 0 0) (.slice none 0 0))
    go_wp2
    exact bodyPost_ret (res_dsk3 rfl _ _ (w.heap.size + 1) _ _ _ (0, 0) rfl (AZ.out.atBox 1 rfl)) rfl ⟨_, _, _, rfl, DskV.nil _ _ _, AZ.out.below⟩
  | true =>
    have C6' := hide (C6.out rfl)
    have RM' : Hid (RdM w3 v3 dm) := RM.out
    clear RM C6
    go_wp2
    have F : Hid (∀ w', Below w3.heap.size w3 w' → (w'.cell? ⟨w.heap.size, 0, none⟩ = some p ∧ w'.cell? ⟨w.heap.size, 1, none⟩ = some h ∧ w'.cell? ⟨w.heap.size, 2, none⟩ = some b) ∧ (w'.cell? ⟨w2.heap.size, 0, none⟩ = some (.slice av xs.length cv) ∧ w'.cell? ⟨w2.heap.size, 1, none⟩ = some (.int .i64 r))) :=
      fun w' hb => ⟨((A3.out.step hb).atBox 2 rfl).c3, ((A3.out.step hb).atBox 0 rfl).cell 0, ((A3.out.step hb).atBox 0 rfl).cell 1⟩
    go_region_held3 (fun w' => (w'.cell? ⟨w.heap.size, 0, none⟩ = some p ∧ w'.cell? ⟨w.heap.size, 1, none⟩ = some h ∧ w'.cell? ⟨w.heap.size, 2, none⟩ = some b) ∧ (w'.cell? ⟨w2.heap.size, 0, none⟩ = some (.slice av xs.length cv) ∧ w'.cell? ⟨w2.heap.size, 1, none⟩ = some (.int .i64 r))) (first | exact F.out _ (Below.refl _ _).drew | exact F.out _ B2.out | exact F.out _ B1.out)
      ((first | (go_at_call 110; refine (C5.out _ _ (RB.out.below (A3.out.step B1.out).below) O4.out.rd).mono ?_; rintro e' wr7 ⟨v5, rfl, o5, b7⟩; have O5 := hide o5; have B2 := hide (B1.out.trans (b7.mono B1.out.size)); clear b7 o5) | (go_at_call 108; refine (C4.out _ _ (R3.out.below (Below.refl _ _).drew)).mono ?_; rintro e' wr6 ⟨v4, rfl, o4, b6⟩; have O4 := hide o4; have B1 := hide ((Below.refl w3.heap.size w3).drew.trans b6); clear b6 o4)))
    have A4 := hide (A3.out.step B2.out)
    have RM4 := hide (RM'.out.below B2.out)
    obtain ⟨a5, c5, hv5⟩ := row_slice O5.out
    rw [Gf.ci_length] at hv5
    subst hv5
    clear A3 F B1 B2 R3 RM' O4
    obtain ⟨c0, c1, c2⟩ := (A4.out.atBox 2 rfl).c3
    have f1 : World.cell? _ ⟨w2.heap.size, 1, none⟩ = some (.int .i64 r) := (A4.out.atBox 0 rfl).cell 1
    go_wp2_with fail
    refine (C6'.out _ _ _ RM4.out O5.out.rd (RP.out.below A4.out.below) (RH.out.below A4.out.below) (RB.out.below A4.out.below)).mono ?_
    rintro e w5 ⟨p5, h5, b5, rfl, d5, q⟩
    obtain ⟨ap5, cp5, ah5, ch5, ab5, cb5, rfl, rfl, rfl⟩ := d5.sl
    have A5 := hide ((A4.out.add q (TDsk.st _ _ _ _ _ _) d5).box #[.slice ap5 P.length cp5, .slice ah5 hw.length ch5, .slice ab5 B.length cb5] 26)
    clear q d5 A4 c0 c1 c2 f1 RM4 O5
    obtain ⟨c0, c1, c2⟩ := (A5.out.atBox 0 rfl).c3
    obtain ⟨d0, d1, d2⟩ := (A5.out.atBox 3 rfl).c3
    have g0 := (A5.out.atBox 3 rfl).frozen 0
    have g1 := (A5.out.atBox 3 rfl).frozen 1
    have g2 := (A5.out.atBox 3 rfl).frozen 2
    have AZ := hide (A5.out.store3 3 rfl (.slice ap5 P.length cp5) (.slice ah5 hw.length ch5) (.slice ab5 B.length cb5))
    go_wp2
    obtain ⟨lo, hi, d3, lw, hw3, _⟩ := AZ.out.open 1 rfl
    have D3 : DskV _ lo hi (.slice ap5 P.length cp5) (.slice ah5 hw.length ch5) (.slice ab5 B.length cb5) P hw B := d3
    exact bodyPost_ret (res_dsk3 rfl _ _ (w.heap.size + 1) _ _ _ (0, 0) rfl (AZ.out.atBox 3 rfl)) rfl ⟨_, _, _, rfl, D3.wider lw hw3, AZ.out.below⟩
end Go.Proofs.YtbgadbokejaomaaGreatDoor

namespace Go.Proofs.YtbgadbokejaomaaGreatDoor
open Go.RowKit
open Gf (ci nat)
set_option linter.unusedVariables false

set_option linter.unusedSimpArgs false in
set_option maxRecDepth 100000 in
set_option maxHeartbeats 1600000 in
theorem s_1x (p h b vk : Value) (P H : List ByteArray) (B : List Bool) (lo hi n : Nat) (k : Nat) (T : ByteArray) (w : World) (d : DskV w lo hi p h b P H B) (hhi : hi ≤ w.heap.size) (hP : P.length = n) (hH : H.length = n) (hB : B.length = n) (hn : 0 < n ∧ n ≤ 24) (kv : ∀ w', Chg lo hi w w' → Rd w' vk ([] : List Int)) (hk : k < n) (hBk : B.getD k false = true) :
    Calls Tryz.prog 89 #[.agg #[p, h, b], .agg #[.int .i64 1, .int .i64 (k : Int), .string T, vk]] w fun e w' => e = .returned (.tuple #[.agg #[p, h, b], .bool false]) ∧ Below w.heap.size w w' := by
  obtain ⟨gp, cp, gh, ch, gb, cb, rfl, rfl, rfl, n1, n2, n3, ⟨t1, t2, t3⟩, _⟩ := d.blocks hP hH hB hn.1
  have KV := hide kv
  obtain ⟨av, cv, ev', mv, _⟩ := (kv w (Chg.refl _ _ _)).sl
  have ev : vk = .slice av 0 cv := ev'
  clear ev'
  subst ev
  have A0 := Hand.three w #[.slice (some ⟨gp, 0, none⟩) n cp, .slice (some ⟨gh, 0, none⟩) n ch, .slice (some ⟨gb, 0, none⟩) n cb] #[.int .i64 1, .int .i64 (k : Int), .string T, .slice av 0 cv] nil3 26 105 26
  obtain ⟨W0, e0⟩ : ∃ W0, W0 = ((w.alloc (.cells #[.slice (some ⟨gp, 0, none⟩) n cp, .slice (some ⟨gh, 0, none⟩) n ch, .slice (some ⟨gb, 0, none⟩) n cb] 26)).alloc (.cells #[.int .i64 1, .int .i64 (k : Int), .string T, .slice av 0 cv] 105)).alloc (.cells nil3 26) := ⟨_, rfl⟩
  rw [← e0] at A0
  have z0 := A0.atBox 0 rfl
  have s0 : w.heap.size + 1 + 1 < W0.heap.size := z0.lt
  have E0 := hide e0.symm
  have C0 := hide (Chg.ofBelow (lo := w.heap.size) (hi := w.heap.size) A0.below)
  have X0 := hide (A0.atBox 2 rfl)
  have Y0 := hide (A0.atBox 1 rfl)
  have Z0 := hide z0
  have D0 := hide (d.below A0.below)
  have LP := hide hP
  have LH := hide hH
  have LB := hide hB
  clear kv d A0 z0 e0 hP hH hB
  have hk0 : (0 : Int) ≤ (k : Int) := by omega
  have hk' : (k : Int) < (n : Int) := by omega
  go_enter Tryz.func89, Tryz.ntmps89
  go_wp2_with fail
  rw [E0.out]
  refine (l7There_yes _ _ _ _ _ _ _ hk0 hk' (by omega)).mono ?_
  rintro e u1 ⟨rfl, q⟩
  have X1 := hide (X0.out.below q)
  have Y1 := hide (Y0.out.below q)
  have Z1 := hide (Z0.out.below q)
  have D1 := hide (D0.out.below q)
  have C1 := hide (C0.out.trans (Chg.ofBelow q))
  have s1 := q.size
  clear q X0 Y0 Z0 D0 C0 E0
  obtain ⟨hb1, hb2⟩ := D1.out.cellB LB.out k hk
  rw [hBk] at hb1
  obtain ⟨y0, y1, y2, y3⟩ := Y1.out.c4
  obtain ⟨c0, c1, c2⟩ := X1.out.c3
  go_wp2
  go_quiet (fail)
  have q := below_drewN (Below.refl u1.heap.size u1) nq
  have X2 := hide (X1.out.below q)
  have Y2 := hide (Y1.out.below q)
  have Z2 := hide (Z1.out.below q)
  have D2 := hide (D1.out.below q)
  have C2 := hide (C1.out.trans (Chg.ofBelow q))
  have s2 := q.size
  generalize u1.drewN nq = u2 at *
  clear q X1 Y1 Z1 D1 C1
  obtain ⟨y0, y1, y2, y3⟩ := Y2.out.c4
  obtain ⟨c0, c1, c2⟩ := X2.out.c3
  obtain ⟨r0, r1, r2⟩ := Z2.out.c3
  have f0 := Z2.out.frozen 0
  have f1 := Z2.out.frozen 1
  have f2 := Z2.out.frozen 2
  have XF := hide (Z2.out.store3 (.slice (some ⟨gp, 0, none⟩) n cp) (.slice (some ⟨gh, 0, none⟩) n ch) (.slice (some ⟨gb, 0, none⟩) n cb))
  have c6 := Chg.store3 (lo := w.heap.size + 1 + 1) (hi := w.heap.size + 1 + 1 + 1) u2 (w.heap.size + 1 + 1) (.slice (some ⟨gp, 0, none⟩) n cp) (.slice (some ⟨gh, 0, none⟩) n ch) (.slice (some ⟨gb, 0, none⟩) n cb) (Nat.le_refl _) (by omega)
  have CC := hide (chg_new C2.out c6 (by omega))
  clear c6
  go_wp2
  exact bodyPost_ret (res_dsk2 rfl _ _ (w.heap.size + 1 + 1) _ _ _ (0, 0) rfl XF.out) rfl ⟨rfl, CC.out.below (Nat.le_refl _) (Nat.le_refl _)⟩

set_option maxRecDepth 100000 in
set_option maxHeartbeats 1600000 in
theorem l8Put_bad (p h b : Value) (P H : List ByteArray) (B : List Bool) (a : Nat) (E : Int) (u : Value) (row : List Nat) (lo hi n : Nat) (w : World) (d : DskV w lo hi p h b P H B) (hhi : hi ≤ w.heap.size) (hP : P.length = n) (hH : H.length = n) (hB : B.length = n) (hn : 0 < n ∧ n ≤ 24) (ha : a < n)
    (hE : 0 ≤ E ∧ E ≤ 60000) (hu : Rd w u (ci row)) (hr : row.length = 16) (hl : ∀ x ∈ row, x < 256) (hy : B.getD a false = true) :
    Calls Tryz.prog 96 #[.agg #[p, h, b], .int .i64 (a : Int), .int .i64 E, u] w fun e w' => e = .returned (.tuple #[.agg #[p, h, b], .bool false]) ∧ Below w.heap.size w w' := by
  obtain ⟨En, hEn⟩ : ∃ En : Nat, E = (En : Int) := ⟨E.toNat, by omega⟩
  have SC := hide (sc_frB (A := a) (row := row) (by omega) hE hr)
  have G2 := hide (sc_good (A := a) (row := row) (by omega) hE hr).2
  have C1 := hide (fun W hv => l8Text_calls u row W hv hl (by omega))
  have C2 := hide (fun W => l6Frame_calls 2 a E.toNat (ofN row) W (by omega) (by omega) (by omega) (by rw [ofN_size]; omega))
  rw [SC.out] at C2
  subst hEn
  rw [Int.toNat_natCast] at C2
  generalize scT a (En : Int) row = T at *
  generalize ofN row = bo at *
  have U := hide hu
  obtain ⟨W0, hW⟩ : ∃ W0, W0 = (w.alloc (.cells #[p, h, b] 26)).alloc (.cells #[.slice none 0 0, .slice none 0 0, .slice none 0 0] 26) := ⟨_, rfl⟩
  have b0 : Below w.heap.size w W0 := by rw [hW]; exact (below_box _ _).trans ((below_box _ _).mono (by simp))
  have x0 : BoxAt W0 w.heap.size #[p, h, b] 26 := by rw [hW]; exact (BoxAt.new _ _ _).below (below_box _ _)
  have x1 : BoxAt W0 (w.heap.size + 1) #[.slice none 0 0, .slice none 0 0, .slice none 0 0] 26 := by
    rw [hW]
    have := BoxAt.new (w.alloc (.cells #[p, h, b] 26)) #[.slice none 0 0, .slice none 0 0, .slice none 0 0] 26
    simpa using this
  have HW := hide hW
  have B0 := hide b0
  have X0 := hide x0
  have X1 := hide x1
  have D0 := hide (d.below b0)
  have hs0 : w.heap.size + 1 < W0.heap.size := x1.lt
  obtain ⟨ap, cp, ah, ch, ab, cb, rfl, rfl, rfl⟩ := d.sl
  have HPl := hide hP
  have HHl := hide hH
  have HBl := hide hB
  clear hW b0 x0 x1 d hu SC hl hP hH hB
  go_enter Tryz.func96, Tryz.ntmps96
  go_wp2_with fail
  rw [← HW.out]
  refine (C1.out _ (U.out.below B0.out)).mono ?_
  rintro e w1 ⟨rfl, q⟩
  have B1 := hide (B0.out.trans (q.mono B0.out.size))
  have X01 := hide (X0.out.below q)
  have X11 := hide (X1.out.below q)
  have D1 := hide (D0.out.below q)
  clear q X0 X1 D0 B0
  go_wp2_with fail
  refine (C2.out _).mono ?_
  rintro e w2 ⟨rfl, q⟩
  have B2 := hide (B1.out.trans (q.mono B1.out.size))
  have X02 := hide (X01.out.below q)
  have X12 := hide (X11.out.below q)
  have D2 := hide (D1.out.below q)
  clear q X01 X11 D1 B1
  obtain ⟨c0, c1, c2⟩ := X02.out.c3
  have C3 := hide (s_1x _ _ _ (.slice none 0 0) P H B lo hi n a T w2 D2.out (Nat.le_trans hhi B2.out.size) HPl.out HHl.out HBl.out hn (fun _ _ => rd_nil' _) ha hy)
  go_wp2_with fail
  refine C3.out.mono ?_
  rintro e w3 ⟨rfl, q⟩
  have B3 := hide (B2.out.trans (q.mono B2.out.size))
  have X13 := hide (X12.out.below q)
  obtain ⟨d0, d1, d2⟩ := X13.out.c3
  have g0 := X13.out.frozen 0
  have g1 := X13.out.frozen 1
  have g2 := X13.out.frozen 2
  clear q c0 c1 c2
  have XZ := hide (X13.out.store3 (.slice ap P.length cp) (.slice ah H.length ch) (.slice ab B.length cb))
  have CZ : Hid (Chg (w.heap.size + 1) (w.heap.size + 2) w3 (((w3.setCell ⟨w.heap.size + 1, 0, none⟩ (.slice ap P.length cp)).setCell ⟨w.heap.size + 1, 1, none⟩ (.slice ah H.length ch)).setCell ⟨w.heap.size + 1, 2, none⟩ (.slice ab B.length cb))) := Chg.store3 _ _ _ _ _ (Nat.le_refl _) (by omega)
  go_wp2
  exact bodyPost_ret (res_dsk2 rfl _ _ (w.heap.size + 1) _ _ _ (0, 0) rfl XZ.out) rfl ⟨rfl, B3.out.trans (CZ.out.below (by omega) (by have := B3.out.size; omega))⟩

set_option maxRecDepth 100000 in
set_option maxHeartbeats 1600000 in
theorem l8Put_good (p h b : Value) (P H : List ByteArray) (B : List Bool) (a : Nat) (E : Int) (u : Value) (row : List Nat) (lo hi n : Nat) (w : World) (d : DskV w lo hi p h b P H B) (hhi : hi ≤ w.heap.size) (hP : P.length = n) (hH : H.length = n) (hB : B.length = n) (hn : 0 < n ∧ n ≤ 24) (ha : a < n)
    (hE : 0 ≤ E ∧ E ≤ 60000) (hu : Rd w u (ci row)) (hr : row.length = 16) (hl : ∀ x ∈ row, x < 256) (hy : B.getD a false = false) :
    Calls Tryz.prog 96 #[.agg #[p, h, b], .int .i64 (a : Int), .int .i64 E, u] w fun e w' => e = .returned (.tuple #[.agg #[p, h, b], .bool true]) ∧ (true = true → DskV w' lo hi p h b P (H.set a (scT a E row)) B) ∧ Chg lo hi w w' := by
  obtain ⟨En, hEn⟩ : ∃ En : Nat, E = (En : Int) := ⟨E.toNat, by omega⟩
  have SC := hide (sc_frB (A := a) (row := row) (by omega) hE hr)
  have G2 := hide (sc_good (A := a) (row := row) (by omega) hE hr).2
  have C1 := hide (fun W hv => l8Text_calls u row W hv hl (by omega))
  have C2 := hide (fun W => l6Frame_calls 2 a E.toNat (ofN row) W (by omega) (by omega) (by omega) (by rw [ofN_size]; omega))
  rw [SC.out] at C2
  subst hEn
  rw [Int.toNat_natCast] at C2
  generalize scT a (En : Int) row = T at *
  generalize ofN row = bo at *
  have U := hide hu
  obtain ⟨W0, hW⟩ : ∃ W0, W0 = (w.alloc (.cells #[p, h, b] 26)).alloc (.cells #[.slice none 0 0, .slice none 0 0, .slice none 0 0] 26) := ⟨_, rfl⟩
  have b0 : Below w.heap.size w W0 := by rw [hW]; exact (below_box _ _).trans ((below_box _ _).mono (by simp))
  have x0 : BoxAt W0 w.heap.size #[p, h, b] 26 := by rw [hW]; exact (BoxAt.new _ _ _).below (below_box _ _)
  have x1 : BoxAt W0 (w.heap.size + 1) #[.slice none 0 0, .slice none 0 0, .slice none 0 0] 26 := by
    rw [hW]
    have := BoxAt.new (w.alloc (.cells #[p, h, b] 26)) #[.slice none 0 0, .slice none 0 0, .slice none 0 0] 26
    simpa using this
  have HW := hide hW
  have B0 := hide b0
  have X0 := hide x0
  have X1 := hide x1
  have D0 := hide (d.below b0)
  have hs0 : w.heap.size + 1 < W0.heap.size := x1.lt
  obtain ⟨ap, cp, ah, ch, ab, cb, rfl, rfl, rfl⟩ := d.sl
  have HPl := hide hP
  have HHl := hide hH
  have HBl := hide hB
  clear hW b0 x0 x1 d hu SC hl hP hH hB
  go_enter Tryz.func96, Tryz.ntmps96
  go_wp2_with fail
  rw [← HW.out]
  refine (C1.out _ (U.out.below B0.out)).mono ?_
  rintro e w1 ⟨rfl, q⟩
  have B1 := hide (B0.out.trans (q.mono B0.out.size))
  have X01 := hide (X0.out.below q)
  have X11 := hide (X1.out.below q)
  have D1 := hide (D0.out.below q)
  clear q X0 X1 D0 B0
  go_wp2_with fail
  refine (C2.out _).mono ?_
  rintro e w2 ⟨rfl, q⟩
  have B2 := hide (B1.out.trans (q.mono B1.out.size))
  have X02 := hide (X01.out.below q)
  have X12 := hide (X11.out.below q)
  have D2 := hide (D1.out.below q)
  clear q X01 X11 D1 B1
  obtain ⟨c0, c1, c2⟩ := X02.out.c3
  have C3 := hide (s_1c _ _ _ (.slice none 0 0) P H B lo hi n a T w2 D2.out (Nat.le_trans hhi B2.out.size) HPl.out HHl.out HBl.out hn (fun _ _ => rd_nil' _) ha hy (by rw [G2.out]; omega) (by rw [G2.out]; omega))
  go_wp2_with fail
  refine C3.out.mono ?_
  rintro e w3 ⟨rfl, sp1, sp2⟩
  have SP1 := hide sp1
  have SP2 := hide sp2
  have X13 := hide (X12.out.chg sp2 (by omega))
  obtain ⟨d0, d1, d2⟩ := X13.out.c3
  have g0 := X13.out.frozen 0
  have g1 := X13.out.frozen 1
  have g2 := X13.out.frozen 2
  clear sp1 sp2 c0 c1 c2
  have XZ := hide (X13.out.store3 (.slice ap P.length cp) (.slice ah H.length ch) (.slice ab B.length cb))
  have CZ : Hid (Chg (w.heap.size + 1) (w.heap.size + 2) w3 (((w3.setCell ⟨w.heap.size + 1, 0, none⟩ (.slice ap P.length cp)).setCell ⟨w.heap.size + 1, 1, none⟩ (.slice ah H.length ch)).setCell ⟨w.heap.size + 1, 2, none⟩ (.slice ab B.length cb))) := Chg.store3 _ _ _ _ _ (Nat.le_refl _) (by omega)
  go_wp2
  refine bodyPost_ret (res_dsk2 rfl _ _ (w.heap.size + 1) _ _ _ (0, 0) rfl XZ.out) rfl ⟨rfl, fun e => ?_, ?_⟩
  · exact (SP1.out e).chg CZ.out (.inl (by omega))
  · exact chg_new ((Chg.ofBelow B2.out).trans SP2.out) CZ.out (by omega)
end Go.Proofs.YtbgadbokejaomaaGreatDoor

/-
  MendStripe of the model, at every disk and numbers. A disk in a variable that is read alone, and what a stripe and its mending answer, told at once for both of the law's branches. Each contract says what it asks.
-/
import Derived.Test.YthdbacihhmilbaaGreatDoorMendsB40
import Derived.Test.YthdbacihhmilbaaGreatDoorMendsB39
import Derived.Test.YthdbacihhmilbaaGreatDoorMendsB41
import Derived.Test.YthdbacihhmilbaaGreatDoorMendsB42
import Derived.Test.YthdbacihhmilbaaGreatDoorMendsB45
import Derived.Test.YthdbacihhmilbaaGreatDoorMendsB38
import Derived.Deep.DeepCutAuto
import Derived.Test.YthdbacihhmilbaaGreatDoorMendsB1
import Derived.Test.YthdbacihhmilbaaGreatDoorMendsB0
set_option linter.unusedVariables false
set_option maxRecDepth 100000
set_option maxHeartbeats 3200000
set_option linter.unusedSimpArgs false
namespace Go.Proofs.YthdbacihhmilbaaGreatDoor
open Go.RowKit
open Gf (ci nat)
theorem sMendStripe_calls (p h b : Value) (P H : List ByteArray) (B : List Bool) (A least : Int) (ok : Bool) (w : World) (hok : ok = true ↔ ((gkP P H B ∧ ftP P A) ∧ dcOk (rsX P H B least A))) (hp : RdT w p P) (hh : RdT w h H) (hb : RdZ w b B) :
    Calls Tryz.prog 20 #[.agg #[p, h, b], .int .i64 A, .int .i64 least] w fun e w' => ∃ p' h' b', e = .returned (.tuple #[.agg #[p', h', b'], .int .i64 (mdC ok B A (rsX P H B least A)), .bool ok]) ∧ DskV w' w.heap.size w'.heap.size p' h' b' (ifT ok P) (ifT ok (mdH H B A (rsX P H B least A))) (ifT ok B) ∧ Below w.heap.size w w' := by
 have RP := hide hp
 have RH := hide hh
 have RB := hide hb
 have C1 := hide (fun W h1 h2 h3 => sReadStripe_calls p h b P H B A least ok W hok h1 h2 h3)
 have A0 : Hid (Hand w ((w.alloc (.cells #[p, h, b] 26)).alloc (.cells nil3 26)) [TBox (w.heap.size + 1) nil3 26, TBox w.heap.size #[p, h, b] 26]) := by
  show Hand _ _ _
  have := ((Hand.start w).box #[p, h, b] 26).box nil3 26
  simpa using this
 obtain ⟨c0, c1, c2⟩ := (A0.out.atBox 1 rfl).c3
 have HOK := hide hok
 clear hp hh hb hok
 cases ok with
 | false =>
  show Calls _ _ _ _ fun e w' => ∃ p' h' b', e = .returned (.tuple #[.agg #[p', h', b'], .int .i64 0, .bool false]) ∧ DskV w' w.heap.size w'.heap.size p' h' b' [] [] [] ∧ Below w.heap.size w w'
  clear HOK
  generalize dcT false (rsX P H B least A) = tt at *
  generalize rsOth false (rsX P H B least A) = oo at *
  go_enter Tryz.func20, Tryz.ntmps20
  go_wp2_with fail
  refine (C1.out _ (RP.out.below A0.out.below) (RH.out.below A0.out.below) (RB.out.below A0.out.below)).mono ?_
  rintro e w1 ⟨v1, rfl, o1, q⟩
  have A1 := hide (A0.out.step q)
  clear q A0 c0 c1 c2 o1
  obtain ⟨d0, d1, d2⟩ := (A1.out.atBox 0 rfl).c3
  have g0 := (A1.out.atBox 0 rfl).frozen 0
  have g1 := (A1.out.atBox 0 rfl).frozen 1
  have g2 := (A1.out.atBox 0 rfl).frozen 2
  have AZ := hide (A1.out.store3 0 rfl (.slice none 0 0) (.slice none 0 0) (.slice none 0 0))
  go_wp2
  exact bodyPost_ret (res_dsk3 rfl _ _ (w.heap.size + 1) _ _ _ (0, 0) rfl (AZ.out.atBox 0 rfl)) rfl ⟨_, _, _, rfl, DskV.nil _ _ _, AZ.out.below⟩
 | true =>
  have GK := hide (HOK.out.1 rfl).1.1
  have FT := hide (HOK.out.1 rfl).1.2
  have DC := hide (HOK.out.1 rfl).2
  obtain ⟨a, rfl⟩ : ∃ a : Nat, A = (a : Int) := ⟨A.toNat, by have := FT.out.1; omega⟩
  have ha5 : a + 5 ≤ P.length := by have := FT.out.2; omega
  have n24 : P.length ≤ 24 := GK.out.1.2
  have ex : rsX P H B least (a : Int) = skL P H B least a := by unfold rsX; rw [Int.toNat_natCast]
  rw [ex] at C1 DC
  rw [ex]
  have LM : Hid ((mdH H B (a : Int) (skL P H B least a)).length = P.length) := by show _ = _; unfold mdH; rw [mdW_length]; exact GK.out.2.1
  have C2 := hide (fun W h1 h2 h3 => l7Own_calls p h b P H B W h1 h2 h3 ⟨by omega, n24⟩ (by rw [GK.out.2.1]; omega) (by rw [GK.out.2.2.1]; omega))
  have C3 := hide (fun lo hi W p h b d hb => l8Mend_calls p h b P H B a least lo hi W GK.out ha5 DC.out.1 d hb)
  have C4 := hide (fun W p h b h1 h2 h3 => l7Own_calls p h b P (mdH H B (a : Int) (skL P H B least a)) B W h1 h2 h3 ⟨by omega, n24⟩ (by rw [LM.out]; omega) (by rw [GK.out.2.2.1]; omega))
  show Calls _ _ _ _ fun e w' => ∃ p' h' b', e = .returned (.tuple #[.agg #[p', h', b'], .int .i64 ((mdL B (a : Int) (skL P H B least a)).length : Int), .bool true]) ∧ DskV w' w.heap.size w'.heap.size p' h' b' P (mdH H B (a : Int) (skL P H B least a)) B ∧ Below w.heap.size w w'
  generalize mdH H B (a : Int) (skL P H B least a) = Y at *
  generalize (mdL B (a : Int) (skL P H B least a)).length = cn at *
  generalize dcT true (skL P H B least a) = tt at *
  generalize rsOth true (skL P H B least a) = oo at *
  clear HOK FT DC ex LM GK
  go_enter Tryz.func20, Tryz.ntmps20
  go_wp2_with fail
  refine (C1.out _ (RP.out.below A0.out.below) (RH.out.below A0.out.below) (RB.out.below A0.out.below)).mono ?_
  rintro e w1 ⟨v1, rfl, o1, q⟩
  have A1 := hide (A0.out.step q)
  clear q A0 c0 c1 c2 o1
  obtain ⟨c0, c1, c2⟩ := (A1.out.atBox 1 rfl).c3
  go_wp2_with fail
  refine (C2.out _ (RP.out.below A1.out.below) (RH.out.below A1.out.below) (RB.out.below A1.out.below)).mono ?_
  rintro e w2 ⟨p2, h2, b2, rfl, d2, q⟩
  have A2 := hide (A1.out.add q (TDsk.st _ _ _ _ _ _) d2)
  clear q A1 c0 c1 c2 d2
  obtain ⟨lo, hi, d3, lw, hw3, put⟩ := A2.out.open 0 rfl
  have D3 : Hid (DskV w2 lo hi p2 h2 b2 P H B) := d3
  have PUT := hide put
  clear d3 put
  obtain ⟨ap, cp, ah, ch, ab, cb, e1, e2, e3⟩ := D3.out.sl
  subst e1
  subst e2
  subst e3
  have C3' := hide (C3.out lo hi w2 _ _ _ D3.out hw3)
  go_wp2_with fail
  refine C3'.out.mono ?_
  rintro e w3 ⟨rfl, d4, q4⟩
  have A3 := hide ((PUT.out w3 (TDsk _ _ _ P Y B) (TDsk.st _ _ _ _ _ _) d4 q4).box #[.slice ap P.length cp, .slice ah H.length ch, .slice ab B.length cb] 26)
  clear PUT D3 C3' C3 d4 q4 A2 lw hw3
  obtain ⟨c0, c1, c2⟩ := (A3.out.atBox 0 rfl).c3
  obtain ⟨lo2, hi2, d5⟩ := A3.out.get 1 rfl
  have D5 : Hid (DskV _ lo2 hi2 (.slice ap P.length cp) (.slice ah H.length ch) (.slice ab B.length cb) P Y B) := d5
  clear d5
  go_wp2_with fail
  refine (C4.out _ _ _ _ D5.out.rp D5.out.rh D5.out.rb).mono ?_
  rintro e w5 ⟨p5, h5, b5, rfl, d6, q⟩
  obtain ⟨ap5, cp5, ah5, ch5, ab5, cb5, rfl, rfl, rfl⟩ := d6.sl
  have A5 := hide (A3.out.add q (TDsk.st _ _ _ _ _ _) d6)
  clear q d6 A3 c0 c1 c2 D5
  obtain ⟨d0, d1, d2⟩ := (A5.out.atBox 3 rfl).c3
  have g0 := (A5.out.atBox 3 rfl).frozen 0
  have g1 := (A5.out.atBox 3 rfl).frozen 1
  have g2 := (A5.out.atBox 3 rfl).frozen 2
  have AZ := hide (A5.out.store3 3 rfl (.slice ap5 P.length cp5) (.slice ah5 Y.length ch5) (.slice ab5 B.length cb5))
  go_wp2
  obtain ⟨lo3, hi3, d7, lw, hw3, _⟩ := AZ.out.open 0 rfl
  have D7 : DskV _ lo3 hi3 (.slice ap5 P.length cp5) (.slice ah5 Y.length ch5) (.slice ab5 B.length cb5) P Y B := d7
  exact bodyPost_ret (res_dsk3 rfl _ _ (w.heap.size + 1) _ _ _ (0, 0) rfl (AZ.out.atBox 3 rfl)) rfl ⟨_, _, _, rfl, D7.wider lw hw3, AZ.out.below⟩
structure Dv (w : World) (g : Nat) (p h b : Value) (P H : List ByteArray) (B : List Bool) : Prop where
 rp : RdT w p P
 rh : RdT w h H
 rz : RdZ w b B
 bx : BoxAt w g #[p, h, b] 26
theorem Dv.below {w w' : World} {g : Nat} {p h b : Value} {P H : List ByteArray} {B : List Bool} (d : Dv w g p h b P H B) (hb : Below w.heap.size w w') : Dv w' g p h b P H B := ⟨d.rp.below hb, d.rh.below hb, d.rz.below hb, d.bx.below hb⟩
theorem Dv.made {w : World} {lo hi : Nat} {p h b : Value} {P H : List ByteArray} {B : List Bool} (d : DskV w lo hi p h b P H B) : Dv (w.alloc (.cells #[p, h, b] 26)) w.heap.size p h b P H B := by
 have d' := d.below (below_box w (.cells #[p, h, b] 26))
 exact ⟨d'.rp, d'.rh, d'.rb, BoxAt.new _ _ _⟩
theorem wf10 {A : Int} (h : -3 ≤ A ∧ A ≤ 11) : (Lit.int .i64 A).wf = true := by
 simp [Lit.wf, IntKind.min, IntKind.max, IntKind.signed, IntKind.bits]
 omega
theorem mend_facts (P H : List ByteArray) (B : List Bool) (A L : Int) (hwf : (Lit.int .i64 A).wf = true) :
    ∃ (ok : Bool) (P1 H1 : List ByteArray) (B1 : List Bool) (n : Int) (t0 : ByteArray) (M : List Int),
    (∀ (p h b : Value) (w : World), Gf.Tab w → RdT w p P → RdT w h H → RdZ w b B → Calls Tryz.prog 19 #[.agg #[p, h, b], .int .i64 A, .int .i64 L] w fun e w' => ∃ p' h' b', e = .returned (.tuple #[.agg #[p', h', b'], .int .i64 n, .bool ok]) ∧ DskV w' w.heap.size w'.heap.size p' h' b' P1 H1 B1 ∧ Below w.heap.size w w') ∧
    (∀ (p h b : Value) (w : World), RdT w p P → RdT w h H → RdZ w b B → Calls Tryz.prog 20 #[.agg #[p, h, b], .int .i64 A, .int .i64 L] w fun e w' => ∃ p' h' b', e = .returned (.tuple #[.agg #[p', h', b'], .int .i64 n, .bool ok]) ∧ DskV w' w.heap.size w'.heap.size p' h' b' P1 H1 B1 ∧ Below w.heap.size w w') ∧
    (∀ (p h b : Value) (w : World), Gf.Tab w → RdT w p P → RdT w h H → RdZ w b B → Calls Tryz.prog 9 #[.agg #[p, h, b], .int .i64 A, .int .i64 L] w fun e w' => ∃ v', e = .returned (.tuple #[.string t0, v', .bool ok]) ∧ Own w' w.heap.size v' M ∧ Below w.heap.size w w') ∧
    (ok = true → ∃ (M1 : List Int), (∀ (p h b : Value) (w : World), Gf.Tab w → RdT w p P1 → RdT w h H1 → RdZ w b B1 → Calls Tryz.prog 9 #[.agg #[p, h, b], .int .i64 A, .int .i64 L] w fun e w' => ∃ v', e = .returned (.tuple #[.string t0, v', .bool true]) ∧ Own w' w.heap.size v' M1 ∧ Below w.heap.size w w') ∧
     (M1.length : Int) + n = (M.length : Int) ∧ (M1.length ≤ 5 ∧ M.length ≤ 5) ∧ 0 ≤ n ∧ ∀ j, j < M1.length → ∃ i : Nat, M1.getD j 0 = (i : Int) ∧ i < 5 ∧ 0 ≤ A ∧ A.toNat + i < B.length ∧ B.getD (A.toNat + i) false = true) := by
 by_cases hK : (gkP P H B ∧ ftP P A) ∧ dcOk (rsX P H B L A)
 ·obtain ⟨f1, f2, f3, f4⟩ := md_all hK
  have y : true = true ↔ ((gkP P H B ∧ ftP P A) ∧ dcOk (rsX P H B L A)) := ⟨fun _ => hK, fun _ => rfl⟩
  refine ⟨true, _, _, _, _, _, _, fun p h b w hT h1 h2 h3 => mendStripe_calls p h b P H B A L true w hT y hwf h1 h2 h3, fun p h b w h1 h2 h3 => sMendStripe_calls p h b P H B A L true w y h1 h2 h3, fun p h b w hT h1 h2 h3 => readStripe_calls p h b P H B A L true w hT y hwf h1 h2 h3, fun _ => ?_⟩
  refine ⟨_, fun p h b w hT h1 h2 h3 => ?_, f3, ⟨rsOth_le _ _, rsOth_le _ _⟩, ?_, ?_⟩
  ·have := readStripe_calls p h b P (mdH H B A (rsX P H B L A)) B A L true w hT ⟨fun _ => f1, fun _ => rfl⟩ hwf h1 h2 h3
   rw [f2] at this
   exact this
  ·unfold mdC
   rw [if_pos rfl]
   omega
  ·intro j hj
   obtain ⟨i, a1, a2, a3⟩ := f4 j hj
   have hft := hK.1.2
   have hB := hK.1.1.2.2.1
   unfold ftP at hft
   exact ⟨i, a1, a2, hft.1, by omega, a3⟩
 ·have y : false = true ↔ ((gkP P H B ∧ ftP P A) ∧ dcOk (rsX P H B L A)) := ⟨fun h => by simp at h, fun h => absurd h hK⟩
  exact ⟨false, _, _, _, _, _, _, fun p h b w hT h1 h2 h3 => mendStripe_calls p h b P H B A L false w hT y hwf h1 h2 h3, fun p h b w h1 h2 h3 => sMendStripe_calls p h b P H B A L false w y h1 h2 h3, fun p h b w hT h1 h2 h3 => readStripe_calls p h b P H B A L false w hT y hwf h1 h2 h3, fun h => by simp at h⟩
theorem text_facts (m : List (List Int)) : ∃ (t : ByteArray) (ok : Bool),
    (∀ (v : Value) (w : World), Gf.Tab w → RdM w v m → Calls Tryz.prog 25 #[v] w fun e w' => e = .returned (.tuple #[.string t, .bool ok]) ∧ Below w.heap.size w w') ∧
    (∀ (v : Value) (w : World), RdM w v m → Calls Tryz.prog 27 #[v] w fun e w' => e = .returned (.tuple #[.string t, .bool ok]) ∧ Below w.heap.size w w') := by
 obtain ⟨y, hy⟩ := tf_bool m
 exact ⟨_, _, fun v w hT h => textFrom_calls v m y w hy hT h, fun v w h => sTextFrom_calls v m y w hy h⟩
theorem fits_facts (P H : List ByteArray) (B : List Bool) (A : Int) (hwf : (Lit.int .i64 A).wf = true) : ∃ (f g : Bool),
    (∀ (p h b : Value) (w : World), RdT w p P → RdT w h H → RdZ w b B → Calls Tryz.prog 29 #[.agg #[p, h, b], .int .i64 A] w fun e w' => e = .returned (.tuple #[.bool f, .bool g]) ∧ Below w.heap.size w w') ∧
    (∀ (p h b : Value) (w : World), RdT w p P → RdT w h H → RdZ w b B → Calls Tryz.prog 30 #[.agg #[p, h, b], .int .i64 A] w fun e w' => e = .returned (.tuple #[.bool f, .bool g]) ∧ Below w.heap.size w w') := by
 obtain ⟨g, hg⟩ := gk_bool' P H B
 obtain ⟨f, hf⟩ := ft_bool P H B A
 exact ⟨f, g, fun p h b w h1 h2 h3 => fitsStripe_calls p h b P H B A g f w hg hf hwf h1 h2 h3, fun p h b w h1 h2 h3 => sFitsStripe_calls p h b P H B A g f w hg hf hwf h1 h2 h3⟩
theorem pieces_facts (S : ByteArray) (hS : S.size ≤ 48) : ∃ (m : List (List Int)) (ok : Bool),
    (∀ (w : World), Gf.Tab w → Calls Tryz.prog 22 #[.string S] w fun e w' => ∃ v', e = .returned (.tuple #[v', .bool ok]) ∧ RdM w' v' m ∧ Below w.heap.size w w') ∧
    (∀ (w : World), Calls Tryz.prog 23 #[.string S] w fun e w' => ∃ v', e = .returned (.tuple #[v', .bool ok]) ∧ RdM w' v' m ∧ Below w.heap.size w w') ∧
    (ok = true → ∀ (v : Value) (w : World), Gf.Tab w → RdM w v m → Calls Tryz.prog 25 #[v] w fun e w' => e = .returned (.tuple #[.string S, .bool true]) ∧ Below w.heap.size w w') := by
 have hM : S.size ≤ maxLen := by unfold maxLen; omega
 refine ⟨(pfR S).1, (pfR S).2, fun w hT => (piecesFor_calls S w hT hM).mono ?_, fun w => (sPiecesFor_calls S w hM).mono ?_, fun hok v w hT h => ?_⟩
 ·rintro e w' ⟨v', rfl, m, b⟩
  exact ⟨v', rfl, m.rd, b⟩
 ·rintro e w' ⟨v', rfl, m, b⟩
  exact ⟨v', rfl, m.rd, b⟩
 ·by_cases h47 : S.size ≤ 47
  ·obtain ⟨k1, k2, k3⟩ := pf_back h47
   have e : (pfR S).1 = mulM (codeM 3 2) (datM S) := by unfold pfR; rw [if_pos h47]
   rw [e] at h
   have := textFrom_calls v _ true w ⟨fun _ => k2, fun _ => rfl⟩ hT h
   unfold tfR at this
   rw [if_pos ⟨k1, rfl⟩, k3] at this
   exact this
  ·unfold pfR at hok
   rw [if_neg h47] at hok
   simp at hok
theorem RdM.slQ {w : World} {v : Value} {xs : List (List Int)} (h : RdM w v xs) : ∃ a c, v = .slice a xs.length c := by
 obtain ⟨a, c, e, _⟩ := h
 exact ⟨a, c, e⟩
theorem fnMends_core (cv mv : Value) (w : World) (hT : Gf.Tab w) (hc : RdB w cv) (hm : RdB w mv) (hlen : ∀ a n c a' n' c', cv = .slice a n c → mv = .slice a' n' c' → (n : Int) + (n' : Int) ≤ 1048576) :
    Calls Tryz.prog 4 #[cv, mv] w fun e w' => e = .returned (.bool true) ∧ Below w.heap.size w w' := by
 have HC := hide hc
 have HM := hide hm
 have T := hide hT
 have S := hide (Below.refl w.heap.size w)
 obtain ⟨ca, cc, cz, rfl, _, _, _⟩ := hc
 obtain ⟨ma, mc, mz, rfl, _, _, _⟩ := hm
 have hl := hlen _ _ _ _ _ _ rfl rfl
 have hl' : ¬ (1048576 : Int) < (cz.length : Int) + (mz.length : Int) := by omega
 clear hlen hT
 go_enter Tryz.func4, Tryz.ntmps4
 go_wp2_with fail
 refine (drawMendStripe_of striped_ok _ _ HC.out).mono ?_
 rintro e wc ⟨p0, h0, b0, P, H, B, A, L, rfl, d, hA, q⟩
 obtain ⟨a0, c0, a0', c0', a0'', c0'', rfl, rfl, rfl⟩ := d.sl
 obtain ⟨w0, hw⟩ : ∃ u, u = wc.alloc (.cells #[.slice a0 P.length c0, .slice a0' H.length c0', .slice a0'' B.length c0''] 26) := ⟨_, rfl⟩
 obtain ⟨g0, hg⟩ : ∃ u, u = wc.heap.size := ⟨_, rfl⟩
 have D := hide (Dv.made d)
 have b := q.trans ((below_box wc (.cells #[.slice a0 P.length c0, .slice a0' H.length c0', .slice a0'' B.length c0''] 26)).mono q.size)
 rw [← hw, ← hg] at D
 rw [← hw] at b
 have WW : Hid (wc.alloc (.cells #[.slice a0 P.length c0, .slice a0' H.length c0', .slice a0'' B.length c0''] 26) = w0) := hw.symm
 have GG : Hid (wc.heap.size = g0) := hg.symm
 clear hw hg q d
 replace T := hide (T.out.below b)
 replace HM := hide (HM.out.below b)
 replace S := hide (S.out.trans (b.mono S.out.size))
 clear b
 go_upto_region 4 with fail
 rw [WW.out, GG.out]
 clear WW GG
 have hwf := wf10 (A := A) (by omega)
 obtain ⟨ok, P1, H1, B1, n, t0, M, E1, E2, E3, E4⟩ := mend_facts P H B A L hwf
 have F1 := hide E1
 have F2 := hide E2
 have F3 := hide E3
 have F4 := hide E4
 clear E1 E2 E3 E4 hwf
 obtain ⟨D0, D1, D2⟩ := D.out.bx.c3
 go_wp2_with fail
 refine (F1.out _ _ _ _ T.out D.out.rp D.out.rh D.out.rz).mono ?_
 rintro e wc ⟨p1, h1, b1, rfl, d, q⟩
 obtain ⟨a1, c1, a1', c1', a1'', c1'', rfl, rfl, rfl⟩ := d.sl
 obtain ⟨w1, hw⟩ : ∃ u, u = wc.alloc (.cells #[.slice a1 P1.length c1, .slice a1' H1.length c1', .slice a1'' B1.length c1''] 26) := ⟨_, rfl⟩
 obtain ⟨g1, hg⟩ : ∃ u, u = wc.heap.size := ⟨_, rfl⟩
 have X := hide (Dv.made d)
 have b := q.trans ((below_box wc (.cells #[.slice a1 P1.length c1, .slice a1' H1.length c1', .slice a1'' B1.length c1''] 26)).mono q.size)
 rw [← hw, ← hg] at X
 rw [← hw] at b
 have WW : Hid (wc.alloc (.cells #[.slice a1 P1.length c1, .slice a1' H1.length c1', .slice a1'' B1.length c1''] 26) = w1) := hw.symm
 have GG : Hid (wc.heap.size = g1) := hg.symm
 clear hw hg q d
 clear D0 D1 D2
 replace T := hide (T.out.below b)
 replace HM := hide (HM.out.below b)
 replace D := hide (D.out.below b)
 replace S := hide (S.out.trans (b.mono S.out.size))
 clear b
 go_upto_region 5 with fail
 rw [WW.out, GG.out]
 clear WW GG
 obtain ⟨D0, D1, D2⟩ := D.out.bx.c3
 go_wp2_with fail
 refine (F2.out _ _ _ _ D.out.rp D.out.rh D.out.rz).mono ?_
 rintro e wc ⟨p2, h2, b2, rfl, d, q⟩
 obtain ⟨a2, c2, a2', c2', a2'', c2'', rfl, rfl, rfl⟩ := d.sl
 obtain ⟨w2, hw⟩ : ∃ u, u = wc.alloc (.cells #[.slice a2 P1.length c2, .slice a2' H1.length c2', .slice a2'' B1.length c2''] 26) := ⟨_, rfl⟩
 obtain ⟨g2, hg⟩ : ∃ u, u = wc.heap.size := ⟨_, rfl⟩
 have Y := hide (Dv.made d)
 have b := q.trans ((below_box wc (.cells #[.slice a2 P1.length c2, .slice a2' H1.length c2', .slice a2'' B1.length c2''] 26)).mono q.size)
 rw [← hw, ← hg] at Y
 rw [← hw] at b
 have WW : Hid (wc.alloc (.cells #[.slice a2 P1.length c2, .slice a2' H1.length c2', .slice a2'' B1.length c2''] 26) = w2) := hw.symm
 have GG : Hid (wc.heap.size = g2) := hg.symm
 clear hw hg q d
 clear D0 D1 D2
 replace T := hide (T.out.below b)
 replace HM := hide (HM.out.below b)
 replace D := hide (D.out.below b)
 replace X := hide (X.out.below b)
 replace S := hide (S.out.trans (b.mono S.out.size))
 clear b
 go_upto_region 6 with fail
 rw [WW.out, GG.out]
 clear WW GG
 obtain ⟨D0, D1, D2⟩ := D.out.bx.c3
 go_wp2_with fail
 refine (F3.out _ _ _ _ T.out D.out.rp D.out.rh D.out.rz).mono ?_
 rintro e wn ⟨v3, rfl, o3, b⟩
 obtain ⟨a3, c3, rfl⟩ := row_slice o3
 clear o3
 clear D0 D1 D2
 replace T := hide (T.out.below b)
 replace HM := hide (HM.out.below b)
 replace D := hide (D.out.below b)
 replace X := hide (X.out.below b)
 replace Y := hide (Y.out.below b)
 replace S := hide (S.out.trans (b.mono S.out.size))
 clear b
 clear F1 F2 F3
 obtain ⟨X0, X1, X2⟩ := X.out.bx.c3
 obtain ⟨Y0, Y1, Y2⟩ := Y.out.bx.c3
 go_wp2_with fail
 refine (sameDisks_same _ _ _ _ _ _ P1 H1 B1 _ X.out.rp X.out.rh X.out.rz Y.out.rp Y.out.rh Y.out.rz).mono ?_
 rintro e wn ⟨rfl, b⟩
 clear X0 X1 X2 Y0 Y1 Y2
 clear Y
 replace T := hide (T.out.below b)
 replace HM := hide (HM.out.below b)
 replace D := hide (D.out.below b)
 replace X := hide (X.out.below b)
 replace S := hide (S.out.trans (b.mono S.out.size))
 clear b
 go_upto_if 95 with fail
 go_cut [] (fun wx => Gf.Tab wx ∧ RdB wx (.slice ma mz.length mc) ∧ Below w.heap.size w wx)
 case first =>
  cases ok with
  | false =>
   clear F4 D X hA
   go_wp2_with fail
   go_meet
   exact ⟨T.out, HM.out, S.out⟩
  | true =>
   obtain ⟨M1, E5, e1, e2, e3, e4⟩ := F4.out (by simp)
   have F5 := hide E5
   have Q1 := hide e1
   have Q2 := hide e2
   have Q3 := hide e3
   have Q4 := hide e4
   clear E5 e1 e2 e3 e4 F4
   obtain ⟨X0, X1, X2⟩ := X.out.bx.c3
   go_wp2_with fail
   refine (F5.out _ _ _ _ T.out X.out.rp X.out.rh X.out.rz).mono ?_
   rintro e wn ⟨v4, rfl, o4, b⟩
   obtain ⟨a4, c4, rfl⟩ := row_slice o4
   have R4 := hide o4.rd
   clear o4
   clear X0 X1 X2
   clear X
   replace T := hide (T.out.below b)
   replace HM := hide (HM.out.below b)
   replace D := hide (D.out.below b)
   replace S := hide (S.out.trans (b.mono S.out.size))
   clear b
   clear F5
   have hM5 := Q2.out
   have hn0 := Q3.out
   have hq1 := Q1.out
   have hsum : wrap64 ((M1.length : Int) + n) = (M.length : Int) := by unfold wrap64; omega
   clear hM5 hn0 hq1
   go_wp2_with fail
   go_loopg [122] M1.length (fun gh s122 wx => ∃ (i j : Nat), i = gh ∧ i + j = M1.length ∧ s122 = .int .i64 (j : Int) ∧ wn = wx)
   case atStart => exact ⟨M1.length, 0, rfl, by omega, rfl, rfl⟩
   case round =>
    obtain ⟨i, j, rfl, hij, rfl, rfl⟩ := hrel
    by_cases hi0 : i = 0
    ·subst hi0
     obtain rfl : j = M1.length := by omega
     clear R4 D Q1 Q2 Q3 Q4 hsum hij
     go_wp2_with fail
     go_meet
     exact ⟨T.out, HM.out, S.out⟩
    ·obtain ⟨i', rfl⟩ : ∃ i', i = i' + 1 := ⟨i - 1, by omega⟩
     have hjl : j < M1.length := by omega
     have hjz : (j : Int) < (M1.length : Int) := by omega
     obtain ⟨q, hq, hq5, hA0, hiB, hib⟩ := Q4.out j hjl
     obtain ⟨lb, lo, hua, hcell⟩ : ∃ b off, a4 = some ⟨b, off, none⟩ ∧ ∀ i, i < M1.length → World.cell? _ ⟨b, off + i, none⟩ = some (.int .i64 (M1.getD i 0)) := by
      obtain ⟨_, _, e, _, _, h9⟩ := R4.out
      simp only [Value.slice.injEq] at e
      obtain ⟨rfl, _, _⟩ := e
      rcases h9 with h9 | h9
      ·rw [h9] at hjl
       simp at hjl
      ·obtain ⟨b, off, e1, _, e2⟩ := h9
       exact ⟨b, off, e1, e2⟩
     subst hua
     have hc := hcell j hjl
     rw [hq] at hc
     clear hcell hq
     obtain ⟨zb, zo, hz, hzc⟩ := RdZ.cell D.out.rz (A.toNat + q) hiB
     rw [hib] at hzc
     subst hz
     clear hib
     obtain ⟨aN, rfl⟩ : ∃ aN : Nat, A = (aN : Int) := ⟨A.toNat, by omega⟩
     rw [Int.toNat_natCast] at hzc hiB
     have hiz : (aN : Int) + (q : Int) < (B.length : Int) := by omega
     have HIJ := hide hij
     clear hij hsum
     obtain ⟨D0, D1, D2⟩ := D.out.bx.c3
     go_wp2_with fail
     go_roundg i'
     case measure => omega
     case rel => exact ⟨i', j + 1, rfl, by have := HIJ.out; omega, by have := Q2.out.1; rw [show wrap64 ((j : Int) + 1) = ((j + 1 : Nat) : Int) by unfold wrap64; omega], rfl⟩
 case rest =>
  clear T HM S F4 D X hA
  have T := hide hcut.1
  have HM := hide hcut.2.1
  have S := hide hcut.2.2
  clear hcut
  go_wp2_with fail
  refine (drawPiecesFor_calls _ _ HM.out).mono ?_
  rintro e wn ⟨s9, hs9, rfl, b⟩
  replace T := hide (T.out.below b)
  replace HM := hide (HM.out.below b)
  replace S := hide (S.out.trans (b.mono S.out.size))
  clear b
  obtain ⟨m9, ok9, E1, E2, E3⟩ := pieces_facts s9 hs9
  have F1 := hide E1
  have F2 := hide E2
  have F3 := hide E3
  clear E1 E2 E3 hs9
  go_wp2_with fail
  refine (F1.out _ T.out).mono ?_
  rintro e wn ⟨v9, rfl, r9, b⟩
  obtain ⟨a9, c9, rfl⟩ := r9.slQ
  replace r9 := r9.below (Below.refl _ _)
  have R9 := hide r9
  clear r9
  replace T := hide (T.out.below b)
  replace HM := hide (HM.out.below b)
  replace S := hide (S.out.trans (b.mono S.out.size))
  clear b
  go_wp2_with fail
  refine (F2.out _).mono ?_
  rintro e wn ⟨u9, rfl, r9, b⟩
  obtain ⟨a8, c8, rfl⟩ := r9.slQ
  have R8 := hide r9
  clear r9
  replace T := hide (T.out.below b)
  replace HM := hide (HM.out.below b)
  replace R9 := hide (R9.out.below b)
  replace S := hide (S.out.trans (b.mono S.out.size))
  clear b
  go_wp2_with fail
  refine (sameLists_same _ _ m9 _ R9.out R8.out).mono ?_
  rintro e wn ⟨rfl, b⟩
  clear R8
  replace T := hide (T.out.below b)
  replace HM := hide (HM.out.below b)
  replace R9 := hide (R9.out.below b)
  replace S := hide (S.out.trans (b.mono S.out.size))
  clear b
  go_upto_if 156 with fail
  go_cut [] (fun wx => Gf.Tab wx ∧ RdB wx (.slice ma mz.length mc) ∧ Below w.heap.size w wx)
  case first =>
   cases ok9 with
   | false =>
    go_wp2_with fail
    go_meet
    exact ⟨T.out, HM.out, S.out⟩
   | true =>
    go_wp2_with fail
    refine (F3.out (by simp) _ _ T.out R9.out).mono ?_
    rintro e wn ⟨rfl, b⟩
    replace T := hide (T.out.below b)
    replace HM := hide (HM.out.below b)
    replace S := hide (S.out.trans (b.mono S.out.size))
    clear b
    go_wp2_with fail
    go_meet
    exact ⟨T.out, HM.out, S.out⟩
  case rest =>
   clear T HM S R9 F1 F2 F3
   have T := hide hcut.1
   have HM := hide hcut.2.1
   have S := hide hcut.2.2
   clear hcut
   go_wp2_with fail
   refine (drawTextFrom_calls _ _ HM.out).mono ?_
   rintro e wn ⟨v7, m7, rfl, r7, _, _, b⟩
   obtain ⟨a7, c7, rfl⟩ := r7.slQ
   have R7 := hide r7
   clear r7
   replace T := hide (T.out.below b)
   replace HM := hide (HM.out.below b)
   replace S := hide (S.out.trans (b.mono S.out.size))
   clear b
   obtain ⟨t7, ok7, E1, E2⟩ := text_facts m7
   have F1 := hide E1
   have F2 := hide E2
   clear E1 E2
   go_wp2_with fail
   refine (F1.out _ _ T.out R7.out).mono ?_
   rintro e wn ⟨rfl, b⟩
   replace T := hide (T.out.below b)
   replace HM := hide (HM.out.below b)
   replace R7 := hide (R7.out.below b)
   replace S := hide (S.out.trans (b.mono S.out.size))
   clear b
   go_wp2_with fail
   refine (F2.out _ _ R7.out).mono ?_
   rintro e wn ⟨rfl, b⟩
   clear R7
   replace T := hide (T.out.below b)
   replace HM := hide (HM.out.below b)
   replace S := hide (S.out.trans (b.mono S.out.size))
   clear b
   clear F1 F2
   go_wp2_with fail
   refine (drawFitsStripe_of striped_ok _ _ HM.out).mono ?_
   rintro e wc ⟨p5, h5, b5, P5, H5, B5, A5, rfl, d, hA5, q⟩
   obtain ⟨a5, c5, a5', c5', a5'', c5'', rfl, rfl, rfl⟩ := d.sl
   obtain ⟨w5, hw⟩ : ∃ u, u = wc.alloc (.cells #[.slice a5 P5.length c5, .slice a5' H5.length c5', .slice a5'' B5.length c5''] 26) := ⟨_, rfl⟩
   obtain ⟨g5, hg⟩ : ∃ u, u = wc.heap.size := ⟨_, rfl⟩
   have D5 := hide (Dv.made d)
   have b := q.trans ((below_box wc (.cells #[.slice a5 P5.length c5, .slice a5' H5.length c5', .slice a5'' B5.length c5''] 26)).mono q.size)
   rw [← hw, ← hg] at D5
   rw [← hw] at b
   have WW : Hid (wc.alloc (.cells #[.slice a5 P5.length c5, .slice a5' H5.length c5', .slice a5'' B5.length c5''] 26) = w5) := hw.symm
   have GG : Hid (wc.heap.size = g5) := hg.symm
   clear hw hg q d
   replace T := hide (T.out.below b)
   replace HM := hide (HM.out.below b)
   replace S := hide (S.out.trans (b.mono S.out.size))
   clear b
   go_upto_region 32 with fail
   rw [WW.out, GG.out]
   clear WW GG
   obtain ⟨f5, g5', E1, E2⟩ := fits_facts P5 H5 B5 A5 (wf10 hA5)
   have F1 := hide E1
   have F2 := hide E2
   clear E1 E2 hA5
   obtain ⟨D50, D51, D52⟩ := D5.out.bx.c3
   go_wp2_with fail
   refine (F1.out _ _ _ _ D5.out.rp D5.out.rh D5.out.rz).mono ?_
   rintro e wn ⟨rfl, b⟩
   clear D50 D51 D52
   replace T := hide (T.out.below b)
   replace HM := hide (HM.out.below b)
   replace D5 := hide (D5.out.below b)
   replace S := hide (S.out.trans (b.mono S.out.size))
   clear b
   obtain ⟨D50, D51, D52⟩ := D5.out.bx.c3
   go_wp2_with fail
   refine (F2.out _ _ _ _ D5.out.rp D5.out.rh D5.out.rz).mono ?_
   rintro e wn ⟨rfl, b⟩
   clear D50 D51 D52
   clear D5
   replace T := hide (T.out.below b)
   replace HM := hide (HM.out.below b)
   replace S := hide (S.out.trans (b.mono S.out.size))
   clear b
   clear F1 F2
   go_wp2
   go_ret
   exact ⟨by simp, S.out⟩
theorem IsRow.rdbMends {w : World} {a : Option Addr} {len cap : Nat} {zs : List Int} (h : Frame.IsRow .u8 w a len cap zs) (hb : len ≤ 140737488351232) : RdB w (.slice a len cap) := by
 rcases h with ⟨rfl, rfl, rfl, rfl⟩ | ⟨⟨b, off, sp⟩, rfl, hl, hm, hz, hc, hwf⟩
 ·exact ⟨none, 0, [], rfl, by simp, fun i => by simp, .inl rfl⟩
 ·have bd : ∀ n ∈ zs, 0 ≤ n ∧ n ≤ 255 := by
    intro n hn
    have := hwf n hn
    simp [Lit.wf, IntKind.min, IntKind.max, IntKind.signed, IntKind.bits] at this
    omega
  have el : ((zs.take len).map Int.toNat).length = len := by rw [List.length_map, List.length_take]; omega
  refine ⟨_, cap, (zs.take len).map Int.toNat, by rw [el], by rw [el]; omega, ?_, ?_⟩
  ·intro i
   simp only [qg, List.getElem?_map, List.getElem?_take]
   split
   ·cases hx : zs[i]? with
    | none => simp
    | some n => have := bd n (List.mem_of_getElem? hx); simp; omega
   ·simp
  ·by_cases h0 : len = 0
   ·left
    subst h0
    simp
   ·right
    have h00 := hc 0 (by omega)
    obtain rfl : sp = none := by simpa [Addr.add] using World.cell?_spot h00
    refine ⟨b, off, rfl, ?_, ?_⟩
    ·have : w.cell? ⟨b, off, none⟩ = some (.int .u8 (zs.getD 0 0)) := by simpa [Addr.add] using h00
     unfold World.cell? at this
     cases hh : w.heap[b]? with
     | none => simp [hh] at this
     | some o => exact (Array.getElem?_eq_some_iff.1 hh).1
    ·intro i hi
     rw [el] at hi
     have := hc i (by omega)
     have hadd : (⟨b, off, none⟩ : Addr).add i = ⟨b, off + i, none⟩ := by unfold Addr.add; split <;> simp_all
     rw [hadd] at this
     rw [this]
     have hiz : i < zs.length := by omega
     have hn := bd zs[i] (List.getElem_mem hiz)
     simp only [qg, List.getElem?_map, List.getElem?_take, if_pos hi, List.getElem?_eq_getElem hiz, Option.map_some, Option.getD_some]
     congr 2
     omega
theorem fnMends_walk (a : Option Addr) (len cap : Nat) (zs : List Int) (a' : Option Addr) (len' cap' : Nat) (zs' : List Int) (w : World) (hT : Gf.Tab w) (h0 : Frame.IsRow .u8 w a len cap zs) (h1 : Frame.IsRow .u8 w a' len' cap' zs') (b0 : len ≤ 140737488351232) (b1 : len' ≤ 140737488351232) :
    Calls Tryz.prog 4 #[.slice a len cap, .slice a' len' cap'] w fun e w' => e = .returned (.bool true) ∧ Below w.heap.size w w' := by
 by_cases h : (len : Int) + (len' : Int) ≤ 1048576
 ·refine fnMends_core _ _ w hT (IsRow.rdbMends h0 b0) (IsRow.rdbMends h1 b1) ?_
  intro _ n _ _ n' _ e e'
  simp only [Value.slice.injEq] at e e'
  omega
 ·have h' : (1048576 : Int) < (len : Int) + (len' : Int) := by omega
  clear h hT h0 h1
  go_enter Tryz.func4, Tryz.ntmps4
  go_wp2
  go_ret
  exact ⟨rfl, Below.refl _ _⟩
end Go.Proofs.YthdbacihhmilbaaGreatDoor

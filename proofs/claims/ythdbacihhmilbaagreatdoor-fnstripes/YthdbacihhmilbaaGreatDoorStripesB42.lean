/-
  A step of a disk: the model's StepDisk, call by call. The contract says what it asks. WriteStripe and StepDisk of the model, told weakly: some disk comes of them. Each contract says what it asks.
-/
import Derived.Test.YthdbacihhmilbaaGreatDoorStripesB36
import Derived.Test.YthdbacihhmilbaaGreatDoorStripesB41
import Derived.Test.YthdbacihhmilbaaGreatDoorStripesB0
set_option linter.unusedVariables false
set_option linter.unusedSimpArgs false
set_option maxRecDepth 100000
set_option maxHeartbeats 3200000
namespace Go.Proofs.YthdbacihhmilbaaGreatDoor
open Go.RowKit
def TIf (c : Bool) (t : Tg) : Tg := fun lo hi w => c = true → t lo hi w
theorem TIf.st (c : Bool) {t : Tg} (h : t.st) : (TIf c t).st := fun lo hi a b w w' h1 hc hd e => h lo hi a b w w' (h1 e) hc hd
theorem sStepDisk_calls (p h b vk : Value) (P H : List ByteArray) (B : List Bool) (K A : Int) (T : ByteArray) (ks : List Int) (ok : Bool) (w : World) (hok : ok = true ↔ (gkP P H B ∧ stOk P H B P.length K A T ks)) (hp : RdT w p P) (hh : RdT w h H) (hb : RdZ w b B) (hv : Rd w vk ks) (hT : T.size ≤ 1048576) (hkl : ks.length ≤ 1048576) :
    Calls Tryz.prog 75 #[.agg #[p, h, b], .agg #[.int .i64 K, .int .i64 A, .string T, vk]] w fun e w' => ∃ p' h' b', e = .returned (.tuple #[.agg #[p', h', b'], .bool ok]) ∧ DskV w' w.heap.size w'.heap.size p' h' b' (sdP ok P H K A T ks) (sdH ok H K A T) (sdB ok B K A) ∧ Below w.heap.size w w' := by
 have RP := hide hp
 have RH := hide hh
 have RB := hide hb
 have RV := hide hv
 have HOK := hide hok
 obtain ⟨g, hg⟩ := gk_bool' P H B
 have HG := hide hg
 have C := hide (fun W (h1 : RdT W p P) (h2 : RdT W h H) (h3 : RdZ W b B) => sGoodDisk_calls p h b P H B g W hg h1 h2 h3)
 obtain ⟨av, cv, rfl, _, _⟩ := hv.sl
 have A0 := hide (Hand.three w #[p, h, b] #[.int .i64 K, .int .i64 A, .string T, .slice av ks.length cv] nil3 26 42 26)
 clear hp hh hb hv hok hg
 cases g with
 | false =>
  obtain rfl : ok = false := by
   cases ok with
   | false => rfl
   | true => exact absurd (HG.out.2 (HOK.out.1 rfl).1) (by simp)
  go_enter Tryz.func75, Tryz.ntmps75
  go_wp2_with fail
  refine (C.out _ (RP.out.below A0.out.below) (RH.out.below A0.out.below) (RB.out.below A0.out.below)).mono ?_
  rintro e w1 ⟨rfl, q⟩
  have A1 := hide (A0.out.step q)
  clear q A0
  have xr := A1.out.atBox 0 rfl
  obtain ⟨d0, d1, d2⟩ := xr.c3
  have g0 := xr.frozen 0
  have g1 := xr.frozen 1
  have g2 := xr.frozen 2
  have A2 := hide (A1.out.store3 0 rfl (.slice none 0 0) (.slice none 0 0) (.slice none 0 0))
  clear xr
  go_wp2
  exact bodyPost_ret (res_dsk2 rfl _ _ (w.heap.size + 1 + 1) _ _ _ (0, 0) rfl (A2.out.atBox 0 rfl)) rfl ⟨_, _, _, rfl, DskV.nil _ _ _, A2.out.below⟩
 | true =>
 have hgk := HG.out.1 rfl
 obtain ⟨⟨hn1, hn2⟩, hl2, hl3, h28, hh28, _⟩ := hgk
 obtain ⟨n, hn⟩ : ∃ n, n = P.length := ⟨_, rfl⟩
 have LP : Hid (P.length = n) := hn.symm
 have LH : Hid (H.length = n) := hl2.trans hn.symm
 have LB : Hid (B.length = n) := hl3.trans hn.symm
 have H28 := hide h28
 have HH28 : Hid (∀ i, i < H.length → (H.getD i ⟨#[]⟩).size ≤ 28) := fun i hi => hh28 i (by rw [← hl2]; exact hi)
 have nn : 0 < n ∧ n ≤ 24 := ⟨by omega, by omega⟩
 have HK : Hid (ok = true ↔ stOk P H B n K A T ks) := by
  show _ ↔ _
  rw [hn]
  exact ⟨fun h => (HOK.out.1 h).2, fun h => HOK.out.2 ⟨HG.out.1 rfl, h⟩⟩
 have EP : Hid (stP P H P.length K A T ks = stP P H n K A T ks) := by show _ = _; rw [hn]
 clear hn1 hn2 hl2 hl3 h28 hh28 hn HOK HG
 go_enter Tryz.func75, Tryz.ntmps75
 go_wp2_with fail
 refine (C.out _ (RP.out.below A0.out.below) (RH.out.below A0.out.below) (RB.out.below A0.out.below)).mono ?_
 rintro e w1 ⟨rfl, q⟩
 have A1 := hide (A0.out.step q)
 clear q A0 C
 go_wp2
 refine wp_region_noPanic ?_
 refine wp_region_held_drew (S := fun w' => (w'.cell? ⟨w.heap.size, 0, none⟩ = some p ∧ w'.cell? ⟨w.heap.size, 1, none⟩ = some h ∧ w'.cell? ⟨w.heap.size, 2, none⟩ = some b) ∧ (w'.cell? ⟨w.heap.size + 1, 0, none⟩ = some (.int .i64 K) ∧ w'.cell? ⟨w.heap.size + 1, 1, none⟩ = some (.int .i64 A) ∧ w'.cell? ⟨w.heap.size + 1, 2, none⟩ = some (.string T) ∧ w'.cell? ⟨w.heap.size + 1, 3, none⟩ = some (.slice av ks.length cv))) (by kernel_rfl) (⟨((A1.out.step (Below.refl _ _).drew).atBox 2 rfl).c3, ((A1.out.step (Below.refl _ _).drew).atBox 1 rfl).c4⟩) (fun hHeld => ?_)
 have A2 := hide (A1.out.step (Below.refl _ _).drew)
 clear A1
 generalize w1.drew = u2 at *
 refine qt 0 ?v1 rfl (by kernel_rfl) (by kernel_rfl) (by kernel_rfl) (by rfl) ?hy1 (by assumption) (fun _ _ _ h => h) ?rest1
 case hy1 => intro _ s; dsimp only [qa,qb,qc] at s ⊢; go_simp; try with_reducible rfl
 try simp only [Act.put,qa,qb,qc,qd,qe,qf]
 refine qt 2 ?v2 rfl (by kernel_rfl) (by kernel_rfl) (by kernel_rfl) (by rfl) ?hy2 (by assumption) (fun _ _ _ h => h) ?rest2
 case hy2 => intro _ s; dsimp only [qa,qb,qc] at s ⊢; go_simp; try with_reducible rfl
 try simp only [Act.put,qa,qb,qc,qd,qe,qf]
 refine wpAnyH_ready (rs := [1, 7]) (by kernel_rfl) (by simp) ?_
 refine AllReadyH.cons rfl (fun KK hK => ?_) (AllReadyH.cons rfl (fun KK hK => ?_) (AllReadyH.nil))
 ·dsimp only [qa,qb,qc]
  go_simp
  refine (l7Own_calls p h b P H B _ (RP.out.below A2.out.below) (RH.out.below A2.out.below) (RB.out.below A2.out.below) (by rw [LP.out]; exact nn) (by rw [LH.out]; exact nn) (by rw [LB.out]; exact nn)).mono ?_
  rintro e' u3 ⟨p2, h2, b2, rfl, d, q⟩
  obtain ⟨ap2, cp2, ah2, ch2, ab2, cb2, rfl, rfl, rfl⟩ := d.sl
  have A3 := hide (A2.out.add q (TDsk.st _ _ _ _ _ _) d)
  clear q d hHeld A2
  refine hK.out _ _ (⟨(A3.out.atBox 3 rfl).c3, (A3.out.atBox 2 rfl).c4⟩) (fun hHeld => ?_)
  clear hK KK
  try simp only [Act.put,qa,qb,qc,qd,qe,qf]
  refine wpAnyH_ready (rs := [3, 7]) (by kernel_rfl) (by simp) ?_
  refine AllReadyH.cons rfl (fun KK hK => ?_) (AllReadyH.cons rfl (fun KK hK => ?_) (AllReadyH.nil))
  ·obtain ⟨lo, hi, d2, lw, hw, put⟩ := A3.out.open 0 rfl
   have D2 : Hid (DskV _ lo hi _ _ _ P H B) := d2
   have PUT := hide put
   clear d2 put
   dsimp only [qa,qb,qc]
   go_simp
   refine (l7Step_calls _ _ _ _ P H B K A T ks lo hi n ok _ D2.out hw LP.out LH.out LB.out nn (fun w' hc => RV.out.below (A3.out.below.trans (hc.below lw A3.out.below.size))) HK.out hT H28.out).mono ?_
   rintro e' u4 ⟨rfl, d3, c3⟩
   have A4 := hide (PUT.out u4 (TIf ok (TDsk _ _ _ _ _ _)) (TIf.st _ (TDsk.st _ _ _ _ _ _)) d3 c3)
   clear d3 c3 D2 PUT lw hw lo hi hHeld A3
   refine hK.out _ _ (⟨(A4.out.atBox 3 rfl).c3, (A4.out.atBox 2 rfl).c4⟩) (fun hHeld => ?_)
   clear hK KK
   try simp only [Act.put,qa,qb,qc,qd,qe,qf]
   refine qt 4 ?v3 rfl (by kernel_rfl) (by kernel_rfl) (by kernel_rfl) (by rfl) ?hy3 (by assumption) (fun _ _ _ h => h) ?rest3
   case hy3 => intro _ s; dsimp only [qa,qb,qc] at s ⊢; go_simp; try with_reducible rfl
   try simp only [Act.put,qa,qb,qc,qd,qe,qf]
   refine qt 5 ?v4 rfl (by kernel_rfl) (by kernel_rfl) (by kernel_rfl) (by rfl) ?hy4 (by assumption) (fun _ _ _ h => h) ?rest4
   case hy4 => intro _ s; dsimp only [qa,qb,qc] at s ⊢; go_simp; try with_reducible rfl
   try simp only [Act.put,qa,qb,qc,qd,qe,qf]
   refine qt 6 ?v5 rfl (by kernel_rfl) (by kernel_rfl) (by kernel_rfl) (by rfl) ?hy5 (by assumption) (fun _ _ _ h => h) ?rest5
   case hy5 => intro _ s; dsimp only [qa,qb,qc] at s ⊢; go_simp; try with_reducible rfl
   try simp only [Act.put,qa,qb,qc,qd,qe,qf]
   refine qs 7 (by kernel_rfl) rfl (fun KK hK => ?_)
   dsimp only [qa,qb,qc]
   go_simp
   have A5 := hide (A4.out.box #[.slice none 0 0, .slice none 0 0, .slice none 0 0] 26)
   obtain ⟨g6, hg6⟩ : ∃ g6, g6 = u4.heap.size := ⟨_, rfl⟩
   rw [← hg6] at A5 ⊢
   clear hg6
   generalize u4.alloc (.cells #[.slice none 0 0, .slice none 0 0, .slice none 0 0] 26) = u5 at A5 ⊢
   clear hHeld A4
   refine hK.out _ _ (⟨(A5.out.atBox 4 rfl).c3, (A5.out.atBox 3 rfl).c4⟩) (fun hHeld => ?_)
   clear hK KK
   try simp only [Act.put,qa,qb,qc,qd,qe,qf]
   refine qs 8 (by kernel_rfl) rfl (fun KK hK => ?_)
   have xr := A5.out.atBox 0 rfl
   obtain ⟨d0, d1, d2⟩ := xr.c3
   have g0 := xr.frozen 0
   have g1 := xr.frozen 1
   have g2 := xr.frozen 2
   have A6 := hide (A5.out.store3 0 rfl (.slice ap2 P.length cp2) (.slice ah2 H.length ch2) (.slice ab2 B.length cb2))
   dsimp only [qa,qb,qc]
   go_simp
   clear xr d0 d1 d2 g0 g1 g2 hHeld A5
   refine hK.out _ _ (⟨(A6.out.atBox 4 rfl).c3, (A6.out.atBox 3 rfl).c4⟩) (fun hHeld => ?_)
   clear hK KK
   try simp only [Act.put,qa,qb,qc,qd,qe,qf]
   refine qs 9 (by kernel_rfl) rfl (fun KK hK => ?_)
   dsimp only [qa,qb,qc]
   go_simp
   refine hK.out _ _ (⟨(A6.out.atBox 4 rfl).c3, (A6.out.atBox 3 rfl).c4⟩) (fun hHeld => ?_)
   clear hK KK
   try simp only [Act.put,qa,qb,qc,qd,qe,qf]
   refine wpAnyH_done (by kernel_rfl) ?_ _
   refine NoPanic.normal ?_
   clear hHeld
   cases ok with
   | false =>
    have xr := A6.out.atBox 2 rfl
    obtain ⟨d0, d1, d2⟩ := xr.c3
    have g0 := xr.frozen 0
    have g1 := xr.frozen 1
    have g2 := xr.frozen 2
    have B6 := hide (A6.out.store3 2 rfl (.slice none 0 0) (.slice none 0 0) (.slice none 0 0))
    clear xr
    go_wp2
    exact bodyPost_ret (res_dsk2 rfl _ _ (w.heap.size + 1 + 1) _ _ _ (0, 0) rfl (B6.out.atBox 2 rfl)) rfl ⟨_, _, _, rfl, DskV.nil _ _ _, B6.out.below⟩
   | true =>
    obtain ⟨lo, hi, dd⟩ := A6.out.get 1 rfl
    have D5 : Hid (DskV _ lo hi _ _ _ (stP P H n K A T ks) (stH H K A T) (stB B K A)) := dd rfl
    clear dd
    obtain ⟨c0, c1, c2⟩ := (A6.out.atBox 0 rfl).c3
    go_wp2_with fail
    refine (l7Own_calls _ _ _ _ _ _ _ D5.out.rp D5.out.rh D5.out.rb (by rw [stP_len, LP.out]; exact nn) (by rw [stH_len, LH.out]; exact nn) (by rw [stB_len, LB.out]; exact nn)).mono ?_
    rintro e' u9 ⟨p3, h3, b3, rfl, d, q⟩
    obtain ⟨ap3, cp3, ah3, ch3, ab3, cb3, rfl, rfl, rfl⟩ := d.sl
    have E9 := hide (A6.out.add q (TDsk.st _ _ _ _ _ _) d)
    clear q d D5 c0 c1 c2 lo hi A6
    have xr := E9.out.atBox 3 rfl
    obtain ⟨d0, d1, d2⟩ := xr.c3
    have g0 := xr.frozen 0
    have g1 := xr.frozen 1
    have g2 := xr.frozen 2
    have E10 := hide (E9.out.store3 3 rfl (.slice ap3 (stP P H n K A T ks).length cp3) (.slice ah3 (stH H K A T).length ch3) (.slice ab3 (stB B K A).length cb3))
    clear xr
    go_wp2
    refine bodyPost_ret (res_dsk2 rfl _ _ (w.heap.size + 1 + 1) _ _ _ (0, 0) rfl (E10.out.atBox 3 rfl)) rfl ⟨_, _, _, rfl, ?_, E10.out.below⟩
    show DskV _ _ _ _ _ _ (if true = true then stP P H P.length K A T ks else []) _ _
    rw [if_pos rfl, EP.out]
    exact E10.out.wide 0 rfl
  ·dsimp only [qa,qb,qc]
   go_simp
   have A7 := hide (A3.out.box #[.slice none 0 0, .slice none 0 0, .slice none 0 0] 26)
   obtain ⟨g6, hg6⟩ : ∃ g6, g6 = u3.heap.size := ⟨_, rfl⟩
   rw [← hg6] at A7 ⊢
   clear hg6
   generalize u3.alloc (.cells #[.slice none 0 0, .slice none 0 0, .slice none 0 0] 26) = u7 at A7 ⊢
   clear hHeld A3
   refine hK.out _ _ (⟨(A7.out.atBox 4 rfl).c3, (A7.out.atBox 3 rfl).c4⟩) (fun hHeld => ?_)
   clear hK KK
   try simp only [Act.put,qa,qb,qc,qd,qe,qf]
   refine qs 3 (by kernel_rfl) rfl (fun KK hK => ?_)
   obtain ⟨lo, hi, d2, lw, hw, put⟩ := A7.out.open 1 rfl
   have D2 : Hid (DskV _ lo hi _ _ _ P H B) := d2
   have PUT := hide put
   clear d2 put
   dsimp only [qa,qb,qc]
   go_simp
   refine (l7Step_calls _ _ _ _ P H B K A T ks lo hi n ok _ D2.out hw LP.out LH.out LB.out nn (fun w' hc => RV.out.below (A7.out.below.trans (hc.below lw A7.out.below.size))) HK.out hT H28.out).mono ?_
   rintro e' u8 ⟨rfl, d3, c3⟩
   have A8 := hide (PUT.out u8 (TIf ok (TDsk _ _ _ _ _ _)) (TIf.st _ (TDsk.st _ _ _ _ _ _)) d3 c3)
   clear d3 c3 D2 PUT lw hw lo hi hHeld A7
   refine hK.out _ _ (⟨(A8.out.atBox 4 rfl).c3, (A8.out.atBox 3 rfl).c4⟩) (fun hHeld => ?_)
   clear hK KK
   try simp only [Act.put,qa,qb,qc,qd,qe,qf]
   refine qt 4 ?v6 rfl (by kernel_rfl) (by kernel_rfl) (by kernel_rfl) (by rfl) ?hy6 (by assumption) (fun _ _ _ h => h) ?rest6
   case hy6 => intro _ s; dsimp only [qa,qb,qc] at s ⊢; go_simp; try with_reducible rfl
   try simp only [Act.put,qa,qb,qc,qd,qe,qf]
   refine qt 5 ?v7 rfl (by kernel_rfl) (by kernel_rfl) (by kernel_rfl) (by rfl) ?hy7 (by assumption) (fun _ _ _ h => h) ?rest7
   case hy7 => intro _ s; dsimp only [qa,qb,qc] at s ⊢; go_simp; try with_reducible rfl
   try simp only [Act.put,qa,qb,qc,qd,qe,qf]
   refine qt 6 ?v8 rfl (by kernel_rfl) (by kernel_rfl) (by kernel_rfl) (by rfl) ?hy8 (by assumption) (fun _ _ _ h => h) ?rest8
   case hy8 => intro _ s; dsimp only [qa,qb,qc] at s ⊢; go_simp; try with_reducible rfl
   try simp only [Act.put,qa,qb,qc,qd,qe,qf]
   refine qs 8 (by kernel_rfl) rfl (fun KK hK => ?_)
   have xr := A8.out.atBox 0 rfl
   obtain ⟨d0, d1, d2⟩ := xr.c3
   have g0 := xr.frozen 0
   have g1 := xr.frozen 1
   have g2 := xr.frozen 2
   have A9 := hide (A8.out.store3 0 rfl (.slice ap2 P.length cp2) (.slice ah2 H.length ch2) (.slice ab2 B.length cb2))
   dsimp only [qa,qb,qc]
   go_simp
   clear xr d0 d1 d2 g0 g1 g2 hHeld A8
   refine hK.out _ _ (⟨(A9.out.atBox 4 rfl).c3, (A9.out.atBox 3 rfl).c4⟩) (fun hHeld => ?_)
   clear hK KK
   try simp only [Act.put,qa,qb,qc,qd,qe,qf]
   refine qs 9 (by kernel_rfl) rfl (fun KK hK => ?_)
   dsimp only [qa,qb,qc]
   go_simp
   refine hK.out _ _ (⟨(A9.out.atBox 4 rfl).c3, (A9.out.atBox 3 rfl).c4⟩) (fun hHeld => ?_)
   clear hK KK
   try simp only [Act.put,qa,qb,qc,qd,qe,qf]
   refine wpAnyH_done (by kernel_rfl) ?_ _
   refine NoPanic.normal ?_
   clear hHeld
   cases ok with
   | false =>
    have xr := A9.out.atBox 2 rfl
    obtain ⟨d0, d1, d2⟩ := xr.c3
    have g0 := xr.frozen 0
    have g1 := xr.frozen 1
    have g2 := xr.frozen 2
    have B9 := hide (A9.out.store3 2 rfl (.slice none 0 0) (.slice none 0 0) (.slice none 0 0))
    clear xr
    go_wp2
    exact bodyPost_ret (res_dsk2 rfl _ _ (w.heap.size + 1 + 1) _ _ _ (0, 0) rfl (B9.out.atBox 2 rfl)) rfl ⟨_, _, _, rfl, DskV.nil _ _ _, B9.out.below⟩
   | true =>
    obtain ⟨lo, hi, dd⟩ := A9.out.get 1 rfl
    have D5 : Hid (DskV _ lo hi _ _ _ (stP P H n K A T ks) (stH H K A T) (stB B K A)) := dd rfl
    clear dd
    obtain ⟨c0, c1, c2⟩ := (A9.out.atBox 0 rfl).c3
    go_wp2_with fail
    refine (l7Own_calls _ _ _ _ _ _ _ D5.out.rp D5.out.rh D5.out.rb (by rw [stP_len, LP.out]; exact nn) (by rw [stH_len, LH.out]; exact nn) (by rw [stB_len, LB.out]; exact nn)).mono ?_
    rintro e' u9 ⟨p3, h3, b3, rfl, d, q⟩
    obtain ⟨ap3, cp3, ah3, ch3, ab3, cb3, rfl, rfl, rfl⟩ := d.sl
    have E9 := hide (A9.out.add q (TDsk.st _ _ _ _ _ _) d)
    clear q d D5 c0 c1 c2 lo hi A9
    have xr := E9.out.atBox 3 rfl
    obtain ⟨d0, d1, d2⟩ := xr.c3
    have g0 := xr.frozen 0
    have g1 := xr.frozen 1
    have g2 := xr.frozen 2
    have E10 := hide (E9.out.store3 3 rfl (.slice ap3 (stP P H n K A T ks).length cp3) (.slice ah3 (stH H K A T).length ch3) (.slice ab3 (stB B K A).length cb3))
    clear xr
    go_wp2
    refine bodyPost_ret (res_dsk2 rfl _ _ (w.heap.size + 1 + 1) _ _ _ (0, 0) rfl (E10.out.atBox 3 rfl)) rfl ⟨_, _, _, rfl, ?_, E10.out.below⟩
    show DskV _ _ _ _ _ _ (if true = true then stP P H P.length K A T ks else []) _ _
    rw [if_pos rfl, EP.out]
    exact E10.out.wide 0 rfl
 ·dsimp only [qa,qb,qc]
  go_simp
  have A10 := hide (A2.out.box #[.slice none 0 0, .slice none 0 0, .slice none 0 0] 26)
  obtain ⟨g6, hg6⟩ : ∃ g6, g6 = u2.heap.size := ⟨_, rfl⟩
  rw [← hg6] at A10 ⊢
  clear hg6
  generalize u2.alloc (.cells #[.slice none 0 0, .slice none 0 0, .slice none 0 0] 26) = u10 at A10 ⊢
  clear hHeld A2
  refine hK.out _ _ (⟨(A10.out.atBox 3 rfl).c3, (A10.out.atBox 2 rfl).c4⟩) (fun hHeld => ?_)
  clear hK KK
  try simp only [Act.put,qa,qb,qc,qd,qe,qf]
  refine qs 1 (by kernel_rfl) rfl (fun KK hK => ?_)
  dsimp only [qa,qb,qc]
  go_simp
  refine (l7Own_calls p h b P H B _ (RP.out.below A10.out.below) (RH.out.below A10.out.below) (RB.out.below A10.out.below) (by rw [LP.out]; exact nn) (by rw [LH.out]; exact nn) (by rw [LB.out]; exact nn)).mono ?_
  rintro e' u11 ⟨p2, h2, b2, rfl, d, q⟩
  obtain ⟨ap2, cp2, ah2, ch2, ab2, cb2, rfl, rfl, rfl⟩ := d.sl
  have A11 := hide (A10.out.add q (TDsk.st _ _ _ _ _ _) d)
  clear q d hHeld A10
  refine hK.out _ _ (⟨(A11.out.atBox 4 rfl).c3, (A11.out.atBox 3 rfl).c4⟩) (fun hHeld => ?_)
  clear hK KK
  try simp only [Act.put,qa,qb,qc,qd,qe,qf]
  refine qs 3 (by kernel_rfl) rfl (fun KK hK => ?_)
  obtain ⟨lo, hi, d2, lw, hw, put⟩ := A11.out.open 0 rfl
  have D2 : Hid (DskV _ lo hi _ _ _ P H B) := d2
  have PUT := hide put
  clear d2 put
  dsimp only [qa,qb,qc]
  go_simp
  refine (l7Step_calls _ _ _ _ P H B K A T ks lo hi n ok _ D2.out hw LP.out LH.out LB.out nn (fun w' hc => RV.out.below (A11.out.below.trans (hc.below lw A11.out.below.size))) HK.out hT H28.out).mono ?_
  rintro e' u12 ⟨rfl, d3, c3⟩
  have A12 := hide (PUT.out u12 (TIf ok (TDsk _ _ _ _ _ _)) (TIf.st _ (TDsk.st _ _ _ _ _ _)) d3 c3)
  clear d3 c3 D2 PUT lw hw lo hi hHeld A11
  refine hK.out _ _ (⟨(A12.out.atBox 4 rfl).c3, (A12.out.atBox 3 rfl).c4⟩) (fun hHeld => ?_)
  clear hK KK
  try simp only [Act.put,qa,qb,qc,qd,qe,qf]
  refine qt 4 ?v9 rfl (by kernel_rfl) (by kernel_rfl) (by kernel_rfl) (by rfl) ?hy9 (by assumption) (fun _ _ _ h => h) ?rest9
  case hy9 => intro _ s; dsimp only [qa,qb,qc] at s ⊢; go_simp; try with_reducible rfl
  try simp only [Act.put,qa,qb,qc,qd,qe,qf]
  refine qt 5 ?v10 rfl (by kernel_rfl) (by kernel_rfl) (by kernel_rfl) (by rfl) ?hy10 (by assumption) (fun _ _ _ h => h) ?rest10
  case hy10 => intro _ s; dsimp only [qa,qb,qc] at s ⊢; go_simp; try with_reducible rfl
  try simp only [Act.put,qa,qb,qc,qd,qe,qf]
  refine qt 6 ?v11 rfl (by kernel_rfl) (by kernel_rfl) (by kernel_rfl) (by rfl) ?hy11 (by assumption) (fun _ _ _ h => h) ?rest11
  case hy11 => intro _ s; dsimp only [qa,qb,qc] at s ⊢; go_simp; try with_reducible rfl
  try simp only [Act.put,qa,qb,qc,qd,qe,qf]
  refine qs 8 (by kernel_rfl) rfl (fun KK hK => ?_)
  have xr := A12.out.atBox 1 rfl
  obtain ⟨d0, d1, d2⟩ := xr.c3
  have g0 := xr.frozen 0
  have g1 := xr.frozen 1
  have g2 := xr.frozen 2
  have A13 := hide (A12.out.store3 1 rfl (.slice ap2 P.length cp2) (.slice ah2 H.length ch2) (.slice ab2 B.length cb2))
  dsimp only [qa,qb,qc]
  go_simp
  clear xr d0 d1 d2 g0 g1 g2 hHeld A12
  refine hK.out _ _ (⟨(A13.out.atBox 4 rfl).c3, (A13.out.atBox 3 rfl).c4⟩) (fun hHeld => ?_)
  clear hK KK
  try simp only [Act.put,qa,qb,qc,qd,qe,qf]
  refine qs 9 (by kernel_rfl) rfl (fun KK hK => ?_)
  dsimp only [qa,qb,qc]
  go_simp
  refine hK.out _ _ (⟨(A13.out.atBox 4 rfl).c3, (A13.out.atBox 3 rfl).c4⟩) (fun hHeld => ?_)
  clear hK KK
  try simp only [Act.put,qa,qb,qc,qd,qe,qf]
  refine wpAnyH_done (by kernel_rfl) ?_ _
  refine NoPanic.normal ?_
  clear hHeld
  cases ok with
  | false =>
   have xr := A13.out.atBox 2 rfl
   obtain ⟨d0, d1, d2⟩ := xr.c3
   have g0 := xr.frozen 0
   have g1 := xr.frozen 1
   have g2 := xr.frozen 2
   have B13 := hide (A13.out.store3 2 rfl (.slice none 0 0) (.slice none 0 0) (.slice none 0 0))
   clear xr
   go_wp2
   exact bodyPost_ret (res_dsk2 rfl _ _ (w.heap.size + 1 + 1) _ _ _ (0, 0) rfl (B13.out.atBox 2 rfl)) rfl ⟨_, _, _, rfl, DskV.nil _ _ _, B13.out.below⟩
  | true =>
   obtain ⟨lo, hi, dd⟩ := A13.out.get 0 rfl
   have D5 : Hid (DskV _ lo hi _ _ _ (stP P H n K A T ks) (stH H K A T) (stB B K A)) := dd rfl
   clear dd
   obtain ⟨c0, c1, c2⟩ := (A13.out.atBox 1 rfl).c3
   go_wp2_with fail
   refine (l7Own_calls _ _ _ _ _ _ _ D5.out.rp D5.out.rh D5.out.rb (by rw [stP_len, LP.out]; exact nn) (by rw [stH_len, LH.out]; exact nn) (by rw [stB_len, LB.out]; exact nn)).mono ?_
   rintro e' u9 ⟨p3, h3, b3, rfl, d, q⟩
   obtain ⟨ap3, cp3, ah3, ch3, ab3, cb3, rfl, rfl, rfl⟩ := d.sl
   have E9 := hide (A13.out.add q (TDsk.st _ _ _ _ _ _) d)
   clear q d D5 c0 c1 c2 lo hi A13
   have xr := E9.out.atBox 3 rfl
   obtain ⟨d0, d1, d2⟩ := xr.c3
   have g0 := xr.frozen 0
   have g1 := xr.frozen 1
   have g2 := xr.frozen 2
   have E10 := hide (E9.out.store3 3 rfl (.slice ap3 (stP P H n K A T ks).length cp3) (.slice ah3 (stH H K A T).length ch3) (.slice ab3 (stB B K A).length cb3))
   clear xr
   go_wp2
   refine bodyPost_ret (res_dsk2 rfl _ _ (w.heap.size + 1 + 1) _ _ _ (0, 0) rfl (E10.out.atBox 3 rfl)) rfl ⟨_, _, _, rfl, ?_, E10.out.below⟩
   show DskV _ _ _ _ _ _ (if true = true then stP P H P.length K A T ks else []) _ _
   rw [if_pos rfl, EP.out]
   exact E10.out.wide 0 rfl
theorem ifT_len {α : Type} (ok : Bool) (l : List α) : (ifT ok l).length ≤ l.length := by unfold ifT; split <;> simp
theorem wWrite_calls (p h b : Value) (P H : List ByteArray) (B : List Bool) (A E : Int) (S : ByteArray) (w : World) (hwf : (Lit.int .i64 A).wf = true) (hS : S.size ≤ 47) (hp : RdT w p P) (hh : RdT w h H) (hb : RdZ w b B) (hl : H.length ≤ 24) :
    Calls Tryz.prog 7 #[.agg #[p, h, b], .int .i64 A, .int .i64 E, .string S] w fun e w' => ∃ ok p' h' b' P' H' B', e = .returned (.tuple #[.agg #[p', h', b'], .bool ok]) ∧ DskV w' w.heap.size w'.heap.size p' h' b' P' H' B' ∧ H'.length ≤ 24 ∧ Below w.heap.size w w' := by
 obtain ⟨ok, hok⟩ := ws_bool P H B A E S
 refine (sWriteStripe_calls p h b P H B A E S ok w hok hwf (by unfold maxLen; omega) hp hh hb).mono ?_
 rintro e w' ⟨p', h', b', rfl, d, bb⟩
 refine ⟨ok, p', h', b', _, _, _, rfl, d, ?_, bb⟩
 have h1 := ifT_len ok (wsH H A E S)
 have h2 : (wsH H A E S).length = H.length := wrTo_length _ _ _ _ _ _
 omega
theorem sdH_len (ok : Bool) (H : List ByteArray) (K A : Int) (T : ByteArray) : (sdH ok H K A T).length ≤ H.length := by
 unfold sdH
 split
 ·unfold stH
  repeat' split
  all_goals simp [crH]
 ·simp
theorem wStep_calls (p h b vk : Value) (P H : List ByteArray) (B : List Bool) (K A : Int) (T : ByteArray) (ks : List Int) (w : World) (hp : RdT w p P) (hh : RdT w h H) (hb : RdZ w b B) (hv : Rd w vk ks) (hT : T.size ≤ 1048576) (hkl : ks.length ≤ 1048576) (hl : H.length ≤ 24) :
    Calls Tryz.prog 75 #[.agg #[p, h, b], .agg #[.int .i64 K, .int .i64 A, .string T, vk]] w fun e w' => ∃ ok p' h' b' P' H' B', e = .returned (.tuple #[.agg #[p', h', b'], .bool ok]) ∧ DskV w' w.heap.size w'.heap.size p' h' b' P' H' B' ∧ H'.length ≤ 24 ∧ Below w.heap.size w w' := by
 obtain ⟨ok, hok⟩ := sd_bool P H B K A T ks
 refine (sStepDisk_calls p h b vk P H B K A T ks ok w hok hp hh hb hv hT hkl).mono ?_
 rintro e w' ⟨p', h', b', rfl, d, bb⟩
 refine ⟨ok, p', h', b', _, _, _, rfl, d, ?_, bb⟩
 have h1 := sdH_len ok H K A T
 omega
theorem ndT_len (r : Nat) (h : r < 4) : (ndT (5 + (r : Int))).length = 5 + r := by
 unfold ndT
 rw [if_pos (by omega), List.length_replicate]
 omega
end Go.Proofs.YthdbacihhmilbaaGreatDoor

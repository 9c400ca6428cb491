/-
  The drawing of ReadStripe's arguments out of bytes, where striped answers as StripedOk says. The contract says what it asks. The drawing of FitsStripe's arguments out of bytes, where striped answers as StripedOk says; and a held thing left out.
-/
import Derived.Test.YthdbacihhmilbaaGreatDoorMendsB41
import Derived.Deep.DeepCutAuto
import Derived.Test.YthdbacihhmilbaaGreatDoorMendsB15
import Derived.Test.YthdbacihhmilbaaGreatDoorMendsB39
import Derived.Test.YthdbacihhmilbaaGreatDoorMendsB0
set_option linter.unusedVariables false
set_option linter.unusedSimpArgs false
set_option maxRecDepth 100000
set_option maxHeartbeats 3200000
namespace Go.Proofs.YthdbacihhmilbaaGreatDoor
open Go.RowKit
def StripedOk : Prop := ∀ (g : Nat) (cv : Value) (k : Nat) (w : World), CurS w g cv k → k ≤ 1000 → Calls Tryz.prog 31 #[.pointer (some ⟨g, 0, none⟩)] w fun e w' => ∃ p h b P H B A, e = .returned (.tuple #[.agg #[p, h, b], .int .i64 A]) ∧ DskV w' w.heap.size w'.heap.size p h b P H B ∧ (0 ≤ A ∧ A ≤ 8) ∧ CurS w' g cv (k + 1000) ∧ w.grownBy w' (some g)
theorem Guest.addG {W w w' : World} {g k k' : Nat} {cv : Value} {u : Tg} {L : List Tg} (G : Guest g (g + 1) W w (TCur g cv k) L) (hc : CurS w' g cv k') (hg : w.grownBy w' (some g)) (hs : u.st) (ho : u w.heap.size w'.heap.size w') : Guest g (g + 1) W w' (TCur g cv k') (u :: L) := by
 have G' := G.drawn hc hg
 exact ⟨G'.base, G'.chg, G'.st, G'.it, w.heap.size, w'.heap.size, ⟨hs, ho⟩, hg.size, Nat.le_refl _, HeldG.low (grown_cur hg) G.base G.held⟩
theorem drawReadStripe_of (hStr : StripedOk) (cv : Value) (w : World) (h : RdB w cv) :
    Calls Tryz.prog 13 #[cv] w fun e w' => ∃ p h b P H B A L, e = .returned (.tuple #[.agg #[p, h, b], .int .i64 A, .int .i64 L]) ∧ DskV w' w.heap.size w'.heap.size p h b P H B ∧ (-2 ≤ A ∧ A ≤ 10) ∧ Below w.heap.size w w' := by
 have b0 := below_box w (.cells nil3 26)
 have C0 := cur_new (h.below b0)
 have x0 := BoxAt.new w nil3 26
 obtain ⟨a0, cap0, zs, rfl, _, _, _⟩ := h
 go_enter Tryz.func13, Tryz.ntmps13
 go_wp2_with fail
 have C1 : Hid (CurS ((w.alloc (.cells nil3 26)).alloc (.cells #[.slice a0 zs.length cap0, .int .i64 0, .int .u64 0] 65)) (w.heap.size + 1) (.slice a0 zs.length cap0) 0) := by
  show CurS _ _ _ _
  simpa using C0
 have b1 := below_box (w.alloc (.cells nil3 26)) (.cells #[.slice a0 zs.length cap0, .int .i64 0, .int .u64 0] 65)
 have X1 := hide (x0.below b1)
 have BW := hide (b0.trans (b1.mono b0.size))
 have sz1 : ((w.alloc (.cells nil3 26)).alloc (.cells #[.slice a0 zs.length cap0, .int .i64 0, .int .u64 0] 65)).heap.size = w.heap.size + 2 := by simp
 have SZ := hide sz1
 clear b0 b1 x0 C0 sz1
 have G0 := hide (Guest.ofCur C1.out)
 change Calls _ _ _ ((w.alloc (.cells nil3 26)).alloc (.cells #[.slice a0 zs.length cap0, .int .i64 0, .int .u64 0] 65)) _
 generalize hW : (w.alloc (.cells nil3 26)).alloc (.cells #[.slice a0 zs.length cap0, .int .i64 0, .int .u64 0] 65) = W1 at *
 clear hW
 refine (hStr (w.heap.size + 1) _ 0 W1 C1.out (by omega)).mono ?_
 rintro e w2 ⟨p, h, b, P, H, B, A, rfl, d, hA, hc1, hg1⟩
 obtain ⟨ap, cp, ah, ch, ab, cb, rfl, rfl, rfl⟩ := d.sl
 have G2 := hide ((G0.out.addG hc1 hg1 (TDsk.st _ _ _ _ _ _) d).box #[.slice ap P.length cp, .slice ah H.length ch, .slice ab B.length cb] 26)
 clear hc1 hg1 G0 d
 go_wp2_with fail
 refine (one_calls (w.heap.size + 1) _ (0 + 1000) 12 _ (G2.out.cur C1.out) (by omega) (by omega) (by omega)).mono ?_
 rintro e w3 ⟨bb, rfl, hc1, hg1⟩
 have G3 := hide (G2.out.drawn hc1 hg1)
 clear hc1 hg1 G2
 go_upto_if 17 with fail
 go_cut [7] (fun s7 wx => ∃ A' : Int, s7 = .int .i64 A' ∧ (-2 ≤ A' ∧ A' ≤ 10) ∧ Guest (w.heap.size + 1) (w.heap.size + 1 + 1) W1 wx (TCur (w.heap.size + 1) (.slice a0 zs.length cap0) (0 + 1000 + 2 + 2)) [TBox w2.heap.size #[.slice ap P.length cp, .slice ah H.length ch, .slice ab B.length cb] 26, TDsk (.slice ap P.length cp) (.slice ah H.length ch) (.slice ab B.length cb) P H B])
 case first =>
  cases bb with
  | false =>
   go_wp2_with fail
   go_meet
   exact ⟨_, rfl, ⟨by omega, by omega⟩, G3.out.drawn ((G3.out.cur C1.out).mono (by omega)) (World.grownBy.refl _ _)⟩
  | true =>
   go_wp2_with fail
   refine (pick_calls (w.heap.size + 1) _ (0 + 1000 + 2) 5 _ (G3.out.cur C1.out) (by omega) (by omega) (by omega)).mono ?_
   rintro e w4 ⟨r, hr, rfl, hc1, hg1⟩
   have G4 := hide (G3.out.drawn hc1 hg1)
   clear hc1 hg1 G3
   go_wp2_with fail
   go_meet
   exact ⟨_, rfl, ⟨by omega, by omega⟩, G4.out⟩
 case rest =>
  clear G3 hA
  obtain ⟨A, rfl, hA, hG⟩ := hcut
  have G4 := hide hG
  clear hG
  go_wp2
  refine wp_region_noPanic ?_
  refine wp_region_held_drew (S := fun w' => w'.cell? ⟨w2.heap.size, 0, none⟩ = some (.slice ap P.length cp) ∧ w'.cell? ⟨w2.heap.size, 1, none⟩ = some (.slice ah H.length ch) ∧ w'.cell? ⟨w2.heap.size, 2, none⟩ = some (.slice ab B.length cb)) (by kernel_rfl) ((G4.out.step (Below.refl _ _).drew).atBox 0 rfl |>.c3) (fun hHeld => ?_)
  have G5 := hide (G4.out.step (Below.refl _ _).drew)
  clear G4
  generalize World.drew _ = V0 at *
  refine qt 0 ?v1 rfl (by kernel_rfl) (by kernel_rfl) (by kernel_rfl) (by rfl) ?hy1 (by assumption) (fun _ _ _ h => h) ?rest1
  case hy1 => intro _ s; dsimp only [qa,qb,qc] at s ⊢; go_simp; try with_reducible rfl
  try simp only [Act.put,qa,qb,qc,qd,qe,qf]
  refine qt 1 ?v2 rfl (by kernel_rfl) (by kernel_rfl) (by kernel_rfl) (by rfl) ?hy2 (by assumption) (fun _ _ _ h => h) ?rest2
  case hy2 => intro _ s; dsimp only [qa,qb,qc] at s ⊢; go_simp; try with_reducible rfl
  try simp only [Act.put,qa,qb,qc,qd,qe,qf]
  refine qt 2 ?v3 rfl (by kernel_rfl) (by kernel_rfl) (by kernel_rfl) (by rfl) ?hy3 (by assumption) (fun _ _ _ h => h) ?rest3
  case hy3 => intro _ s; dsimp only [qa,qb,qc] at s ⊢; go_simp; try with_reducible rfl
  try simp only [Act.put,qa,qb,qc,qd,qe,qf]
  refine qs 3 (by kernel_rfl) rfl (fun K hK => ?_)
  dsimp only [qa,qb,qc]
  go_simp
  have G6 := hide (G5.out.step (below_box V0 (.cells #[.int .i64 0, .int .i64 0, .int .i64 0, .int .i64 1, .int .i64 2, .int .i64 3, .int .i64 9] 3)))
  have hlt : w.heap.size + 1 < V0.heap.size := curS_lt (G5.out.cur C1.out)
  have RDB := hide (rd_build (w := V0) (l := [0, 0, 0, 1, 2, 3, 9]) hlt (by decide))
  clear hHeld G5
  refine hK.out _ _ ((G6.out.atBox 0 rfl).c3) (fun hHeld => ?_)
  clear hK K
  try simp only [Act.put,qa,qb,qc,qd,qe,qf]
  refine qs 4 (by kernel_rfl) rfl (fun K hK => ?_)
  dsimp only [qa,qb,qc]
  go_simp
  refine (among_calls (w.heap.size + 1) _ _ [0, 0, 0, 1, 2, 3, 9] (0 + 1000 + 2 + 2) _ (G6.out.cur C1.out) (by omega) RDB.out (by decide) (by decide)).mono ?_
  rintro e' V1 ⟨z, rfl, hc1, hg1⟩
  have G7 := hide (G6.out.drawn hc1 hg1)
  clear hc1 hg1 hHeld G6 RDB
  refine hK.out _ _ ((G7.out.atBox 0 rfl).c3) (fun hHeld => ?_)
  clear hK K
  try simp only [Act.put,qa,qb,qc,qd,qe,qf]
  refine qs 5 (by kernel_rfl) rfl (fun K hK => ?_)
  have XB := hide (X1.out.chg G7.out.chg (.inl (Nat.lt_succ_self _)))
  obtain ⟨d0, d1, d2⟩ := XB.out.c3
  have g0 := XB.out.frozen 0
  have g1 := XB.out.frozen 1
  have g2 := XB.out.frozen 2
  have XZ := hide (XB.out.store3 (.slice ap P.length cp) (.slice ah H.length ch) (.slice ab B.length cb))
  have cz := Chg.store3 (lo := w.heap.size) (hi := w.heap.size + 1) V1 w.heap.size (.slice ap P.length cp) (.slice ah H.length ch) (.slice ab B.length cb) (Nat.le_refl _) (Nat.lt_succ_self _)
  have BZ := hide ((BW.out.grown G7.out.grown BW.out.size (fun k hk => by simp at hk; omega)).trans (cz.below (Nat.le_refl _) (by have := G7.out.chg.size; have := SZ.out; omega)))
  obtain ⟨q1, q2, dd, hq1, hq2, _⟩ := G7.out.open 1 rfl
  have D7 : DskV V1 q1 q2 (.slice ap P.length cp) (.slice ah H.length ch) (.slice ab B.length cb) P H B := dd
  have DZ := hide ((D7.chg cz (.inr (by have := SZ.out; omega))).wider (lo' := w.heap.size) (hi' := (((V1.setCell ⟨w.heap.size, 0, none⟩ (.slice ap P.length cp)).setCell ⟨w.heap.size, 1, none⟩ (.slice ah H.length ch)).setCell ⟨w.heap.size, 2, none⟩ (.slice ab B.length cb)).heap.size) (by have := SZ.out; omega) (Nat.le_trans hq2 cz.size))
  have SS := hide (((G7.out.atBox 0 rfl).chg cz (.inr (by have := G7.out.get 0 rfl; obtain ⟨u1, u2, u3, u4, u5⟩ := G7.out.open 0 rfl; have := u3.1; have := u4; have := SZ.out; omega))).c3)
  clear hHeld dd D7 cz
  dsimp only [qa,qb,qc]
  go_simp
  clear d0 d1 d2 g0 g1 g2
  refine hK.out _ _ (SS.out) (fun hHeld => ?_)
  clear hK K
  try simp only [Act.put,qa,qb,qc,qd,qe,qf]
  refine qs 6 (by kernel_rfl) rfl (fun K hK => ?_)
  dsimp only [qa,qb,qc]
  go_simp
  refine hK.out _ _ (SS.out) (fun hHeld => ?_)
  clear hK K
  try simp only [Act.put,qa,qb,qc,qd,qe,qf]
  refine qs 7 (by kernel_rfl) rfl (fun K hK => ?_)
  dsimp only [qa,qb,qc]
  go_simp
  refine hK.out _ _ (SS.out) (fun hHeld => ?_)
  clear hK K
  try simp only [Act.put,qa,qb,qc,qd,qe,qf]
  refine wpAnyH_done (by kernel_rfl) ?_ _
  refine NoPanic.normal ?_
  clear hHeld
  go_wp2
  exact bodyPost_ret (res_dsk3 rfl _ _ w.heap.size _ _ _ (0, 0) rfl XZ.out) rfl ⟨_, _, _, _, _, _, A, z, rfl, DZ.out, ⟨by omega, by omega⟩, BZ.out⟩
theorem drawFitsStripe_of (hStr : StripedOk) (cv : Value) (w : World) (h : RdB w cv) :
    Calls Tryz.prog 28 #[cv] w fun e w' => ∃ p h b P H B A, e = .returned (.tuple #[.agg #[p, h, b], .int .i64 A]) ∧ DskV w' w.heap.size w'.heap.size p h b P H B ∧ (-3 ≤ A ∧ A ≤ 11) ∧ Below w.heap.size w w' := by
 have b0 := below_box w (.cells nil3 26)
 have C0 := cur_new (h.below b0)
 have x0 := BoxAt.new w nil3 26
 obtain ⟨a0, cap0, zs, rfl, _, _, _⟩ := h
 go_enter Tryz.func28, Tryz.ntmps28
 go_wp2_with fail
 have C1 : Hid (CurS ((w.alloc (.cells nil3 26)).alloc (.cells #[.slice a0 zs.length cap0, .int .i64 0, .int .u64 0] 65)) (w.heap.size + 1) (.slice a0 zs.length cap0) 0) := by
  show CurS _ _ _ _
  simpa using C0
 have b1 := below_box (w.alloc (.cells nil3 26)) (.cells #[.slice a0 zs.length cap0, .int .i64 0, .int .u64 0] 65)
 have X1 := hide (x0.below b1)
 have BW := hide (b0.trans (b1.mono b0.size))
 have sz1 : ((w.alloc (.cells nil3 26)).alloc (.cells #[.slice a0 zs.length cap0, .int .i64 0, .int .u64 0] 65)).heap.size = w.heap.size + 2 := by simp
 have SZ := hide sz1
 clear b0 b1 x0 C0 sz1
 have G0 := hide (Guest.ofCur C1.out)
 change Calls _ _ _ ((w.alloc (.cells nil3 26)).alloc (.cells #[.slice a0 zs.length cap0, .int .i64 0, .int .u64 0] 65)) _
 generalize hW : (w.alloc (.cells nil3 26)).alloc (.cells #[.slice a0 zs.length cap0, .int .i64 0, .int .u64 0] 65) = W1 at *
 clear hW
 refine (hStr (w.heap.size + 1) _ 0 W1 C1.out (by omega)).mono ?_
 rintro e w2 ⟨p, h, b, P, H, B, A, rfl, d, hA, hc1, hg1⟩
 obtain ⟨ap, cp, ah, ch, ab, cb, rfl, rfl, rfl⟩ := d.sl
 have G2 := hide ((G0.out.addG hc1 hg1 (TDsk.st _ _ _ _ _ _) d).box #[.slice ap P.length cp, .slice ah H.length ch, .slice ab B.length cb] 26)
 clear hc1 hg1 G0 d
 go_wp2
 refine wp_region_noPanic ?_
 refine wp_region_held_drew (S := fun w' => w'.cell? ⟨w2.heap.size, 0, none⟩ = some (.slice ap P.length cp) ∧ w'.cell? ⟨w2.heap.size, 1, none⟩ = some (.slice ah H.length ch) ∧ w'.cell? ⟨w2.heap.size, 2, none⟩ = some (.slice ab B.length cb)) (by kernel_rfl) ((G2.out.step (Below.refl _ _).drew).atBox 0 rfl |>.c3) (fun hHeld => ?_)
 have G5 := hide (G2.out.step (Below.refl _ _).drew)
 clear G2
 generalize World.drew _ = V0 at *
 refine qt 0 ?v1 rfl (by kernel_rfl) (by kernel_rfl) (by kernel_rfl) (by rfl) ?hy1 (by assumption) (fun _ _ _ h => h) ?rest1
 case hy1 => intro _ s; dsimp only [qa,qb,qc] at s ⊢; go_simp; try with_reducible rfl
 try simp only [Act.put,qa,qb,qc,qd,qe,qf]
 refine qt 1 ?v2 rfl (by kernel_rfl) (by kernel_rfl) (by kernel_rfl) (by rfl) ?hy2 (by assumption) (fun _ _ _ h => h) ?rest2
 case hy2 => intro _ s; dsimp only [qa,qb,qc] at s ⊢; go_simp; try with_reducible rfl
 try simp only [Act.put,qa,qb,qc,qd,qe,qf]
 refine qt 2 ?v3 rfl (by kernel_rfl) (by kernel_rfl) (by kernel_rfl) (by rfl) ?hy3 (by assumption) (fun _ _ _ h => h) ?rest3
 case hy3 => intro _ s; dsimp only [qa,qb,qc] at s ⊢; go_simp; try with_reducible rfl
 try simp only [Act.put,qa,qb,qc,qd,qe,qf]
 refine qs 3 (by kernel_rfl) rfl (fun K hK => ?_)
 dsimp only [qa,qb,qc]
 go_simp
 refine (pick_calls (w.heap.size + 1) _ (0 + 1000) 7 _ (G5.out.cur C1.out) (by omega) (by omega) (by omega)).mono ?_
 rintro e' V1 ⟨z, hz, rfl, hc1, hg1⟩
 have G7 := hide (G5.out.drawn hc1 hg1)
 clear hc1 hg1 hHeld G5
 refine hK.out _ _ ((G7.out.atBox 0 rfl).c3) (fun hHeld => ?_)
 clear hK K
 try simp only [Act.put,qa,qb,qc,qd,qe,qf]
 refine qt 4 ?v4 rfl (by kernel_rfl) (by kernel_rfl) (by kernel_rfl) (by rfl) ?hy4 (by assumption) (fun _ _ _ h => h) ?rest4
 case hy4 => intro _ s; dsimp only [qa,qb,qc] at s ⊢; go_simp; try with_reducible rfl
 try simp only [Act.put,qa,qb,qc,qd,qe,qf]
 refine qt 5 ?v5 rfl (by kernel_rfl) (by kernel_rfl) (by kernel_rfl) (by rfl) ?hy5 (by assumption) (fun _ _ _ h => h) ?rest5
 case hy5 => intro _ s; dsimp only [qa,qb,qc] at s ⊢; go_simp; try with_reducible rfl
 try simp only [Act.put,qa,qb,qc,qd,qe,qf]
 refine qs 6 (by kernel_rfl) rfl (fun K hK => ?_)
 have XB := hide (X1.out.chg G7.out.chg (.inl (Nat.lt_succ_self _)))
 obtain ⟨d0, d1, d2⟩ := XB.out.c3
 have g0 := XB.out.frozen 0
 have g1 := XB.out.frozen 1
 have g2 := XB.out.frozen 2
 have XZ := hide (XB.out.store3 (.slice ap P.length cp) (.slice ah H.length ch) (.slice ab B.length cb))
 have cz := Chg.store3 (lo := w.heap.size) (hi := w.heap.size + 1) V1 w.heap.size (.slice ap P.length cp) (.slice ah H.length ch) (.slice ab B.length cb) (Nat.le_refl _) (Nat.lt_succ_self _)
 have BZ := hide ((BW.out.grown G7.out.grown BW.out.size (fun k hk => by simp at hk; omega)).trans (cz.below (Nat.le_refl _) (by have := G7.out.chg.size; have := SZ.out; omega)))
 obtain ⟨q1, q2, dd, hq1, hq2, _⟩ := G7.out.open 1 rfl
 have D7 : DskV V1 q1 q2 (.slice ap P.length cp) (.slice ah H.length ch) (.slice ab B.length cb) P H B := dd
 have DZ := hide ((D7.chg cz (.inr (by have := SZ.out; omega))).wider (lo' := w.heap.size) (hi' := (((V1.setCell ⟨w.heap.size, 0, none⟩ (.slice ap P.length cp)).setCell ⟨w.heap.size, 1, none⟩ (.slice ah H.length ch)).setCell ⟨w.heap.size, 2, none⟩ (.slice ab B.length cb)).heap.size) (by have := SZ.out; omega) (Nat.le_trans hq2 cz.size))
 have SS := hide (((G7.out.atBox 0 rfl).chg cz (.inr (by have := G7.out.get 0 rfl; obtain ⟨u1, u2, u3, u4, u5⟩ := G7.out.open 0 rfl; have := u3.1; have := u4; have := SZ.out; omega))).c3)
 clear hHeld dd D7 cz
 dsimp only [qa,qb,qc]
 go_simp
 clear d0 d1 d2 g0 g1 g2
 refine hK.out _ _ (SS.out) (fun hHeld => ?_)
 clear hK K
 try simp only [Act.put,qa,qb,qc,qd,qe,qf]
 refine qs 7 (by kernel_rfl) rfl (fun K hK => ?_)
 dsimp only [qa,qb,qc]
 go_simp
 refine hK.out _ _ (SS.out) (fun hHeld => ?_)
 clear hK K
 try simp only [Act.put,qa,qb,qc,qd,qe,qf]
 refine wpAnyH_done (by kernel_rfl) ?_ _
 refine NoPanic.normal ?_
 clear hHeld
 go_wp2
 exact bodyPost_ret (res_dsk2 rfl _ _ w.heap.size _ _ _ (0, 0) rfl XZ.out) rfl ⟨_, _, _, _, _, _, _, rfl, DZ.out, by rw [Gf.wrap_i64, Gf.wrap_i64]; omega, BZ.out⟩
theorem drawMendStripe_of (hStr : StripedOk) (cv : Value) (w : World) (h : RdB w cv) :
    Calls Tryz.prog 18 #[cv] w fun e w' => ∃ p h b P H B A L, e = .returned (.tuple #[.agg #[p, h, b], .int .i64 A, .int .i64 L]) ∧ DskV w' w.heap.size w'.heap.size p h b P H B ∧ (-2 ≤ A ∧ A ≤ 10) ∧ Below w.heap.size w w' := by
 have A0 := hide ((Hand.start w).box nil3 26)
 have C := hide (drawReadStripe_of hStr cv _ (h.below A0.out.below))
 obtain ⟨a0, cap0, zs, rfl, _, _, _⟩ := h
 go_enter Tryz.func18, Tryz.ntmps18
 go_wp2_with fail
 refine C.out.mono ?_
 rintro e w1 ⟨p, h, b, P, H, B, A, L, rfl, d, hA, q⟩
 obtain ⟨ap, cp, ah, ch, ab, cb, rfl, rfl, rfl⟩ := d.sl
 have A1 := hide (A0.out.add q (TDsk.st _ _ _ _ _ _) d)
 clear q d A0 C
 obtain ⟨d0, d1, d2⟩ := (A1.out.atBox 1 rfl).c3
 have g0 := (A1.out.atBox 1 rfl).frozen 0
 have g1 := (A1.out.atBox 1 rfl).frozen 1
 have g2 := (A1.out.atBox 1 rfl).frozen 2
 have AZ := hide (A1.out.store3 1 rfl (.slice ap P.length cp) (.slice ah H.length ch) (.slice ab B.length cb))
 go_wp2
 obtain ⟨lo, hi, d3, lw, hw3, _⟩ := AZ.out.open 0 rfl
 have D3 : DskV _ lo hi (.slice ap P.length cp) (.slice ah H.length ch) (.slice ab B.length cb) P H B := d3
 exact bodyPost_ret (res_dsk3 rfl _ _ w.heap.size _ _ _ (0, 0) rfl (AZ.out.atBox 1 rfl)) rfl ⟨_, _, _, _, _, _, A, L, rfl, D3.wider lw hw3, hA, AZ.out.below⟩
theorem sameInts_quiet (v1 v2 : Value) (xs : List Int) (w : World) (h1 : Rd w v1 xs) (h2 : Rd w v2 xs) :
    Calls Tryz.prog 16 #[v1, v2] w fun e w' => e = .returned (.bool true) ∧ ∃ n, w' = w.drewN n := by
 obtain ⟨a1, c1, rfl, _, m1, k1⟩ := h1
 obtain ⟨a2, c2, rfl, _, _, k2⟩ := h2
 have hm : xs.length ≤ maxLen := by omega
 unfold maxLen at hm
 have K := hide k1
 have L := hide k2
 clear k1 k2 m1
 go_enter Tryz.func16, Tryz.ntmps16
 go_wp2
 go_loopw [13] (fun vi wr => ∃ k n : Nat, k ≤ xs.length ∧ vi = .int .i64 k ∧ wr = w.drewN n) (fun vi _ => xs.length - (intOf vi).toNat)
 case atStart => exact ⟨0, 0, Nat.zero_le _, rfl, rfl⟩
 case round =>
  obtain ⟨k, n, hk, rfl, rfl⟩ := hrel
  by_cases hlt : k < xs.length
  ·rcases K.out with h3 | ⟨b, off, rfl, hbs, hc⟩
   ·subst h3; simp at hlt
   rcases L.out with h3 | ⟨b', off', rfl, hbs', hc'⟩
   ·subst h3; simp at hlt
   have e1 : w.cell? ⟨b, off + k, none⟩ = some (.int .i64 (xs.getD k 0)) := hc k hlt
   have e2 : w.cell? ⟨b', off' + k, none⟩ = some (.int .i64 (xs.getD k 0)) := hc' k hlt
   have hlt' : (k : Int) < (xs.length : Int) := by omega
   clear hc hc'
   go_wp2
   go_quiet (fail)
   go_wp2
   go_roundw
   case rel => exact ⟨k + 1, _, by omega, by go_num, rfl⟩
   case measure => simp [intOf]; omega
  ·obtain rfl : k = xs.length := by omega
   go_wp2
   go_ret
   exact ⟨rfl, _, rfl⟩
theorem sameLists_same (v1 v2 : Value) (m : List (List Int)) (w : World) (h1 : RdM w v1 m) (h2 : RdM w v2 m) :
    Calls Tryz.prog 24 #[v1, v2] w fun e w' => e = .returned (.bool true) ∧ Below w.heap.size w w' := by
 have K := hide h1
 have L := hide h2
 obtain ⟨a1, c1, rfl, _, m1, k1⟩ := h1
 obtain ⟨a2, c2, rfl, _, _, k2⟩ := h2
 have hm : m.length ≤ maxLen := by omega
 unfold maxLen at hm
 clear k1 k2 m1
 go_enter Tryz.func24, Tryz.ntmps24
 go_wp2
 go_loopw [13] (fun vi wr => ∃ k : Nat, k ≤ m.length ∧ vi = .int .i64 k ∧ Below w.heap.size w wr) (fun vi _ => m.length - (intOf vi).toNat)
 case atStart => exact ⟨0, Nat.zero_le _, rfl, Below.refl _ _⟩
 case round =>
  obtain ⟨k, hk, rfl, hb⟩ := hrel
  by_cases hlt : k < m.length
  ·obtain ⟨b, off, u, rfl, hc1, hu⟩ := (K.out.below hb).row k hlt
   obtain ⟨b', off', u', rfl, hc2, hu'⟩ := (L.out.below hb).row k hlt
   have U := hide hu
   have U' := hide hu'
   have hlt' : (k : Int) < (m.length : Int) := by omega
   have B := hide hb
   clear hu hu' hb
   go_wp2
   go_quiet ((go_at_call 16; exact quiet_more (sameInts_quiet _ _ _ _ (Rd.drewN U.out _) (Rd.drewN U'.out _))))
   go_wp2
   go_roundw
   case rel => exact ⟨k + 1, by omega, by go_num, below_drewN B.out _⟩
   case measure => simp [intOf]; omega
  ·obtain rfl : k = m.length := by omega
   go_wp2
   go_ret
   exact ⟨rfl, hb⟩
theorem sameTexts_same (v1 v2 : Value) (xs : List ByteArray) (w : World) (h1 : RdT w v1 xs) (h2 : RdT w v2 xs) :
    Calls Tryz.prog 45 #[v1, v2] w fun e w' => e = .returned (.bool true) ∧ Below w.heap.size w w' := by
 obtain ⟨a1, c1, rfl, _, m1, _, k1⟩ := h1
 obtain ⟨a2, c2, rfl, _, _, _, k2⟩ := h2
 have hm : xs.length ≤ maxLen := by omega
 unfold maxLen at hm
 have K := hide k1
 have L := hide k2
 clear k1 k2 m1
 go_enter Tryz.func45, Tryz.ntmps45
 go_wp2
 go_loopw [13] (fun vi wr => ∃ k : Nat, k ≤ xs.length ∧ vi = .int .i64 k ∧ Below w.heap.size w wr) (fun vi _ => xs.length - (intOf vi).toNat)
 case atStart => exact ⟨0, Nat.zero_le _, rfl, Below.refl _ _⟩
 case round =>
  obtain ⟨k, hk, rfl, hb⟩ := hrel
  by_cases hlt : k < xs.length
  ·rcases K.out with h3 | ⟨b, off, rfl, hbs, hc⟩
   ·subst h3; simp at hlt
   rcases L.out with h3 | ⟨b', off', rfl, hbs', hc'⟩
   ·subst h3; simp at hlt
   have e1 : wr.cell? ⟨b, off + k, none⟩ = some (.string (xs.getD k ⟨#[]⟩)) := (hb.cell (by exact hbs)).trans (hc k hlt)
   have e2 : wr.cell? ⟨b', off' + k, none⟩ = some (.string (xs.getD k ⟨#[]⟩)) := (hb.cell (by exact hbs')).trans (hc' k hlt)
   have hlt' : (k : Int) < (xs.length : Int) := by omega
   clear hc hc'
   generalize xs.getD k ⟨#[]⟩ = z at e1 e2
   go_wp2
   go_quiet (fail)
   go_wp2
   go_roundw
   case rel => exact ⟨k + 1, by omega, by go_num, below_drewN hb _⟩
   case measure => simp [intOf]; omega
  ·obtain rfl : k = xs.length := by omega
   go_wp2
   go_ret
   exact ⟨rfl, hb⟩
theorem sameBools_same (v1 v2 : Value) (xs : List Bool) (w : World) (h1 : RdZ w v1 xs) (h2 : RdZ w v2 xs) :
    Calls Tryz.prog 46 #[v1, v2] w fun e w' => e = .returned (.bool true) ∧ Below w.heap.size w w' := by
 obtain ⟨a1, c1, rfl, _, m1, k1⟩ := h1
 obtain ⟨a2, c2, rfl, _, _, k2⟩ := h2
 have hm : xs.length ≤ maxLen := by omega
 unfold maxLen at hm
 have K := hide k1
 have L := hide k2
 clear k1 k2 m1
 go_enter Tryz.func46, Tryz.ntmps46
 go_wp2
 go_loopw [13] (fun vi wr => ∃ k : Nat, k ≤ xs.length ∧ vi = .int .i64 k ∧ Below w.heap.size w wr) (fun vi _ => xs.length - (intOf vi).toNat)
 case atStart => exact ⟨0, Nat.zero_le _, rfl, Below.refl _ _⟩
 case round =>
  obtain ⟨k, hk, rfl, hb⟩ := hrel
  by_cases hlt : k < xs.length
  ·rcases K.out with h3 | ⟨b, off, rfl, hbs, hc⟩
   ·subst h3; simp at hlt
   rcases L.out with h3 | ⟨b', off', rfl, hbs', hc'⟩
   ·subst h3; simp at hlt
   have e1 : wr.cell? ⟨b, off + k, none⟩ = some (.bool (xs.getD k false)) := (hb.cell (by exact hbs)).trans (hc k hlt)
   have e2 : wr.cell? ⟨b', off' + k, none⟩ = some (.bool (xs.getD k false)) := (hb.cell (by exact hbs')).trans (hc' k hlt)
   have hlt' : (k : Int) < (xs.length : Int) := by omega
   clear hc hc'
   generalize xs.getD k false = z at e1 e2
   go_wp2
   go_quiet (fail)
   go_wp2
   go_roundw
   case rel => exact ⟨k + 1, by omega, by go_num, below_drewN hb _⟩
   case measure => simp [intOf]; omega
  ·obtain rfl : k = xs.length := by omega
   go_wp2
   go_ret
   exact ⟨rfl, hb⟩
theorem sameDisks_same (p h b p' h' b' : Value) (P H : List ByteArray) (B : List Bool) (w : World) (p1 : RdT w p P) (h1 : RdT w h H) (b1 : RdZ w b B) (p2 : RdT w p' P) (h2 : RdT w h' H) (b2 : RdZ w b' B) :
    Calls Tryz.prog 8 #[.agg #[p, h, b], .agg #[p', h', b']] w fun e w' => e = .returned (.bool true) ∧ Below w.heap.size w w' := by
 have P1 := hide p1
 have H1 := hide h1
 have B1 := hide b1
 have P2 := hide p2
 have H2 := hide h2
 have B2 := hide b2
 have A0 : Hid (Hand w ((w.alloc (.cells #[p, h, b] 26)).alloc (.cells #[p', h', b'] 26)) [TBox (w.heap.size + 1) #[p', h', b'] 26, TBox w.heap.size #[p, h, b] 26]) := by
  show Hand _ _ _
  have := ((Hand.start w).box #[p, h, b] 26).box #[p', h', b'] 26
  simpa using this
 obtain ⟨c0, c1, c2⟩ := (A0.out.atBox 1 rfl).c3
 obtain ⟨d0, d1, d2⟩ := (A0.out.atBox 0 rfl).c3
 clear p1 h1 b1 p2 h2 b2
 go_enter Tryz.func8, Tryz.ntmps8
 go_wp2_with fail
 refine (sameTexts_same _ _ P _ (P1.out.below A0.out.below) (P2.out.below A0.out.below)).mono ?_
 rintro e w1 ⟨rfl, q⟩
 have A1 := hide (A0.out.step q)
 clear q A0 c0 c1 c2 d0 d1 d2
 obtain ⟨c0, c1, c2⟩ := (A1.out.atBox 1 rfl).c3
 obtain ⟨d0, d1, d2⟩ := (A1.out.atBox 0 rfl).c3
 go_wp2_with fail
 refine (sameTexts_same _ _ H _ (H1.out.below A1.out.below) (H2.out.below A1.out.below)).mono ?_
 rintro e w2 ⟨rfl, q⟩
 have A2 := hide (A1.out.step q)
 clear q A1 c0 c1 c2 d0 d1 d2
 obtain ⟨c0, c1, c2⟩ := (A2.out.atBox 1 rfl).c3
 obtain ⟨d0, d1, d2⟩ := (A2.out.atBox 0 rfl).c3
 go_wp2_with fail
 refine (sameBools_same _ _ B _ (B1.out.below A2.out.below) (B2.out.below A2.out.below)).mono ?_
 rintro e w3 ⟨rfl, q⟩
 have A3 := hide (A2.out.step q)
 clear q A2 c0 c1 c2 d0 d1 d2
 go_wp2
 go_ret
 exact ⟨rfl, A3.out.below⟩
theorem below_cur {w w' : World} {g : Nat} (b : Below w.heap.size w w') : w.grownBy w' (some g) := ⟨b.os, b.tape, b.output, b.size, fun j hj _ => b.block j hj⟩
structure Sd (W w : World) (g : Nat) (cv : Value) (k gd : Nat) (p h b : Value) (P H : List ByteArray) (B : List Bool) : Prop where
 at_ : ∃ (n : Nat) (s : Int), n ≤ k ∧ w.heap[g]? = some (.cells #[cv, .int .i64 n, .int .u64 s] 65 (0, 0))
 code : ∀ w', W.grownBy w' (some g) → RdB w' cv
 grown : W.grownBy w (some g)
 gl : g < W.heap.size
 rb : BoxAt w W.heap.size nil3 26
 db : BoxAt w gd #[p, h, b] 26
 gt : W.heap.size < gd
 dk : ∃ lo hi, DskV w lo hi p h b P H B ∧ W.heap.size + 1 ≤ lo ∧ hi ≤ w.heap.size ∧ (hi ≤ gd ∨ gd + 1 ≤ lo)
 hl : H.length ≤ 24
section
variable {W w w' : World} {g k k' gd : Nat} {cv p h b : Value} {P H : List ByteArray} {B : List Bool}
theorem Sd.cur (s : Sd W w g cv k gd p h b P H B) : CurS w g cv k := ⟨s.at_, fun w2 h2 => s.code w2 (grown_transA s.grown h2)⟩
theorem Sd.draw (s : Sd W w g cv k gd p h b P H B) (c : CurS w' g cv k') (hg : w.grownBy w' (some g)) : Sd W w' g cv k' gd p h b P H B := by
 have ch := grown_cur hg
 have h1 := s.gl
 have h2 := s.gt
 have h3 := hg.size
 obtain ⟨lo, hi, d, a1, a2, a3⟩ := s.dk
 exact ⟨c.at_, s.code, grown_transA s.grown hg, s.gl, s.rb.chg ch (.inr (by omega)), s.db.chg ch (.inr (by omega)), s.gt, ⟨lo, hi, d.chg ch (.inr (by omega)), a1, by omega, a3⟩, s.hl⟩
theorem Sd.step (s : Sd W w g cv k gd p h b P H B) (hb : Below w.heap.size w w') : Sd W w' g cv k gd p h b P H B := by
 obtain ⟨n, q, hn, hh⟩ := s.at_
 obtain ⟨lo, hi, d, a1, a2, a3⟩ := s.dk
 have h3 := hb.size
 exact ⟨⟨n, q, hn, by rw [hb.block g (Array.getElem?_eq_some_iff.1 hh).1]; exact hh⟩, s.code, grown_transA s.grown (below_cur hb), s.gl, s.rb.below hb, s.db.below hb, s.gt, ⟨lo, hi, d.below hb, a1, by omega, a3⟩, s.hl⟩
theorem Sd.mono (s : Sd W w g cv k gd p h b P H B) (hk : k ≤ k') : Sd W w g cv k' gd p h b P H B := by
 obtain ⟨n, q, hn, hh⟩ := s.at_
 exact ⟨⟨n, q, by omega, hh⟩, s.code, s.grown, s.gl, s.rb, s.db, s.gt, s.dk, s.hl⟩
theorem Sd.rp (s : Sd W w g cv k gd p h b P H B) : RdT w p P := by obtain ⟨lo, hi, d, _⟩ := s.dk; exact d.rp
theorem Sd.rh (s : Sd W w g cv k gd p h b P H B) : RdT w h H := by obtain ⟨lo, hi, d, _⟩ := s.dk; exact d.rh
theorem Sd.rz (s : Sd W w g cv k gd p h b P H B) : RdZ w b B := by obtain ⟨lo, hi, d, _⟩ := s.dk; exact d.rb
theorem Sd.sl (s : Sd W w g cv k gd p h b P H B) : ∃ ap cp ah ch ab cb, p = .slice ap P.length cp ∧ h = .slice ah H.length ch ∧ b = .slice ab B.length cb := by obtain ⟨lo, hi, d, _⟩ := s.dk; exact d.sl
theorem Sd.other {x y : Nat} (s : Sd W w g cv k gd p h b P H B) (ch : Chg x y w w') (hx : gd + 1 ≤ x) (hd : ∀ lo hi, DskV w lo hi p h b P H B → hi ≤ w.heap.size → True) (hk : ∃ lo hi, DskV w lo hi p h b P H B ∧ W.heap.size + 1 ≤ lo ∧ hi ≤ w.heap.size ∧ (hi ≤ gd ∨ gd + 1 ≤ lo) ∧ (hi ≤ x ∨ y ≤ lo)) : Sd W w' g cv k gd p h b P H B := by
 obtain ⟨n, q, hn, hh⟩ := s.at_
 obtain ⟨lo, hi, d, a1, a2, a3, a4⟩ := hk
 have h1 := s.gl
 have h2 := s.gt
 have h3 := ch.size
 have hgr : W.grownBy w' (some g) := ⟨ch.os.trans s.grown.os, ch.tape.trans s.grown.tape, ch.output.trans s.grown.output, Nat.le_trans s.grown.size h3, fun j hj hne => (ch.block j (Nat.lt_of_lt_of_le hj s.grown.size) (.inl (by omega))).trans (s.grown.block j hj hne)⟩
 exact ⟨⟨n, q, hn, by rw [ch.block g (Array.getElem?_eq_some_iff.1 hh).1 (.inl (by omega))]; exact hh⟩, s.code, hgr, s.gl, s.rb.chg ch (.inl (by omega)), s.db.chg ch (.inl (by omega)), s.gt, ⟨lo, hi, d.chg ch a4, a1, by omega, a3⟩, s.hl⟩
theorem Sd.put {p' h' b' : Value} {P' H' : List ByteArray} {B' : List Bool} {a c : Nat} (s : Sd W w g cv k gd p h b P H B) (d : DskV w a c p' h' b' P' H' B') (ha : gd + 1 ≤ a) (hc : c ≤ w.heap.size) (hH : H'.length ≤ 24) :
    Sd W (((w.setCell ⟨gd, 0, none⟩ p').setCell ⟨gd, 1, none⟩ h').setCell ⟨gd, 2, none⟩ b') g cv k gd p' h' b' P' H' B' := by
 obtain ⟨n, q, hn, hh⟩ := s.at_
 have h1 := s.gl
 have h2 := s.gt
 have ch := Chg.store3 (lo := gd) (hi := gd + 1) w gd p' h' b' (Nat.le_refl _) (by omega)
 have h3 := ch.size
 have hgr : W.grownBy (((w.setCell ⟨gd, 0, none⟩ p').setCell ⟨gd, 1, none⟩ h').setCell ⟨gd, 2, none⟩ b') (some g) := ⟨ch.os.trans s.grown.os, ch.tape.trans s.grown.tape, ch.output.trans s.grown.output, Nat.le_trans s.grown.size h3, fun j hj hne => (ch.block j (Nat.lt_of_lt_of_le hj s.grown.size) (.inl (by omega))).trans (s.grown.block j hj hne)⟩
 exact ⟨⟨n, q, hn, by rw [ch.block g (Array.getElem?_eq_some_iff.1 hh).1 (.inl (by omega))]; exact hh⟩, s.code, hgr, s.gl, s.rb.chg ch (.inl (by omega)), s.db.store3 p' h' b', s.gt, ⟨a, c, d.chg ch (.inr ha), by omega, by omega, .inr ha⟩, hH⟩
theorem Sd.start {w1 w2 : World} {k0 : Nat} (h0 : CurS W g cv k0) (c1 : CurS w1 g cv k) (g1 : (W.alloc (.cells nil3 26)).grownBy w1 (some g)) (b2 : Below w1.heap.size w1 w2) (d : DskV w2 w1.heap.size w2.heap.size p h b P H B) (hH : H.length ≤ 24) :
    Sd W (w2.alloc (.cells #[p, h, b] 26)) g cv k w2.heap.size p h b P H B := by
 have hl := curS_lt h0
 have s1 := g1.size
 simp only [World.size_alloc] at s1
 have s2 := b2.size
 have b3 := below_box w2 (.cells #[p, h, b] 26)
 have s3 := b3.size
 obtain ⟨n, q, hn, hh⟩ := c1.at_
 have hh2 : w2.heap[g]? = some (.cells #[cv, .int .i64 n, .int .u64 q] 65 (0, 0)) := by rw [b2.block g (by omega)]; exact hh
 have r1 := (BoxAt.new W nil3 26).chg (grown_cur g1) (.inr (by omega))
 exact ⟨⟨n, q, hn, by rw [b3.block g (by omega)]; exact hh2⟩, h0.code, grown_transA (grown_transA (below_cur (below_box W _)) g1) (grown_transA (below_cur b2) (below_cur b3)), hl, (r1.below b2).below b3, BoxAt.new w2 _ _, by omega, ⟨_, _, d.below b3, by omega, by omega, .inl (Nat.le_refl _)⟩, hH⟩
end
end Go.Proofs.YthdbacihhmilbaaGreatDoor

/-
  striped of the model: some disk and a place, the cursor moved on. The contract says what it asks.
-/
import Derived.Test.YthdbacihhmilbaaGreatDoorStripesB43
import Derived.Deep.DeepCutAuto
import Derived.Deep.CutBlock
import Derived.Test.YthdbacihhmilbaaGreatDoorStripesB0
set_option linter.unusedVariables false
set_option linter.unusedSimpArgs false
set_option maxRecDepth 100000
set_option maxHeartbeats 1600000
namespace Go.Proofs.YthdbacihhmilbaaGreatDoor
open Go.RowKit
theorem striped_ok : StripedOk := by
 intro g cv k w hc hk
 have H0 := hide hc
 have C0 := hide (hc.alloc (.cells nil3 26))
 clear hc
 go_enter Tryz.func31, Tryz.ntmps31
 go_wp2_with fail
 refine (pick_calls g cv k 4 _ C0.out (by omega) (by omega) (by omega)).mono ?_
 rintro e w1 ⟨r1, hr1, rfl, c1, g1⟩
 have C1 := hide c1
 have G1 := hide g1
 clear c1 g1
 go_wp2_with fail
 refine (sNewDisk_calls _ _).mono ?_
 rintro e w2 ⟨p, h, b, rfl, d2, b2⟩
 have hPl := ndT_len r1 hr1
 have S := hide (Sd.start H0.out C1.out G1.out b2 d2 (by omega))
 obtain ⟨ap, cp, ah, ch, ab, cb, rfl, rfl, rfl⟩ := d2.sl
 generalize ndK (5 + (r1 : Int)) = nk at *
 generalize ndT (5 + (r1 : Int)) = P at *
 generalize ndZ (5 + (r1 : Int)) = B at *
 have HPL := hide hPl
 clear b2 d2 C0 C1 G1
 obtain ⟨q0, q1, q2⟩ := S.out.db.c3
 rw [hPl] at *
 clear hPl
 go_wp2_with fail
 rw [show ((5 : Int) + (r1 : Int) - 5 + 1) = ((r1 + 1 : Nat) : Int) by omega]
 refine (pick_calls g cv (k + 2) (r1 + 1) _ S.out.cur (by omega) (by omega) (by omega)).mono ?_
 rintro e w4 ⟨A, hA, rfl, c4, g4⟩
 have S4 := hide (S.out.draw c4 g4)
 clear c4 g4 S q0 q1 q2
 have S := hide S4.out
 clear S4
 have hA4 : A ≤ 3 := by omega
 have AW : (Lit.int .i64 ((A : Nat) : Int)).wf = true := by simp [Lit.wf, IntKind.min, IntKind.max, IntKind.signed, IntKind.bits]; omega
 obtain ⟨gd, hgd⟩ : ∃ gd, gd = w2.heap.size := ⟨_, rfl⟩
 rw [← hgd] at S ⊢
 clear hgd HPL
 go_upto_region 3 with fail
 go_cut [29] (fun s29 wx => ∃ p h b P H B, Sd w wx g cv (k + 8) gd p h b P H B)
 case first =>
  refine wp_region_noPanic ?_
  refine wp_region_held_drew (S := fun _ => True) (by kernel_rfl) (trivial) (fun hHeld => ?_)
  have S3_0 := hide (S.out.step (Below.refl _ _).drew)
  clear S
  generalize World.drew _ = u3_0 at *
  refine qt 1 ?v1 rfl (by kernel_rfl) (by kernel_rfl) (by kernel_rfl) (by rfl) ?hy1 (by assumption) (fun _ _ _ h => h) ?rest1
  case hy1 => intro _ s; dsimp only [qa,qb,qc] at s ⊢; go_simp; try with_reducible rfl
  try simp only [Act.put,qa,qb,qc,qd,qe,qf]
  refine qt 2 ?v2 rfl (by kernel_rfl) (by kernel_rfl) (by kernel_rfl) (by rfl) ?hy2 (by assumption) (fun _ _ _ h => h) ?rest2
  case hy2 => intro _ s; dsimp only [qa,qb,qc] at s ⊢; go_simp; try with_reducible rfl
  try simp only [Act.put,qa,qb,qc,qd,qe,qf]
  refine qt 5 ?v3 rfl (by kernel_rfl) (by kernel_rfl) (by kernel_rfl) (by rfl) ?hy3 (by assumption) (fun _ _ _ h => h) ?rest3
  case hy3 => intro _ s; dsimp only [qa,qb,qc] at s ⊢; go_simp; try with_reducible rfl
  try simp only [Act.put,qa,qb,qc,qd,qe,qf]
  refine wpAnyH_ready (rs := [0, 3]) (by kernel_rfl) (by simp) ?_
  refine AllReadyH.cons rfl (fun KK hK => ?_) (AllReadyH.cons rfl (fun KK hK => ?_) (AllReadyH.nil))
  ·obtain ⟨m0, m1, m2⟩ := S3_0.out.db.c3
   dsimp only [qa,qb,qc]
   go_simp
   clear m0 m1 m2 hHeld
   refine hK.out _ _ (trivial) (fun hHeld => ?_)
   clear hK KK
   try simp only [Act.put,qa,qb,qc,qd,qe,qf]
   refine qs 3 (by kernel_rfl) rfl (fun KK hK => ?_)
   dsimp only [qa,qb,qc]
   go_simp
   refine (pick_calls g cv (k + 4) 3 _ S3_0.out.cur (by omega) (by omega) (by omega)).mono ?_
   rintro e' u3_2 ⟨x2, hx2, rfl, hc2, hg2⟩
   have S3_2 := hide (S3_0.out.draw hc2 hg2)
   clear hc2 hg2 hHeld
   refine hK.out _ _ (trivial) (fun hHeld => ?_)
   clear hK KK
   try simp only [Act.put,qa,qb,qc,qd,qe,qf]
   refine qt 4 ?v4 rfl (by kernel_rfl) (by kernel_rfl) (by kernel_rfl) (by rfl) ?hy4 (by assumption) (fun _ _ _ h => h) ?rest4
   case hy4 => intro _ s; dsimp only [qa,qb,qc] at s ⊢; go_simp; try with_reducible rfl
   try simp only [Act.put,qa,qb,qc,qd,qe,qf]
   refine qs 6 (by kernel_rfl) rfl (fun KK hK => ?_)
   dsimp only [qa,qb,qc]
   go_simp
   refine (text8_calls g cv (k + 4 + 2) _ S3_2.out.cur (by omega)).mono ?_
   rintro e' u3_3 ⟨tx, htx, rfl, hc3, hg3⟩
   have S3_3 := hide (S3_2.out.draw hc3 hg3)
   clear hc3 hg3 hHeld
   refine hK.out _ _ (trivial) (fun hHeld => ?_)
   clear hK KK
   try simp only [Act.put,qa,qb,qc,qd,qe,qf]
   refine qs 7 (by kernel_rfl) rfl (fun KK hK => ?_)
   dsimp only [qa,qb,qc]
   go_simp
   refine (wWrite_calls _ _ _ _ _ _ _ _ tx _ AW htx S3_3.out.rp S3_3.out.rh S3_3.out.rz S3_3.out.hl).mono ?_
   rintro e' u3_4 ⟨okw, p', h', b', P', H', B', rfl, d', hl', b7⟩
   obtain ⟨ap', cp', ah', ch', ab', cb', rfl, rfl, rfl⟩ := d'.sl
   have L7 := hide S3_3.out.db.lt
   have S3_4 := hide (S3_3.out.step b7)
   have D7 := hide d'
   have HL7 := hide hl'
   clear b7 d' hl' hHeld
   refine hK.out _ _ (trivial) (fun hHeld => ?_)
   clear hK KK
   try simp only [Act.put,qa,qb,qc,qd,qe,qf]
   refine qt 8 ?v5 rfl (by kernel_rfl) (by kernel_rfl) (by kernel_rfl) (by rfl) ?hy5 (by assumption) (fun _ _ _ h => h) ?rest5
   case hy5 => intro _ s; dsimp only [qa,qb,qc] at s ⊢; go_simp; try with_reducible rfl
   try simp only [Act.put,qa,qb,qc,qd,qe,qf]
   refine qt 9 ?v6 rfl (by kernel_rfl) (by kernel_rfl) (by kernel_rfl) (by rfl) ?hy6 (by assumption) (fun _ _ _ h => h) ?rest6
   case hy6 => intro _ s; dsimp only [qa,qb,qc] at s ⊢; go_simp; try with_reducible rfl
   try simp only [Act.put,qa,qb,qc,qd,qe,qf]
   refine qt 10 ?v7 rfl (by kernel_rfl) (by kernel_rfl) (by kernel_rfl) (by rfl) ?hy7 (by assumption) (fun _ _ _ h => h) ?rest7
   case hy7 => intro _ s; dsimp only [qa,qb,qc] at s ⊢; go_simp; try with_reducible rfl
   try simp only [Act.put,qa,qb,qc,qd,qe,qf]
   refine qs 11 (by kernel_rfl) rfl (fun KK hK => ?_)
   obtain ⟨m0, m1, m2⟩ := S3_4.out.db.c3
   have f0 := S3_4.out.db.frozen 0
   have f1 := S3_4.out.db.frozen 1
   have f2 := S3_4.out.db.frozen 2
   have S9 := hide (S3_4.out.put D7.out (by have := L7.out; omega) (Nat.le_refl _) HL7.out)
   dsimp only [qa,qb,qc]
   go_simp
   clear m0 m1 m2 f0 f1 f2 hHeld
   refine hK.out _ _ (trivial) (fun hHeld => ?_)
   clear hK KK
   try simp only [Act.put,qa,qb,qc,qd,qe,qf]
   refine wpAnyH_done (by kernel_rfl) ?_ _
   refine NoPanic.normal ?_
   clear hHeld
   go_wp2_with fail
   go_meet
   exact ⟨_, _, _, _, _, _, S9.out.mono (by omega)⟩
  ·dsimp only [qa,qb,qc]
   go_simp
   refine (pick_calls g cv (k + 4) 3 _ S3_0.out.cur (by omega) (by omega) (by omega)).mono ?_
   rintro e' u3_5 ⟨x5, hx5, rfl, hc5, hg5⟩
   have S3_5 := hide (S3_0.out.draw hc5 hg5)
   clear hc5 hg5 hHeld
   refine hK.out _ _ (trivial) (fun hHeld => ?_)
   clear hK KK
   try simp only [Act.put,qa,qb,qc,qd,qe,qf]
   refine qt 4 ?v8 rfl (by kernel_rfl) (by kernel_rfl) (by kernel_rfl) (by rfl) ?hy8 (by assumption) (fun _ _ _ h => h) ?rest8
   case hy8 => intro _ s; dsimp only [qa,qb,qc] at s ⊢; go_simp; try with_reducible rfl
   try simp only [Act.put,qa,qb,qc,qd,qe,qf]
   refine wpAnyH_ready (rs := [0, 6]) (by kernel_rfl) (by simp) ?_
   refine AllReadyH.cons rfl (fun KK hK => ?_) (AllReadyH.cons rfl (fun KK hK => ?_) (AllReadyH.nil))
   ·obtain ⟨m0, m1, m2⟩ := S3_5.out.db.c3
    dsimp only [qa,qb,qc]
    go_simp
    clear m0 m1 m2 hHeld
    refine hK.out _ _ (trivial) (fun hHeld => ?_)
    clear hK KK
    try simp only [Act.put,qa,qb,qc,qd,qe,qf]
    refine qs 6 (by kernel_rfl) rfl (fun KK hK => ?_)
    dsimp only [qa,qb,qc]
    go_simp
    refine (text8_calls g cv (k + 4 + 2) _ S3_5.out.cur (by omega)).mono ?_
    rintro e' u3_7 ⟨tx, htx, rfl, hc7, hg7⟩
    have S3_7 := hide (S3_5.out.draw hc7 hg7)
    clear hc7 hg7 hHeld
    refine hK.out _ _ (trivial) (fun hHeld => ?_)
    clear hK KK
    try simp only [Act.put,qa,qb,qc,qd,qe,qf]
    refine qs 7 (by kernel_rfl) rfl (fun KK hK => ?_)
    dsimp only [qa,qb,qc]
    go_simp
    refine (wWrite_calls _ _ _ _ _ _ _ _ tx _ AW htx S3_7.out.rp S3_7.out.rh S3_7.out.rz S3_7.out.hl).mono ?_
    rintro e' u3_8 ⟨okw, p', h', b', P', H', B', rfl, d', hl', b7⟩
    obtain ⟨ap', cp', ah', ch', ab', cb', rfl, rfl, rfl⟩ := d'.sl
    have L7 := hide S3_7.out.db.lt
    have S3_8 := hide (S3_7.out.step b7)
    have D7 := hide d'
    have HL7 := hide hl'
    clear b7 d' hl' hHeld
    refine hK.out _ _ (trivial) (fun hHeld => ?_)
    clear hK KK
    try simp only [Act.put,qa,qb,qc,qd,qe,qf]
    refine qt 8 ?v9 rfl (by kernel_rfl) (by kernel_rfl) (by kernel_rfl) (by rfl) ?hy9 (by assumption) (fun _ _ _ h => h) ?rest9
    case hy9 => intro _ s; dsimp only [qa,qb,qc] at s ⊢; go_simp; try with_reducible rfl
    try simp only [Act.put,qa,qb,qc,qd,qe,qf]
    refine qt 9 ?v10 rfl (by kernel_rfl) (by kernel_rfl) (by kernel_rfl) (by rfl) ?hy10 (by assumption) (fun _ _ _ h => h) ?rest10
    case hy10 => intro _ s; dsimp only [qa,qb,qc] at s ⊢; go_simp; try with_reducible rfl
    try simp only [Act.put,qa,qb,qc,qd,qe,qf]
    refine qt 10 ?v11 rfl (by kernel_rfl) (by kernel_rfl) (by kernel_rfl) (by rfl) ?hy11 (by assumption) (fun _ _ _ h => h) ?rest11
    case hy11 => intro _ s; dsimp only [qa,qb,qc] at s ⊢; go_simp; try with_reducible rfl
    try simp only [Act.put,qa,qb,qc,qd,qe,qf]
    refine qs 11 (by kernel_rfl) rfl (fun KK hK => ?_)
    obtain ⟨m0, m1, m2⟩ := S3_8.out.db.c3
    have f0 := S3_8.out.db.frozen 0
    have f1 := S3_8.out.db.frozen 1
    have f2 := S3_8.out.db.frozen 2
    have S9 := hide (S3_8.out.put D7.out (by have := L7.out; omega) (Nat.le_refl _) HL7.out)
    dsimp only [qa,qb,qc]
    go_simp
    clear m0 m1 m2 f0 f1 f2 hHeld
    refine hK.out _ _ (trivial) (fun hHeld => ?_)
    clear hK KK
    try simp only [Act.put,qa,qb,qc,qd,qe,qf]
    refine wpAnyH_done (by kernel_rfl) ?_ _
    refine NoPanic.normal ?_
    clear hHeld
    go_wp2_with fail
    go_meet
    exact ⟨_, _, _, _, _, _, S9.out.mono (by omega)⟩
   ·dsimp only [qa,qb,qc]
    go_simp
    refine (text8_calls g cv (k + 4 + 2) _ S3_5.out.cur (by omega)).mono ?_
    rintro e' u3_9 ⟨tx, htx, rfl, hc9, hg9⟩
    have S3_9 := hide (S3_5.out.draw hc9 hg9)
    clear hc9 hg9 hHeld
    refine hK.out _ _ (trivial) (fun hHeld => ?_)
    clear hK KK
    try simp only [Act.put,qa,qb,qc,qd,qe,qf]
    refine qs 0 (by kernel_rfl) rfl (fun KK hK => ?_)
    obtain ⟨m0, m1, m2⟩ := S3_9.out.db.c3
    dsimp only [qa,qb,qc]
    go_simp
    clear m0 m1 m2 hHeld
    refine hK.out _ _ (trivial) (fun hHeld => ?_)
    clear hK KK
    try simp only [Act.put,qa,qb,qc,qd,qe,qf]
    refine qs 7 (by kernel_rfl) rfl (fun KK hK => ?_)
    dsimp only [qa,qb,qc]
    go_simp
    refine (wWrite_calls _ _ _ _ _ _ _ _ tx _ AW htx S3_9.out.rp S3_9.out.rh S3_9.out.rz S3_9.out.hl).mono ?_
    rintro e' u3_11 ⟨okw, p', h', b', P', H', B', rfl, d', hl', b7⟩
    obtain ⟨ap', cp', ah', ch', ab', cb', rfl, rfl, rfl⟩ := d'.sl
    have L7 := hide S3_9.out.db.lt
    have S3_11 := hide (S3_9.out.step b7)
    have D7 := hide d'
    have HL7 := hide hl'
    clear b7 d' hl' hHeld
    refine hK.out _ _ (trivial) (fun hHeld => ?_)
    clear hK KK
    try simp only [Act.put,qa,qb,qc,qd,qe,qf]
    refine qt 8 ?v12 rfl (by kernel_rfl) (by kernel_rfl) (by kernel_rfl) (by rfl) ?hy12 (by assumption) (fun _ _ _ h => h) ?rest12
    case hy12 => intro _ s; dsimp only [qa,qb,qc] at s ⊢; go_simp; try with_reducible rfl
    try simp only [Act.put,qa,qb,qc,qd,qe,qf]
    refine qt 9 ?v13 rfl (by kernel_rfl) (by kernel_rfl) (by kernel_rfl) (by rfl) ?hy13 (by assumption) (fun _ _ _ h => h) ?rest13
    case hy13 => intro _ s; dsimp only [qa,qb,qc] at s ⊢; go_simp; try with_reducible rfl
    try simp only [Act.put,qa,qb,qc,qd,qe,qf]
    refine qt 10 ?v14 rfl (by kernel_rfl) (by kernel_rfl) (by kernel_rfl) (by rfl) ?hy14 (by assumption) (fun _ _ _ h => h) ?rest14
    case hy14 => intro _ s; dsimp only [qa,qb,qc] at s ⊢; go_simp; try with_reducible rfl
    try simp only [Act.put,qa,qb,qc,qd,qe,qf]
    refine qs 11 (by kernel_rfl) rfl (fun KK hK => ?_)
    obtain ⟨m0, m1, m2⟩ := S3_11.out.db.c3
    have f0 := S3_11.out.db.frozen 0
    have f1 := S3_11.out.db.frozen 1
    have f2 := S3_11.out.db.frozen 2
    have S9 := hide (S3_11.out.put D7.out (by have := L7.out; omega) (Nat.le_refl _) HL7.out)
    dsimp only [qa,qb,qc]
    go_simp
    clear m0 m1 m2 f0 f1 f2 hHeld
    refine hK.out _ _ (trivial) (fun hHeld => ?_)
    clear hK KK
    try simp only [Act.put,qa,qb,qc,qd,qe,qf]
    refine wpAnyH_done (by kernel_rfl) ?_ _
    refine NoPanic.normal ?_
    clear hHeld
    go_wp2_with fail
    go_meet
    exact ⟨_, _, _, _, _, _, S9.out.mono (by omega)⟩
 case rest =>
  obtain ⟨p, h, b, P, H, B, hS⟩ := hcut
  have S := hide hS
  clear hS
  obtain ⟨ap, cp, ah, ch, ab, cb, rfl, rfl, rfl⟩ := S.out.sl
  obtain ⟨m0, m1, m2⟩ := S.out.db.c3
  go_wp2_with fail
  refine (wStep_calls _ _ _ (.slice none 0 0) P H B 2 0 ⟨#[]⟩ [] _ S.out.rp S.out.rh S.out.rz (Own.rd (base := 0) (World.ownsRow_nil _ _ _ _)) (by decide) (by decide) S.out.hl).mono ?_
  rintro e w5 ⟨ok5, p', h', b', P', H', B', rfl, d', hl', b5⟩
  obtain ⟨ap', cp', ah', ch', ab', cb', rfl, rfl, rfl⟩ := d'.sl
  have L5 := hide S.out.db.lt
  have S5 := hide (S.out.step b5)
  have D5 := hide d'
  have HL5 := hide hl'
  clear b5 d' hl' m0 m1 m2 S
  obtain ⟨m0, m1, m2⟩ := S5.out.db.c3
  have f0 := S5.out.db.frozen 0
  have f1 := S5.out.db.frozen 1
  have f2 := S5.out.db.frozen 2
  have S6 := hide (S5.out.put D5.out (by have := L5.out; omega) (Nat.le_refl _) HL5.out)
  clear D5 HL5 S5
  go_wp2_with fail
  refine (one_calls g cv (k + 8) 2 _ S6.out.cur (by omega) (by omega) (by omega)).mono ?_
  rintro e w6 ⟨bb, rfl, c6, g6⟩
  have S7 := hide (S6.out.draw c6 g6)
  clear c6 g6 S6 L5 m0 m1 m2 f0 f1 f2
  go_upto_if 47 with fail
  go_cut [7, 8] (fun s7 s8 wx => ∃ p h b P H B, Sd w wx g cv (k + 16) gd p h b P H B)
  case first =>
   cases bb with
   | false =>
    go_wp2_with fail
    go_meet
    exact ⟨_, _, _, _, _, _, S7.out.mono (by omega)⟩
   | true =>
    go_upto_region 6 with fail
    go_cut [7, 8] (fun s7 s8 wx => ∃ ok gy p h b P H B p' h' b' P' H' B', s7 = .pointer (some ⟨gy, 0, none⟩) ∧ s8 = .bool ok ∧ Sy w wx g cv (k + 16) gd p h b P H B gy p' h' b' P' H' B')
    case first =>
     have S := hide S7.out
     clear S7
     have K6 := hide (Sk.start (S.out.step (Below.refl _ _).drew))
     clear S
     refine wp_region_noPanic ?_
     refine wp_region_held_drew (S := fun w' => w'.cell? ⟨gd, 0, none⟩ = some (.slice ap' P'.length cp') ∧ w'.cell? ⟨gd, 1, none⟩ = some (.slice ah' H'.length ch') ∧ w'.cell? ⟨gd, 2, none⟩ = some (.slice ab' B'.length cb')) (by kernel_rfl) (K6.out.s.db.c3) (fun hHeld => ?_)
     generalize World.drew _ = u6 at *
     obtain ⟨gx, hgx⟩ : ∃ gx, gx = u6.heap.size := ⟨_, rfl⟩
     rw [← hgx] at K6
     clear hgx
     refine qt 0 ?v15 rfl (by kernel_rfl) (by kernel_rfl) (by kernel_rfl) (by rfl) ?hy15 (by assumption) (fun _ _ _ h => h) ?rest15
     case hy15 => intro _ s; dsimp only [qa,qb,qc] at s ⊢; go_simp; try with_reducible rfl
     try simp only [Act.put,qa,qb,qc,qd,qe,qf]
     refine qt 1 ?v16 rfl (by kernel_rfl) (by kernel_rfl) (by kernel_rfl) (by rfl) ?hy16 (by assumption) (fun _ _ _ h => h) ?rest16
     case hy16 => intro _ s; dsimp only [qa,qb,qc] at s ⊢; go_simp; try with_reducible rfl
     try simp only [Act.put,qa,qb,qc,qd,qe,qf]
     refine qt 2 ?v17 rfl (by kernel_rfl) (by kernel_rfl) (by kernel_rfl) (by rfl) ?hy17 (by assumption) (fun _ _ _ h => h) ?rest17
     case hy17 => intro _ s; dsimp only [qa,qb,qc] at s ⊢; go_simp; try with_reducible rfl
     try simp only [Act.put,qa,qb,qc,qd,qe,qf]
     refine qt 5 ?v18 rfl (by kernel_rfl) (by kernel_rfl) (by kernel_rfl) (by rfl) ?hy18 (by assumption) (fun _ _ _ h => h) ?rest18
     case hy18 => intro _ s; dsimp only [qa,qb,qc] at s ⊢; go_simp; try with_reducible rfl
     try simp only [Act.put,qa,qb,qc,qd,qe,qf]
     refine wpAnyH_ready (rs := [3, 11]) (by kernel_rfl) (by simp) ?_
     refine AllReadyH.cons rfl (fun KK hK => ?_) (AllReadyH.cons rfl (fun KK hK => ?_) (AllReadyH.nil))
     ·dsimp only [qa,qb,qc]
      go_simp
      refine (pick_calls g cv (k + 10) 4 _ K6.out.s.cur (by omega) (by omega) (by omega)).mono ?_
      rintro e' u101 ⟨x101, hx101, rfl, hc101, hg101⟩
      have K101 := hide (K6.out.draw hc101 hg101)
      clear hc101 hg101 hHeld K6
      refine hK.out _ _ (K101.out.s.db.c3) (fun hHeld => ?_)
      clear hK KK
      try simp only [Act.put,qa,qb,qc,qd,qe,qf]
      refine qt 4 ?v19 rfl (by kernel_rfl) (by kernel_rfl) (by kernel_rfl) (by rfl) ?hy19 (by assumption) (fun _ _ _ h => h) ?rest19
      case hy19 => intro _ s; dsimp only [qa,qb,qc] at s ⊢; go_simp; try with_reducible rfl
      try simp only [Act.put,qa,qb,qc,qd,qe,qf]
      refine wpAnyH_ready (rs := [6, 11]) (by kernel_rfl) (by simp) ?_
      refine AllReadyH.cons rfl (fun KK hK => ?_) (AllReadyH.cons rfl (fun KK hK => ?_) (AllReadyH.nil))
      ·dsimp only [qa,qb,qc]
       go_simp
       refine (text8_calls g cv (k + 10 + 2) _ K101.out.s.cur (by omega)).mono ?_
       rintro e' u102 ⟨tx, htx, rfl, hc102, hg102⟩
       have K102 := hide (K101.out.draw hc102 hg102)
       clear hc102 hg102 hHeld K101
       refine hK.out _ _ (K102.out.s.db.c3) (fun hHeld => ?_)
       clear hK KK
       try simp only [Act.put,qa,qb,qc,qd,qe,qf]
       refine wpAnyH_ready (rs := [7, 11]) (by kernel_rfl) (by simp) ?_
       refine AllReadyH.cons rfl (fun KK hK => ?_) (AllReadyH.cons rfl (fun KK hK => ?_) (AllReadyH.nil))
       ·dsimp only [qa,qb,qc]
        go_simp
        refine (wWrite_calls _ _ _ _ _ _ _ _ tx _ AW htx K102.out.s.rp K102.out.s.rh K102.out.s.rz K102.out.s.hl).mono ?_
        rintro e' u103 ⟨okw, p9, h9, b9, P9, H9, B9, rfl, d', hl', b7⟩
        obtain ⟨ap9, cp9, ah9, ch9, ab9, cb9, rfl, rfl, rfl⟩ := d'.sl
        have K103 := hide (K102.out.step b7)
        have D103 := hide (Dq.made K102.out b7 d')
        have HL7 := hide hl'
        clear b7 d' hl' hHeld K102
        refine hK.out _ _ (K103.out.s.db.c3) (fun hHeld => ?_)
        clear hK KK
        try simp only [Act.put,qa,qb,qc,qd,qe,qf]
        refine qt 8 ?v20 rfl (by kernel_rfl) (by kernel_rfl) (by kernel_rfl) (by rfl) ?hy20 (by assumption) (fun _ _ _ h => h) ?rest20
        case hy20 => intro _ s; dsimp only [qa,qb,qc] at s ⊢; go_simp; try with_reducible rfl
        try simp only [Act.put,qa,qb,qc,qd,qe,qf]
        refine qt 9 ?v21 rfl (by kernel_rfl) (by kernel_rfl) (by kernel_rfl) (by rfl) ?hy21 (by assumption) (fun _ _ _ h => h) ?rest21
        case hy21 => intro _ s; dsimp only [qa,qb,qc] at s ⊢; go_simp; try with_reducible rfl
        try simp only [Act.put,qa,qb,qc,qd,qe,qf]
        refine qt 10 ?v22 rfl (by kernel_rfl) (by kernel_rfl) (by kernel_rfl) (by rfl) ?hy22 (by assumption) (fun _ _ _ h => h) ?rest22
        case hy22 => intro _ s; dsimp only [qa,qb,qc] at s ⊢; go_simp; try with_reducible rfl
        try simp only [Act.put,qa,qb,qc,qd,qe,qf]
        refine qs 11 (by kernel_rfl) rfl (fun KK hK => ?_)
        dsimp only [qa,qb,qc]
        go_simp
        have K104 := hide (K103.out.step (below_box u103 (.cells nil3 26)))
        have X104 := hide (BoxAt.new u103 nil3 26)
        have GY := hide K103.out.le
        have D104 := hide (D103.out.step (below_box u103 (.cells nil3 26)))
        obtain ⟨gy, hgy⟩ : ∃ gy, gy = u103.heap.size := ⟨_, rfl⟩
        rw [← hgy] at X104 GY ⊢
        rw [← hgy] at D104
        clear hgy
        generalize u103.alloc (.cells #[.slice none 0 0, .slice none 0 0, .slice none 0 0] 26) = u104 at K104 X104 D104 ⊢
        clear hHeld K103 D103
        refine hK.out _ _ (K104.out.s.db.c3) (fun hHeld => ?_)
        clear hK KK
        try simp only [Act.put,qa,qb,qc,qd,qe,qf]
        refine qs 12 (by kernel_rfl) rfl (fun KK hK => ?_)
        obtain ⟨m0, m1, m2⟩ := X104.out.c3
        have f0 := X104.out.frozen 0
        have f1 := X104.out.frozen 1
        have f2 := X104.out.frozen 2
        have Y9 := hide (Sy.put K104.out GY.out X104.out D104.out HL7.out)
        dsimp only [qa,qb,qc]
        go_simp
        clear m0 m1 m2 f0 f1 f2 hHeld K104 X104 D104
        refine hK.out _ _ (Y9.out.s.db.c3) (fun hHeld => ?_)
        clear hK KK
        try simp only [Act.put,qa,qb,qc,qd,qe,qf]
        refine qs 13 (by kernel_rfl) rfl (fun KK hK => ?_)
        dsimp only [qa,qb,qc]
        go_simp
        refine hK.out _ _ (Y9.out.s.db.c3) (fun hHeld => ?_)
        clear hK KK
        try simp only [Act.put,qa,qb,qc,qd,qe,qf]
        refine wpAnyH_done (by kernel_rfl) ?_ _
        refine NoPanic.normal ?_
        clear hHeld
        go_wp2_with fail
        go_meet
        exact ⟨_, _, _, _, _, _, _, _, _, _, _, _, _, _, rfl, rfl, Y9.out.mono (by omega)⟩
       ·dsimp only [qa,qb,qc]
        go_simp
        have K105 := hide (K102.out.step (below_box u102 (.cells nil3 26)))
        have X105 := hide (BoxAt.new u102 nil3 26)
        have GY := hide K102.out.le
        obtain ⟨gy, hgy⟩ : ∃ gy, gy = u102.heap.size := ⟨_, rfl⟩
        rw [← hgy] at X105 GY ⊢
        clear hgy
        generalize u102.alloc (.cells #[.slice none 0 0, .slice none 0 0, .slice none 0 0] 26) = u105 at K105 X105  ⊢
        clear hHeld K102
        refine hK.out _ _ (K105.out.s.db.c3) (fun hHeld => ?_)
        clear hK KK
        try simp only [Act.put,qa,qb,qc,qd,qe,qf]
        refine qs 7 (by kernel_rfl) rfl (fun KK hK => ?_)
        dsimp only [qa,qb,qc]
        go_simp
        refine (wWrite_calls _ _ _ _ _ _ _ _ tx _ AW htx K105.out.s.rp K105.out.s.rh K105.out.s.rz K105.out.s.hl).mono ?_
        rintro e' u106 ⟨okw, p9, h9, b9, P9, H9, B9, rfl, d', hl', b7⟩
        obtain ⟨ap9, cp9, ah9, ch9, ab9, cb9, rfl, rfl, rfl⟩ := d'.sl
        have K106 := hide (K105.out.step b7)
        have X106 := hide (X105.out.below b7)
        have D106 := hide (Dq.madeX K105.out X105.out b7 d')
        have HL7 := hide hl'
        clear b7 d' hl' hHeld K105 X105
        refine hK.out _ _ (K106.out.s.db.c3) (fun hHeld => ?_)
        clear hK KK
        try simp only [Act.put,qa,qb,qc,qd,qe,qf]
        refine qt 8 ?v23 rfl (by kernel_rfl) (by kernel_rfl) (by kernel_rfl) (by rfl) ?hy23 (by assumption) (fun _ _ _ h => h) ?rest23
        case hy23 => intro _ s; dsimp only [qa,qb,qc] at s ⊢; go_simp; try with_reducible rfl
        try simp only [Act.put,qa,qb,qc,qd,qe,qf]
        refine qt 9 ?v24 rfl (by kernel_rfl) (by kernel_rfl) (by kernel_rfl) (by rfl) ?hy24 (by assumption) (fun _ _ _ h => h) ?rest24
        case hy24 => intro _ s; dsimp only [qa,qb,qc] at s ⊢; go_simp; try with_reducible rfl
        try simp only [Act.put,qa,qb,qc,qd,qe,qf]
        refine qt 10 ?v25 rfl (by kernel_rfl) (by kernel_rfl) (by kernel_rfl) (by rfl) ?hy25 (by assumption) (fun _ _ _ h => h) ?rest25
        case hy25 => intro _ s; dsimp only [qa,qb,qc] at s ⊢; go_simp; try with_reducible rfl
        try simp only [Act.put,qa,qb,qc,qd,qe,qf]
        refine qs 12 (by kernel_rfl) rfl (fun KK hK => ?_)
        obtain ⟨m0, m1, m2⟩ := X106.out.c3
        have f0 := X106.out.frozen 0
        have f1 := X106.out.frozen 1
        have f2 := X106.out.frozen 2
        have Y9 := hide (Sy.put K106.out GY.out X106.out D106.out HL7.out)
        dsimp only [qa,qb,qc]
        go_simp
        clear m0 m1 m2 f0 f1 f2 hHeld K106 X106 D106
        refine hK.out _ _ (Y9.out.s.db.c3) (fun hHeld => ?_)
        clear hK KK
        try simp only [Act.put,qa,qb,qc,qd,qe,qf]
        refine qs 13 (by kernel_rfl) rfl (fun KK hK => ?_)
        dsimp only [qa,qb,qc]
        go_simp
        refine hK.out _ _ (Y9.out.s.db.c3) (fun hHeld => ?_)
        clear hK KK
        try simp only [Act.put,qa,qb,qc,qd,qe,qf]
        refine wpAnyH_done (by kernel_rfl) ?_ _
        refine NoPanic.normal ?_
        clear hHeld
        go_wp2_with fail
        go_meet
        exact ⟨_, _, _, _, _, _, _, _, _, _, _, _, _, _, rfl, rfl, Y9.out.mono (by omega)⟩
      ·dsimp only [qa,qb,qc]
       go_simp
       have K107 := hide (K101.out.step (below_box u101 (.cells nil3 26)))
       have X107 := hide (BoxAt.new u101 nil3 26)
       have GY := hide K101.out.le
       obtain ⟨gy, hgy⟩ : ∃ gy, gy = u101.heap.size := ⟨_, rfl⟩
       rw [← hgy] at X107 GY ⊢
       clear hgy
       generalize u101.alloc (.cells #[.slice none 0 0, .slice none 0 0, .slice none 0 0] 26) = u107 at K107 X107  ⊢
       clear hHeld K101
       refine hK.out _ _ (K107.out.s.db.c3) (fun hHeld => ?_)
       clear hK KK
       try simp only [Act.put,qa,qb,qc,qd,qe,qf]
       refine qs 6 (by kernel_rfl) rfl (fun KK hK => ?_)
       dsimp only [qa,qb,qc]
       go_simp
       refine (text8_calls g cv (k + 10 + 2) _ K107.out.s.cur (by omega)).mono ?_
       rintro e' u108 ⟨tx, htx, rfl, hc108, hg108⟩
       have K108 := hide (K107.out.draw hc108 hg108)
       have X108 := hide (X107.out.chg (grown_cur hg108) (.inr (by have := GY.out; have := K107.out.s.gl; have := K107.out.s.gt; have := K107.out.gt; omega)))
       clear hc108 hg108 hHeld K107 X107
       refine hK.out _ _ (K108.out.s.db.c3) (fun hHeld => ?_)
       clear hK KK
       try simp only [Act.put,qa,qb,qc,qd,qe,qf]
       refine qs 7 (by kernel_rfl) rfl (fun KK hK => ?_)
       dsimp only [qa,qb,qc]
       go_simp
       refine (wWrite_calls _ _ _ _ _ _ _ _ tx _ AW htx K108.out.s.rp K108.out.s.rh K108.out.s.rz K108.out.s.hl).mono ?_
       rintro e' u109 ⟨okw, p9, h9, b9, P9, H9, B9, rfl, d', hl', b7⟩
       obtain ⟨ap9, cp9, ah9, ch9, ab9, cb9, rfl, rfl, rfl⟩ := d'.sl
       have K109 := hide (K108.out.step b7)
       have X109 := hide (X108.out.below b7)
       have D109 := hide (Dq.madeX K108.out X108.out b7 d')
       have HL7 := hide hl'
       clear b7 d' hl' hHeld K108 X108
       refine hK.out _ _ (K109.out.s.db.c3) (fun hHeld => ?_)
       clear hK KK
       try simp only [Act.put,qa,qb,qc,qd,qe,qf]
       refine qt 8 ?v26 rfl (by kernel_rfl) (by kernel_rfl) (by kernel_rfl) (by rfl) ?hy26 (by assumption) (fun _ _ _ h => h) ?rest26
       case hy26 => intro _ s; dsimp only [qa,qb,qc] at s ⊢; go_simp; try with_reducible rfl
       try simp only [Act.put,qa,qb,qc,qd,qe,qf]
       refine qt 9 ?v27 rfl (by kernel_rfl) (by kernel_rfl) (by kernel_rfl) (by rfl) ?hy27 (by assumption) (fun _ _ _ h => h) ?rest27
       case hy27 => intro _ s; dsimp only [qa,qb,qc] at s ⊢; go_simp; try with_reducible rfl
       try simp only [Act.put,qa,qb,qc,qd,qe,qf]
       refine qt 10 ?v28 rfl (by kernel_rfl) (by kernel_rfl) (by kernel_rfl) (by rfl) ?hy28 (by assumption) (fun _ _ _ h => h) ?rest28
       case hy28 => intro _ s; dsimp only [qa,qb,qc] at s ⊢; go_simp; try with_reducible rfl
       try simp only [Act.put,qa,qb,qc,qd,qe,qf]
       refine qs 12 (by kernel_rfl) rfl (fun KK hK => ?_)
       obtain ⟨m0, m1, m2⟩ := X109.out.c3
       have f0 := X109.out.frozen 0
       have f1 := X109.out.frozen 1
       have f2 := X109.out.frozen 2
       have Y9 := hide (Sy.put K109.out GY.out X109.out D109.out HL7.out)
       dsimp only [qa,qb,qc]
       go_simp
       clear m0 m1 m2 f0 f1 f2 hHeld K109 X109 D109
       refine hK.out _ _ (Y9.out.s.db.c3) (fun hHeld => ?_)
       clear hK KK
       try simp only [Act.put,qa,qb,qc,qd,qe,qf]
       refine qs 13 (by kernel_rfl) rfl (fun KK hK => ?_)
       dsimp only [qa,qb,qc]
       go_simp
       refine hK.out _ _ (Y9.out.s.db.c3) (fun hHeld => ?_)
       clear hK KK
       try simp only [Act.put,qa,qb,qc,qd,qe,qf]
       refine wpAnyH_done (by kernel_rfl) ?_ _
       refine NoPanic.normal ?_
       clear hHeld
       go_wp2_with fail
       go_meet
       exact ⟨_, _, _, _, _, _, _, _, _, _, _, _, _, _, rfl, rfl, Y9.out.mono (by omega)⟩
     ·dsimp only [qa,qb,qc]
      go_simp
      have K110 := hide (K6.out.step (below_box u6 (.cells nil3 26)))
      have X110 := hide (BoxAt.new u6 nil3 26)
      have GY := hide K6.out.le
      obtain ⟨gy, hgy⟩ : ∃ gy, gy = u6.heap.size := ⟨_, rfl⟩
      rw [← hgy] at X110 GY ⊢
      clear hgy
      generalize u6.alloc (.cells #[.slice none 0 0, .slice none 0 0, .slice none 0 0] 26) = u110 at K110 X110  ⊢
      clear hHeld K6
      refine hK.out _ _ (K110.out.s.db.c3) (fun hHeld => ?_)
      clear hK KK
      try simp only [Act.put,qa,qb,qc,qd,qe,qf]
      refine qs 3 (by kernel_rfl) rfl (fun KK hK => ?_)
      dsimp only [qa,qb,qc]
      go_simp
      refine (pick_calls g cv (k + 10) 4 _ K110.out.s.cur (by omega) (by omega) (by omega)).mono ?_
      rintro e' u111 ⟨x111, hx111, rfl, hc111, hg111⟩
      have K111 := hide (K110.out.draw hc111 hg111)
      have X111 := hide (X110.out.chg (grown_cur hg111) (.inr (by have := GY.out; have := K110.out.s.gl; have := K110.out.s.gt; have := K110.out.gt; omega)))
      clear hc111 hg111 hHeld K110 X110
      refine hK.out _ _ (K111.out.s.db.c3) (fun hHeld => ?_)
      clear hK KK
      try simp only [Act.put,qa,qb,qc,qd,qe,qf]
      refine qt 4 ?v29 rfl (by kernel_rfl) (by kernel_rfl) (by kernel_rfl) (by rfl) ?hy29 (by assumption) (fun _ _ _ h => h) ?rest29
      case hy29 => intro _ s; dsimp only [qa,qb,qc] at s ⊢; go_simp; try with_reducible rfl
      try simp only [Act.put,qa,qb,qc,qd,qe,qf]
      refine qs 6 (by kernel_rfl) rfl (fun KK hK => ?_)
      dsimp only [qa,qb,qc]
      go_simp
      refine (text8_calls g cv (k + 10 + 2) _ K111.out.s.cur (by omega)).mono ?_
      rintro e' u112 ⟨tx, htx, rfl, hc112, hg112⟩
      have K112 := hide (K111.out.draw hc112 hg112)
      have X112 := hide (X111.out.chg (grown_cur hg112) (.inr (by have := GY.out; have := K111.out.s.gl; have := K111.out.s.gt; have := K111.out.gt; omega)))
      clear hc112 hg112 hHeld K111 X111
      refine hK.out _ _ (K112.out.s.db.c3) (fun hHeld => ?_)
      clear hK KK
      try simp only [Act.put,qa,qb,qc,qd,qe,qf]
      refine qs 7 (by kernel_rfl) rfl (fun KK hK => ?_)
      dsimp only [qa,qb,qc]
      go_simp
      refine (wWrite_calls _ _ _ _ _ _ _ _ tx _ AW htx K112.out.s.rp K112.out.s.rh K112.out.s.rz K112.out.s.hl).mono ?_
      rintro e' u113 ⟨okw, p9, h9, b9, P9, H9, B9, rfl, d', hl', b7⟩
      obtain ⟨ap9, cp9, ah9, ch9, ab9, cb9, rfl, rfl, rfl⟩ := d'.sl
      have K113 := hide (K112.out.step b7)
      have X113 := hide (X112.out.below b7)
      have D113 := hide (Dq.madeX K112.out X112.out b7 d')
      have HL7 := hide hl'
      clear b7 d' hl' hHeld K112 X112
      refine hK.out _ _ (K113.out.s.db.c3) (fun hHeld => ?_)
      clear hK KK
      try simp only [Act.put,qa,qb,qc,qd,qe,qf]
      refine qt 8 ?v30 rfl (by kernel_rfl) (by kernel_rfl) (by kernel_rfl) (by rfl) ?hy30 (by assumption) (fun _ _ _ h => h) ?rest30
      case hy30 => intro _ s; dsimp only [qa,qb,qc] at s ⊢; go_simp; try with_reducible rfl
      try simp only [Act.put,qa,qb,qc,qd,qe,qf]
      refine qt 9 ?v31 rfl (by kernel_rfl) (by kernel_rfl) (by kernel_rfl) (by rfl) ?hy31 (by assumption) (fun _ _ _ h => h) ?rest31
      case hy31 => intro _ s; dsimp only [qa,qb,qc] at s ⊢; go_simp; try with_reducible rfl
      try simp only [Act.put,qa,qb,qc,qd,qe,qf]
      refine qt 10 ?v32 rfl (by kernel_rfl) (by kernel_rfl) (by kernel_rfl) (by rfl) ?hy32 (by assumption) (fun _ _ _ h => h) ?rest32
      case hy32 => intro _ s; dsimp only [qa,qb,qc] at s ⊢; go_simp; try with_reducible rfl
      try simp only [Act.put,qa,qb,qc,qd,qe,qf]
      refine qs 12 (by kernel_rfl) rfl (fun KK hK => ?_)
      obtain ⟨m0, m1, m2⟩ := X113.out.c3
      have f0 := X113.out.frozen 0
      have f1 := X113.out.frozen 1
      have f2 := X113.out.frozen 2
      have Y9 := hide (Sy.put K113.out GY.out X113.out D113.out HL7.out)
      dsimp only [qa,qb,qc]
      go_simp
      clear m0 m1 m2 f0 f1 f2 hHeld K113 X113 D113
      refine hK.out _ _ (Y9.out.s.db.c3) (fun hHeld => ?_)
      clear hK KK
      try simp only [Act.put,qa,qb,qc,qd,qe,qf]
      refine qs 13 (by kernel_rfl) rfl (fun KK hK => ?_)
      dsimp only [qa,qb,qc]
      go_simp
      refine hK.out _ _ (Y9.out.s.db.c3) (fun hHeld => ?_)
      clear hK KK
      try simp only [Act.put,qa,qb,qc,qd,qe,qf]
      refine wpAnyH_done (by kernel_rfl) ?_ _
      refine NoPanic.normal ?_
      clear hHeld
      go_wp2_with fail
      go_meet
      exact ⟨_, _, _, _, _, _, _, _, _, _, _, _, _, _, rfl, rfl, Y9.out.mono (by omega)⟩
    case rest =>
     obtain ⟨ok, gy, p, h, b, P, H, B, p', h', b', P', H', B', rfl, rfl, hY⟩ := hcut
     have Y := hide hY
     clear hY
     obtain ⟨ap, cp, ah, ch, ab, cb, rfl, rfl, rfl⟩ := Y.out.s.sl
     have hd9 := Y.out.d
     obtain ⟨lo9, hi9, d9, _, _⟩ := hd9
     obtain ⟨ap', cp', ah', ch', ab', cb', rfl, rfl, rfl⟩ := d9.sl
     clear d9
     obtain ⟨n0, n1, n2⟩ := Y.out.y.c3
     obtain ⟨m0, m1, m2⟩ := Y.out.s.db.c3
     have f0 := Y.out.s.db.frozen 0
     have f1 := Y.out.s.db.frozen 1
     have f2 := Y.out.s.db.frozen 2
     have Z := hide Y.out.take
     cases ok with
     | false =>
      go_wp2_with fail
      go_meet
      exact ⟨_, _, _, _, _, _, Y.out.s⟩
     | true =>
      go_wp2_with fail
      go_meet
      exact ⟨_, _, _, _, _, _, Z.out⟩
  case rest =>
   obtain ⟨p, h, b, P, H, B, hS⟩ := hcut
   have S := hide hS
   clear hS
   obtain ⟨ap, cp, ah, ch, ab, cb, rfl, rfl, rfl⟩ := S.out.sl
   go_wp2_with fail
   refine (pick_calls g cv (k + 16) 5 _ S.out.cur (by omega) (by omega) (by omega)).mono ?_
   rintro e w9 ⟨n, hn, rfl, c9, g9⟩
   have S9 := hide (S.out.draw c9 g9)
   clear c9 g9 S
   go_wp2_with fail
   go_loopg [9] n (fun gh s9 wx => ∃ (n K : Nat) (p h b : Value) (P H : List ByteArray) (B : List Bool), n = gh ∧ n ≤ 4 ∧ K + 60 * n ≤ k + 300 ∧ s9 = .int .i64 (n : Int) ∧ Sd w wx g cv K gd p h b P H B)
   case atStart => exact ⟨n, k + 18, _, _, _, _, _, _, rfl, by omega, by omega, rfl, S9.out⟩
   case round =>
    clear S9 hn
    obtain ⟨n, K, p, h, b, P, H, B, rfl, hn4, hK, rfl, hS⟩ := hrel
    have S := hide hS
    clear hS
    obtain ⟨ap, cp, ah, ch, ab, cb, rfl, rfl, rfl⟩ := S.out.sl
    by_cases h0 : n = 0
    ·subst h0
     go_wp2_with fail
     refine (one_calls g cv K 40 _ S.out.cur (by omega) (by omega) (by omega)).mono ?_
     rintro e w27 ⟨bb, rfl, c9, g9⟩
     have S27 := hide (S.out.draw c9 g9)
     clear c9 g9 S
     obtain ⟨m0, m1, m2⟩ := S27.out.db.c3
     have f0 := S27.out.db.frozen 0
     have f1 := S27.out.db.frozen 1
     have f2 := S27.out.db.frozen 2
     obtain ⟨n0, n1, n2⟩ := S27.out.rb.c3
     have e0 := S27.out.rb.frozen 0
     have e1 := S27.out.rb.frozen 1
     have e2 := S27.out.rb.frozen 2
     cases bb with
     | false =>
      obtain ⟨d9, c9, g9, x9⟩ := S27.out.ret _ rfl
      go_wp2
      exact bodyPost_ret (res_dsk2 rfl _ _ w.heap.size _ _ _ (0, 0) rfl x9) rfl ⟨_, _, _, _, _, _, _, rfl, d9, ⟨by omega, by omega⟩, c9.mono (by omega), g9⟩
     | true =>
      have S28 := hide S27.out.well
      go_upto_region 29 with fail
      clear m0 m1 m2 f0 f1 f2 n0 n1 n2 e0 e1 e2 S27
      generalize w27.setCell ⟨gd, 2, none⟩ (.slice none 0 0) = w28 at *
      obtain ⟨m0, m1, m2⟩ := S28.out.db.c3
      have f0 := S28.out.db.frozen 0
      have f1 := S28.out.db.frozen 1
      have f2 := S28.out.db.frozen 2
      obtain ⟨n0, n1, n2⟩ := S28.out.rb.c3
      have e0 := S28.out.rb.frozen 0
      have e1 := S28.out.rb.frozen 1
      have e2 := S28.out.rb.frozen 2
      obtain ⟨d9, c9, g9, x9⟩ := S28.out.ret _ rfl
      go_wp2
      exact bodyPost_ret (res_dsk2 rfl _ _ w.heap.size _ _ _ (0, 0) rfl x9) rfl ⟨_, _, _, _, _, _, _, rfl, d9, ⟨by omega, by omega⟩, c9.mono (by omega), g9⟩
    ·obtain ⟨m, rfl⟩ : ∃ m, n = m + 1 := ⟨n - 1, by omega⟩
     go_wp2_with fail
     have hlt : g < wr.heap.size := curS_lt S.out.cur
     have S1 := hide (S.out.step (below_box wr (.cells #[.int .i64 4, .int .i64 5, .int .i64 3, .int .i64 6] 3)))
     have RDB := hide (rd_build (w := wr) (l := [4, 5, 3, 6]) hlt (by decide))
     clear hlt
     refine (among_calls g _ _ [4, 5, 3, 6] K _ S1.out.cur (by omega) RDB.out (by decide) (by decide)).mono ?_
     rintro e w12 ⟨z, rfl, c9, g9⟩
     have S2 := hide (S1.out.draw c9 g9)
     clear c9 g9 S S1 RDB
     go_wp2_with fail
     refine (pick_calls g cv (K + 2) 5 _ S2.out.cur (by omega) (by omega) (by omega)).mono ?_
     rintro e w13 ⟨r, hr, rfl, c9, g9⟩
     have S3 := hide (S2.out.draw c9 g9)
     clear c9 g9 S2
     have X0 := hide (Sx.start S3.out z ((A : Int) + (r : Int)))
     go_upto_region 13 with fail
     obtain ⟨gx, hgx⟩ : ∃ gx, gx = w13.heap.size := ⟨_, rfl⟩
     rw [← hgx] at X0 ⊢
     clear hgx S3
     generalize w13.alloc (.cells #[.int .i64 z, .int .i64 ((A : Int) + (r : Int)), .string ⟨#[]⟩, .slice none 0 0] 42) = wx at X0 ⊢
     generalize (A : Int) + (r : Int) = A9 at X0 ⊢
     obtain ⟨q0, q1, q2, q3⟩ := X0.out.x.c4
     go_upto_block 2 with fail
     clear q0 q1 q2 q3
     go_cut [] (fun wx => ∃ (A9 : Int) (T : ByteArray) (v : Value) (xs : List Int) (bs : Nat), xs.length ≤ 24 ∧ Sx w wx g cv (K + 60) gd (.slice ap P.length cp) (.slice ah H.length ch) (.slice ab B.length cb) P H B gx bs z A9 T v xs)
     case first =>
      by_cases hz4 : z = 4
      ·subst hz4
       go_wp2_with fail
       have hlt : g < wx.heap.size := curS_lt X0.out.s.cur
       have X1 := hide (X0.out.step (below_box wx (.cells #[.string ⟨#[1]⟩, .string ⟨#[0, 0, 0, 0, 0, 0, 0, 0, 3]⟩] 9)))
       have RDS := hide (rdS_build (w := wx) (l := [⟨#[1]⟩, ⟨#[0, 0, 0, 0, 0, 0, 0, 0, 3]⟩]) hlt)
       clear hlt X0
       refine (of_calls g _ _ [⟨#[1]⟩, ⟨#[0, 0, 0, 0, 0, 0, 0, 0, 3]⟩] (K + 2 + 2) 16 _ X1.out.s.cur (by omega) RDS.out (by decide) (by decide) (by decide)).mono ?_
       rintro e w15 ⟨s, hs, rfl, c9, g9⟩
       have X2 := hide (X1.out.draw c9 g9)
       clear c9 g9 X1 RDS
       obtain ⟨q0, q1, q2, q3⟩ := X2.out.x.c4
       have f2 := X2.out.x.frozen 2
       go_wp2_with fail
       go_meet
       exact ⟨_, _, _, _, _, by simp, (X2.out.set 2 (.string s) 4 A9 s rfl hs).mono (by omega)⟩
      ·by_cases hz3 : z = 3
       ·subst hz3
        clear hz4
        obtain ⟨q0, q1, q2, q3⟩ := X0.out.x.c4
        have f1 := X0.out.x.frozen 1
        have X1 := hide (X0.out.set 1 (.int .i64 0) 3 0 ⟨#[]⟩ rfl X0.out.tl)
        go_upto_region 18 with fail
        clear X0 q0 q1 q2 q3 f1
        generalize wx.setCell ⟨gx, 1, none⟩ (.int .i64 0) = wy at *
        obtain ⟨m0, m1, m2⟩ := X1.out.s.db.c3
        go_wp2_with fail
        refine (l7Held_calls _ _ _ H _ X1.out.s.rh X1.out.s.hl).mono ?_
        rintro e w18 ⟨u, rfl, ho, b9⟩
        have hL := hpl_len H H.length
        have hH24 := X1.out.s.hl
        generalize hpl H H.length = L at *
        have hL24 : L.length ≤ 24 := by omega
        clear hL hH24 m0 m1 m2
        obtain ⟨ua, uc, rfl⟩ := row_slice ho
        have Y0 := hide (Sl.start X1.out ho b9)
        clear ho b9 X1
        generalize w18.heap.size = bs at Y0
        go_wp2_with fail
        go_loopg [89] L.length (fun gh s89 wl => ∃ (n j K2 : Nat) (v : Value) (xs : List Int), n = gh ∧ n + j = L.length ∧ xs.length ≤ j ∧ K2 + 2 * n ≤ K + 56 ∧ s89 = .int .i64 (j : Int) ∧ Sl w wl g cv K2 gd (.slice ap P.length cp) (.slice ah H.length ch) (.slice ab B.length cb) P H B gx bs 3 0 ⟨#[]⟩ v xs (.slice ua L.length uc) L)
        case atStart => exact ⟨L.length, 0, K + 2 + 2, .slice none 0 0, [], rfl, by omega, by simp, by omega, rfl, Y0.out⟩
        case round =>
         clear Y0
         obtain ⟨n, j, K2, v, xs, rfl, hnj, hxj, hK2, rfl, hY⟩ := hrel
         have Y := hide hY
         clear hY
         obtain ⟨va, vc, rfl⟩ := row_slice Y.out.x.own
         by_cases hn0 : n = 0
         ·subst hn0
          obtain rfl : j = L.length := by omega
          go_wp2_with fail
          go_meet
          exact ⟨_, _, _, _, _, by omega, Y.out.x.mono (by omega)⟩
         ·obtain ⟨n', rfl⟩ : ∃ n', n = n' + 1 := ⟨n - 1, by omega⟩
          have hjl : j < L.length := by omega
          have hjz : (j : Int) < (L.length : Int) := by omega
          obtain ⟨lb, lo, hua, hlb, hcell⟩ : ∃ b off, ua = some ⟨b, off, none⟩ ∧ b < _ ∧ ∀ i, i < L.length → World.cell? _ ⟨b, off + i, none⟩ = some (.int .i64 (L.getD i 0)) := by
           obtain ⟨_, _, e, _, _, h9⟩ := Own.rd Y.out.l
           simp only [Value.slice.injEq] at e
           obtain ⟨rfl, _, _⟩ := e
           rcases h9 with h9 | h9
           ·rw [h9] at hjl
            simp at hjl
           ·exact h9
          subst hua
          have hc := hcell j hjl
          clear hcell hlb
          obtain ⟨y, hy⟩ : ∃ y, y = L.getD j 0 := ⟨_, rfl⟩
          rw [← hy] at hc
          clear hy
          obtain ⟨xl, hxx⟩ : ∃ xl, xl = xs.length := ⟨_, rfl⟩
          have HL := hide hnj
          have HX := hide hxx
          rw [← hxx] at hxj
          clear hxx hnj
          go_wp2_with fail
          refine (one_calls g cv K2 2 _ Y.out.x.s.cur (by omega) (by omega) (by omega)).mono ?_
          rintro e w21 ⟨bb, rfl, c9, g9⟩
          have Y1 := hide (Y.out.draw c9 g9)
          clear c9 g9 Y hc
          cases bb with
          | false =>
           go_wp2_with fail
           go_roundg n'
           case measure => omega
           case rel => exact ⟨n', j + 1, K2 + 2, _, xs, rfl, by have := HL.out; omega, by have := HX.out; omega, by omega, by go_num, Y1.out⟩
          | true =>
           obtain ⟨q0, q1, q2, q3⟩ := Y1.out.x.x.c4
           have f3 := Y1.out.x.x.frozen 3
           have O3 := hide (Own.below Y1.out.x.own (below_box w21 (.cells #[.int .i64 y] 3)))
           have LE := hide Y1.out.le
           go_upto_region 22 with fail
           rw [← HX.out] at q3
           go_wp2_with (at_builtin; refine wpList_append_rd rfl _ _ rfl bs _ xl xs [y] rfl (by rw [HX.out]; exact O3.out) _ rfl rd_one (by simp; omega) (by have := LE.out; simp; omega) ?_)
           intro v9 w22 o9 g9
           obtain ⟨ys, hys⟩ : ∃ ys, ys = xs ++ [y] := ⟨_, rfl⟩
           rw [← hys] at o9
           have YL : Hid (ys.length = xs.length + 1) := by show _ = _; rw [hys]; simp
           clear hys
           obtain ⟨a9, n9, rfl⟩ := row_slice o9
           have Y2 := hide (Y1.out.app o9 (by rw [HX.out] at g9; exact g9))
           have XB := hide (Y1.out.x.boxApp (by rw [HX.out] at g9; exact g9))
           clear o9 g9 O3 q0 q1 q2 q3 f3
           obtain ⟨q0, q1, q2, q3⟩ := XB.out.c4
           have f3 := XB.out.frozen 3
           go_wp2_with fail
           go_roundg n'
           case measure => omega
           case rel => exact ⟨n', j + 1, K2 + 2, _, ys, rfl, by have := HL.out; omega, by have := HX.out; have := YL.out; omega, by omega, by go_num, Y2.out⟩
       ·go_wp2_with fail
        go_meet
        exact ⟨_, _, _, _, _, by simp, X0.out.mono (by omega)⟩
     case rest =>
      clear X0
      obtain ⟨A9, T, v, xs, bs, hxl, hX⟩ := hcut
      have X1 := hide hX
      clear hX
      obtain ⟨q0, q1, q2, q3⟩ := X1.out.x.c4
      obtain ⟨m0, m1, m2⟩ := X1.out.s.db.c3
      go_wp2_with fail
      refine (wStep_calls _ _ _ v P H B z A9 T xs _ X1.out.s.rp X1.out.s.rh X1.out.s.rz X1.out.rv (by have := X1.out.tl; omega) (by omega) X1.out.s.hl).mono ?_
      rintro e w24 ⟨ok, p', h', b', P', H', B', rfl, d', hl', b7⟩
      clear q0 q1 q2 q3 m0 m1 m2
      obtain ⟨ap', cp', ah', ch', ab', cb', rfl, rfl, rfl⟩ := d'.sl
      have Y := hide (Sy.made X1.out.s b7 d' hl')
      clear b7 d' hl' X1
      go_upto_if 108 with fail
      obtain ⟨gy, hgy⟩ : ∃ u, u = w24.heap.size := ⟨_, rfl⟩
      rw [← hgy] at Y ⊢
      clear hgy
      generalize w24.alloc (.cells #[.slice ap' P'.length cp', .slice ah' H'.length ch', .slice ab' B'.length cb'] 26) = w25 at Y ⊢
      obtain ⟨n0, n1, n2⟩ := Y.out.y.c3
      obtain ⟨m0, m1, m2⟩ := Y.out.s.db.c3
      have f0 := Y.out.s.db.frozen 0
      have f1 := Y.out.s.db.frozen 1
      have f2 := Y.out.s.db.frozen 2
      have Z := hide Y.out.take
      cases ok with
      | false =>
       go_wp2_with fail
       go_roundg m
       case measure => omega
       case rel => exact ⟨m, K + 60, _, _, _, _, _, _, rfl, by omega, by omega, by go_num, Y.out.s⟩
      | true =>
       go_wp2_with fail
       go_roundg m
       case measure => omega
       case rel => exact ⟨m, K + 60, _, _, _, _, _, _, rfl, by omega, by omega, by go_num, Z.out⟩
end Go.Proofs.YthdbacihhmilbaaGreatDoor

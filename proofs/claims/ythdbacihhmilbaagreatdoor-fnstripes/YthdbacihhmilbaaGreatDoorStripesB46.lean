/-
  The law of stripes at every two texts that can be read: the call returns true, and nothing that was there is written. The program's table of rests must hold its seven numbers.
-/
import Derived.Test.YthdbacihhmilbaaGreatDoorStripesB45
import Derived.Deep.DeepCutAuto
import Derived.Test.YthdbacihhmilbaaGreatDoorStripesB0
set_option linter.unusedVariables false
set_option linter.unusedSimpArgs false
set_option maxRecDepth 100000
set_option maxHeartbeats 1600000
namespace Go.Proofs.YthdbacihhmilbaaGreatDoor
open Go.RowKit
theorem RdT.slT {w : World} {v : Value} {xs : List ByteArray} (h : RdT w v xs) : ∃ a c, v = .slice a xs.length c := by
 obtain ⟨a, c, e, _⟩ := h.sl
 exact ⟨a, c, e⟩
theorem RdZ.slZ {w : World} {v : Value} {xs : List Bool} (h : RdZ w v xs) : ∃ a c, v = .slice a xs.length c := by
 obtain ⟨a, c, e, _⟩ := h
 exact ⟨a, c, e⟩
theorem eqA (nq k : Nat) (A : Int) (h1 : nq < 1000003) (h2 : k < 2) (h3 : -2 ≤ A ∧ A ≤ 10) : IntKind.i64.wrap (A + (IntKind.i64.wrap ((nq : Int) + IntKind.i64.wrap (2 * (k : Int)))).tmod 5) = A + (((nq + 2 * k) % 5 : Nat) : Int) := by
 have w1 : IntKind.i64.wrap (2 * (k : Int)) = 2 * (k : Int) := by rw [Gf.wrap_i64]; omega
 have w2 : IntKind.i64.wrap ((nq : Int) + 2 * (k : Int)) = (nq : Int) + 2 * (k : Int) := by rw [Gf.wrap_i64]; omega
 have w3 : ((nq : Int) + 2 * (k : Int)).tmod 5 = (((nq + 2 * k) % 5 : Nat) : Int) := by rw [Int.tmod_eq_emod_of_nonneg (by omega)]; omega
 have w4 : (nq + 2 * k) % 5 < 5 := by omega
 rw [w1, w2, w3]
 generalize (nq + 2 * k) % 5 = r at *
 rw [Gf.wrap_i64]
 omega
theorem rel17 {w wx : World} {gz lo hi : Nat} {ma : Option Addr} {mz : List Nat} {p h b p' h' b' : Value} {P H : List ByteArray} {B : List Bool} (tb : Gf.Tab w) (hz : RdBz w ma mz) (hg : w.heap.size ≤ gz) (Z : BoxAt wx gz #[p, h, b] 26) (D : DskV wx lo hi p' h' b' P H B) (hlo : gz + 1 ≤ lo) (S : Below w.heap.size w wx) :
    Dv (((wx.setCell ⟨gz, 0, none⟩ p').setCell ⟨gz, 1, none⟩ h').setCell ⟨gz, 2, none⟩ b') gz p' h' b' P H B ∧ Gf.Tab (((wx.setCell ⟨gz, 0, none⟩ p').setCell ⟨gz, 1, none⟩ h').setCell ⟨gz, 2, none⟩ b') ∧ RdBz (((wx.setCell ⟨gz, 0, none⟩ p').setCell ⟨gz, 1, none⟩ h').setCell ⟨gz, 2, none⟩ b') ma mz ∧ Below w.heap.size w (((wx.setCell ⟨gz, 0, none⟩ p').setCell ⟨gz, 1, none⟩ h').setCell ⟨gz, 2, none⟩ b') := by
 have cz := Chg.store3 (lo := gz) (hi := gz + 1) wx gz p' h' b' (Nat.le_refl _) (Nat.lt_succ_self _)
 have d := D.chg cz (.inr hlo)
 have s := S.trans (cz.below hg S.size)
 exact ⟨⟨d.rp, d.rh, d.rb, Z.store3 _ _ _⟩, tb.below s, hz.below s, s⟩
theorem two_nil (X Y : List Int) : (decide (X = []) && decide (Y = [])) = ((X.length : Int) + (Y.length : Int) == 0) := by
 cases X <;> cases Y <;> simp <;> omega
theorem fnStripes_core (cv mv : Value) (w : World) (hT : Gf.Tab w) (hc : RdB w cv) (hm : RdB w mv) (hlen : ∀ a n c a' n' c', cv = .slice a n c → mv = .slice a' n' c' → (n : Int) + (n' : Int) ≤ 1048576) :
    Calls Tryz.prog 3 #[cv, mv] w fun e w' => e = .returned (.bool true) ∧ Below w.heap.size w w' := by
 have HC := hide hc
 have T := hide hT
 have TB := hide hT
 have S := hide (Below.refl w.heap.size w)
 obtain ⟨ca, cc, cz, rfl, _, _, _⟩ := hc
 obtain ⟨ma, mc, mz, rfl, m1, m2, m3⟩ := hm
 have HZ : Hid (RdBz w ma mz) := ⟨m1, m2, m3⟩
 have HZB := HZ
 have hl := hlen _ _ _ _ _ _ rfl rfl
 have hl' : ¬ (1048576 : Int) < (cz.length : Int) + (mz.length : Int) := by omega
 clear hlen hT m1 m2 m3
 go_enter Tryz.func3, Tryz.ntmps3
 go_wp2_with fail
 refine (drawWriteStripe_of striped_ok _ _ HC.out).mono ?_
 rintro e wc ⟨p0, h0, b0, P, H, B, A, E, s, hs, rfl, d, hA, q⟩
 obtain ⟨a0, c0, a0', c0', a0'', c0'', rfl, rfl, rfl⟩ := d.sl
 obtain ⟨w0, hw⟩ : ∃ u, u = wc.alloc (.cells #[.slice a0 P.length c0, .slice a0' H.length c0', .slice a0'' B.length c0''] 26) := ⟨_, rfl⟩
 obtain ⟨g0, hg⟩ : ∃ u, u = wc.heap.size := ⟨_, rfl⟩
 have D := hide (Dv.made d)
 have b := q.trans ((below_box wc (.cells #[.slice a0 P.length c0, .slice a0' H.length c0', .slice a0'' B.length c0''] 26)).mono q.size)
 rw [← hw, ← hg] at D
 rw [← hw] at b
 have WW : Hid (wc.alloc (.cells #[.slice a0 P.length c0, .slice a0' H.length c0', .slice a0'' B.length c0''] 26) = w0) := hw.symm
 have GG : Hid (wc.heap.size = g0) := hg.symm
 clear hw hg q d
 replace T := hide (T.out.below b)
 replace HZ := hide (HZ.out.below b)
 replace S := hide (S.out.trans (b.mono S.out.size))
 clear b
 go_upto_region 4 with fail
 rw [WW.out, GG.out]
 clear WW GG
 obtain ⟨nq, hq⟩ : ∃ q, q = nbTo mz mz.length := ⟨_, rfl⟩
 have q9 : nq < 1000003 := by rw [hq]; exact nbTo_lt _ _
 have HQ := hide hq
 clear hq
 obtain ⟨ok, P1, H1, B1, E1, E2, E3⟩ := write_facts P H B A E s nq (wf10 (by omega)) hs
 have F1 := hide E1
 have F2 := hide E2
 have F3 := hide E3
 clear E1 E2 E3 hs
 obtain ⟨D0, D1, D2⟩ := D.out.bx.c3
 go_wp2_with fail
 refine (F1.out _ _ _ _ T.out D.out.rp D.out.rh D.out.rz).mono ?_
 rintro e wc ⟨p1, h1, b1, rfl, d, q⟩
 obtain ⟨a1, c1, a1', c1', a1'', c1'', rfl, rfl, rfl⟩ := d.sl
 obtain ⟨w1, hw⟩ : ∃ u, u = wc.alloc (.cells #[.slice a1 P1.length c1, .slice a1' H1.length c1', .slice a1'' B1.length c1''] 26) := ⟨_, rfl⟩
 obtain ⟨g1, hg⟩ : ∃ u, u = wc.heap.size := ⟨_, rfl⟩
 have X := hide (Dv.made d)
 have b := q.trans ((below_box wc (.cells #[.slice a1 P1.length c1, .slice a1' H1.length c1', .slice a1'' B1.length c1''] 26)).mono q.size)
 rw [← hw, ← hg] at X
 rw [← hw] at b
 have WW : Hid (wc.alloc (.cells #[.slice a1 P1.length c1, .slice a1' H1.length c1', .slice a1'' B1.length c1''] 26) = w1) := hw.symm
 have GG : Hid (wc.heap.size = g1) := hg.symm
 clear hw hg q d
 clear D0 D1 D2
 replace T := hide (T.out.below b)
 replace HZ := hide (HZ.out.below b)
 replace D := hide (D.out.below b)
 replace S := hide (S.out.trans (b.mono S.out.size))
 clear b
 go_upto_region 5 with fail
 rw [WW.out, GG.out]
 clear WW GG
 obtain ⟨D0, D1, D2⟩ := D.out.bx.c3
 go_wp2_with fail
 refine (F2.out _ _ _ _ D.out.rp D.out.rh D.out.rz).mono ?_
 rintro e wc ⟨p2, h2, b2, rfl, d, q⟩
 obtain ⟨a2, c2, a2', c2', a2'', c2'', rfl, rfl, rfl⟩ := d.sl
 obtain ⟨w2, hw⟩ : ∃ u, u = wc.alloc (.cells #[.slice a2 P1.length c2, .slice a2' H1.length c2', .slice a2'' B1.length c2''] 26) := ⟨_, rfl⟩
 obtain ⟨g2, hg⟩ : ∃ u, u = wc.heap.size := ⟨_, rfl⟩
 have Y := hide (Dv.made d)
 have b := q.trans ((below_box wc (.cells #[.slice a2 P1.length c2, .slice a2' H1.length c2', .slice a2'' B1.length c2''] 26)).mono q.size)
 rw [← hw, ← hg] at Y
 rw [← hw] at b
 have WW : Hid (wc.alloc (.cells #[.slice a2 P1.length c2, .slice a2' H1.length c2', .slice a2'' B1.length c2''] 26) = w2) := hw.symm
 have GG : Hid (wc.heap.size = g2) := hg.symm
 clear hw hg q d
 clear D0 D1 D2
 clear D
 replace T := hide (T.out.below b)
 replace HZ := hide (HZ.out.below b)
 replace X := hide (X.out.below b)
 replace S := hide (S.out.trans (b.mono S.out.size))
 clear b
 go_upto_region 6 with fail
 rw [WW.out, GG.out]
 clear WW GG
 clear F1 F2
 obtain ⟨X0, X1, X2⟩ := X.out.bx.c3
 obtain ⟨Y0, Y1, Y2⟩ := Y.out.bx.c3
 go_wp2_with fail
 refine (sameDisks_same _ _ _ _ _ _ P1 H1 B1 _ X.out.rp X.out.rh X.out.rz Y.out.rp Y.out.rh Y.out.rz).mono ?_
 rintro e wn ⟨rfl, b⟩
 clear X0 X1 X2 Y0 Y1 Y2
 clear Y
 replace T := hide (T.out.below b)
 replace HZ := hide (HZ.out.below b)
 replace X := hide (X.out.below b)
 replace S := hide (S.out.trans (b.mono S.out.size))
 clear b
 go_upto_if 76 with fail
 go_cut [] (fun wx => Gf.Tab wx ∧ RdBz wx ma mz ∧ Below w.heap.size w wx)
 case first =>
  cases ok with
  | false =>
   clear F3 X hA
   go_wp2_with fail
   go_meet
   exact ⟨T.out, HZ.out, S.out⟩
  | true =>
   obtain ⟨M0, M2, XL, YL, Hs, Bs, hs0, bs0, l0, l2, E1, E2, E3, E4⟩ := F3.out (by simp)
   have F1 := hide E1
   have F2 := hide E2
   have F4 := hide E3
   have F5 := hide E4
   have L0 := hide l0
   have L2 := hide l2
   clear E1 E2 E3 E4 F3 l0 l2
   obtain ⟨X0, X1, X2⟩ := X.out.bx.c3
   go_wp2_with fail
   refine (F1.out _ _ _ _ T.out X.out.rp X.out.rh X.out.rz).mono ?_
   rintro e wn ⟨v3, rfl, o3, b⟩
   obtain ⟨a3, c3, rfl⟩ := row_slice o3
   clear o3
   clear X0 X1 X2
   replace T := hide (T.out.below b)
   replace HZ := hide (HZ.out.below b)
   replace X := hide (X.out.below b)
   replace S := hide (S.out.trans (b.mono S.out.size))
   clear b
   obtain ⟨X0, X1, X2⟩ := X.out.bx.c3
   go_wp2_with fail
   refine (F2.out _ _ _ _ X.out.rp X.out.rh X.out.rz).mono ?_
   rintro e wc ⟨u4, v4, rfl, d, q⟩
   obtain ⟨a4, c4, a4', c4', rfl, rfl⟩ := d.slQ
   obtain ⟨w4, hw⟩ : ∃ u, u = wc.alloc (.cells #[.slice a4 XL.length c4, .slice a4' YL.length c4', .bool true] 36) := ⟨_, rfl⟩
   obtain ⟨g4, hg⟩ : ∃ u, u = wc.heap.size := ⟨_, rfl⟩
   have V := hide (Hv.made (y := true) d)
   have b := q.trans ((below_box wc (.cells #[.slice a4 XL.length c4, .slice a4' YL.length c4', .bool true] 36)).mono q.size)
   rw [← hw, ← hg] at V
   rw [← hw] at b
   have WW : Hid (wc.alloc (.cells #[.slice a4 XL.length c4, .slice a4' YL.length c4', .bool true] 36) = w4) := hw.symm
   have GG : Hid (wc.heap.size = g4) := hg.symm
   clear hw hg q d
   clear X0 X1 X2
   replace T := hide (T.out.below b)
   replace HZ := hide (HZ.out.below b)
   replace X := hide (X.out.below b)
   replace S := hide (S.out.trans (b.mono S.out.size))
   clear b
   go_upto_region 11 with fail
   rw [WW.out, GG.out]
   clear WW GG
   rw [L0.out]
   obtain ⟨V0, V1, V2⟩ := V.out.bx.c3
   obtain ⟨X0, X1, X2⟩ := X.out.bx.c3
   go_upto_region 14 with fail
   clear V0 V1 V2 X0 X1 X2
   clear V F1 F2 L0
   have Z0 : Hid (Dv (w4.alloc (.cells #[.slice a1 P1.length c1, .slice a1' H1.length c1', .slice a1'' B1.length c1''] 26)) w4.heap.size (.slice a1 P1.length c1) (.slice a1' H1.length c1') (.slice a1'' B1.length c1'') P1 H1 B1) := by
    have bb := below_box w4 (.cells #[.slice a1 P1.length c1, .slice a1' H1.length c1', .slice a1'' B1.length c1''] 26)
    exact ⟨X.out.rp.below bb, X.out.rh.below bb, X.out.rz.below bb, BoxAt.new _ _ _⟩
   have b := below_box w4 (.cells #[.slice a1 P1.length c1, .slice a1' H1.length c1', .slice a1'' B1.length c1''] 26)
   generalize w4.alloc (.cells #[.slice a1 P1.length c1, .slice a1' H1.length c1', .slice a1'' B1.length c1''] 26) = w7 at *
   obtain ⟨gz, hgz⟩ : ∃ gz, gz = w4.heap.size := ⟨_, rfl⟩
   have hgw : w.heap.size ≤ gz := by rw [hgz]; exact S.out.size
   have hgn : gz < w7.heap.size := by rw [hgz]; exact Z0.out.bx.lt
   rw [← hgz] at Z0 ⊢
   clear hgz
   clear X
   replace T := hide (T.out.below b)
   replace HZ := hide (HZ.out.below b)
   replace S := hide (S.out.trans (b.mono S.out.size))
   clear b
   rw [← hs0, ← bs0] at Z0
   have HGW := hide hgw
   clear hs0 bs0 hgw hgn
   go_wp2_with fail
   go_loopg [19] 2 (fun gh s19 wx => ∃ (k : Nat) (p h b : Value), k + gh = 2 ∧ s19 = .int .i64 (k : Int) ∧ Dv wx gz p h b P1 (Hs k) (Bs k) ∧ Gf.Tab wx ∧ RdBz wx ma mz ∧ Below w.heap.size w wx)
   case atStart => exact ⟨0, _, _, _, by omega, rfl, Z0.out, T.out, HZ.out, S.out⟩
   case round =>
    clear T HZ S Z0
    obtain ⟨k, p, h, b, hk2, rfl, hd, ht, hz, hb⟩ := hrel
    have Z := hide hd
    have T := hide ht
    have HZ := hide hz
    have S := hide hb
    have HK := hide hk2
    clear hd ht hz hb
    obtain ⟨ap, cp, rfl⟩ := Z.out.rp.slT
    obtain ⟨ah, ch, rfl⟩ := Z.out.rh.slT
    obtain ⟨ab, cb, rfl⟩ := Z.out.rz.slZ
    by_cases hlt : k < 2
    ·have hltz : (k : Int) < 2 := by omega
     clear hk2
     have EQ := hide (eqA nq k A q9 hlt hA)
     go_upto_region 17 with fail
     go_cut [20, 21] (fun s20 s21 wx => ∃ (gy lo hi : Nat) (p' h' b' : Value), s20 = .pointer (some ⟨gy, 0, none⟩) ∧ s21 = .bool true ∧ BoxAt wx gy #[p', h', b'] 26 ∧ BoxAt wx gz #[.slice ap P1.length cp, .slice ah (Hs k).length ch, .slice ab (Bs k).length cb] 26 ∧ DskV wx lo hi p' h' b' P1 (Hs (k + 1)) (Bs (k + 1)) ∧ gz + 1 ≤ lo ∧ Below w.heap.size w wx)
     case first =>
      refine wp_region_noPanic ?_
      have B := hide ((Below.refl wr.heap.size wr).drew)
      refine wp_region_held_drew (S := fun w' => w'.cell? ⟨gz, 0, none⟩ = some (.slice ap P1.length cp) ∧ w'.cell? ⟨gz, 1, none⟩ = some (.slice ah (Hs k).length ch) ∧ w'.cell? ⟨gz, 2, none⟩ = some (.slice ab (Bs k).length cb)) (by kernel_rfl) (((Z.out.below B.out).bx).c3) (fun hHeld => ?_)
      replace Z := hide (Z.out.below B.out)
      replace T := hide (T.out.below B.out)
      replace HZ := hide (HZ.out.below B.out)
      replace S := hide (S.out.trans (B.out.mono S.out.size))
      clear B
      generalize World.drew _ = u at *
      refine qt 0 ?v1 rfl (by kernel_rfl) (by kernel_rfl) (by kernel_rfl) (by rfl) ?hy1 (by assumption) (fun _ _ _ h => h) ?rest1
      case hy1 => intro _ s; dsimp only [qa,qb,qc] at s ⊢; go_simp; try with_reducible rfl
      try simp only [Act.put,qa,qb,qc,qd,qe,qf]
      refine qt 1 ?v2 rfl (by kernel_rfl) (by kernel_rfl) (by kernel_rfl) (by rfl) ?hy2 (by assumption) (fun _ _ _ h => h) ?rest2
      case hy2 => intro _ s; dsimp only [qa,qb,qc] at s ⊢; go_simp; try with_reducible rfl
      try simp only [Act.put,qa,qb,qc,qd,qe,qf]
      refine qt 2 ?v3 rfl (by kernel_rfl) (by kernel_rfl) (by kernel_rfl) (by rfl) ?hy3 (by assumption) (fun _ _ _ h => h) ?rest3
      case hy3 => intro _ s; dsimp only [qa,qb,qc] at s ⊢; go_simp; try with_reducible rfl
      try simp only [Act.put,qa,qb,qc,qd,qe,qf]
      refine qt 4 ?v4 rfl (by kernel_rfl) (by kernel_rfl) (by kernel_rfl) (by rfl) ?hy4 (by assumption) (fun _ _ _ h => h) ?rest4
      case hy4 => intro _ s; dsimp only [qa,qb,qc] at s ⊢; go_simp; try with_reducible rfl
      try simp only [Act.put,qa,qb,qc,qd,qe,qf]
      refine qt 5 ?v5 rfl (by kernel_rfl) (by kernel_rfl) (by kernel_rfl) (by rfl) ?hy5 (by assumption) (fun _ _ _ h => h) ?rest5
      case hy5 => intro _ s; dsimp only [qa,qb,qc] at s ⊢; go_simp; try with_reducible rfl
      try simp only [Act.put,qa,qb,qc,qd,qe,qf]
      refine wpAnyH_ready (rs := [3, 14]) (by kernel_rfl) (by simp) ?_
      refine AllReadyH.cons rfl (fun KK hK => ?_) (AllReadyH.cons rfl (fun KK hK => ?_) (AllReadyH.nil))
      ·dsimp only [qa,qb,qc]
       go_simp
       refine (numberZ_calls ma mc mz _ HZ.out).mono ?_
       rintro e' u' ⟨rfl, rfl⟩
       rw [← HQ.out]
       refine hK.out _ _ (Z.out.bx.c3) (fun hHeld => ?_)
       clear hK KK
       try simp only [Act.put,qa,qb,qc,qd,qe,qf]
       refine qt 6 ?v6 rfl (by kernel_rfl) (by kernel_rfl) (by kernel_rfl) (by rfl) ?hy6 (by assumption) (fun _ _ _ h => h) ?rest6
       case hy6 => intro _ s; dsimp only [qa,qb,qc] at s ⊢; go_simp; try with_reducible rfl
       try simp only [Act.put,qa,qb,qc,qd,qe,qf]
       refine qt 7 ?v7 rfl (by kernel_rfl) (by kernel_rfl) (by kernel_rfl) (by rfl) ?hy7 (by assumption) (fun _ _ _ h => h) ?rest7
       case hy7 => intro _ s; dsimp only [qa,qb,qc] at s ⊢; go_simp; try with_reducible rfl
       try simp only [Act.put,qa,qb,qc,qd,qe,qf]
       refine qt 8 ?v8 rfl (by kernel_rfl) (by kernel_rfl) (by kernel_rfl) (by rfl) ?hy8 (by assumption) (fun _ _ _ h => h) ?rest8
       case hy8 => intro _ s; dsimp only [qa,qb,qc] at s ⊢; go_simp; try with_reducible rfl
       try simp only [Act.put,qa,qb,qc,qd,qe,qf]
       refine qt 9 ?v9 rfl (by kernel_rfl) (by kernel_rfl) (by kernel_rfl) (by rfl) ?hy9 (by assumption) (fun _ _ _ h => h) ?rest9
       case hy9 => intro _ s; dsimp only [qa,qb,qc] at s ⊢; go_simp; try with_reducible rfl
       try simp only [Act.put,qa,qb,qc,qd,qe,qf]
       refine wpAnyH_ready (rs := [10, 14]) (by kernel_rfl) (by simp) ?_
       refine AllReadyH.cons rfl (fun KK hK => ?_) (AllReadyH.cons rfl (fun KK hK => ?_) (AllReadyH.nil))
       ·dsimp only [qa,qb,qc]
        go_simp
        rw [EQ.out]
        refine (F4.out k hlt _ _ _ _ Z.out.rp Z.out.rh Z.out.rz).mono ?_
        rintro e' u2 ⟨p9, h9, b9, rfl, d9, b⟩
        obtain ⟨ap9, cp9, ah9, ch9, ab9, cb9, rfl, rfl, rfl⟩ := d9.sl
        have D9 := hide d9
        obtain ⟨lo9, hlo⟩ : ∃ x, x = u.heap.size := ⟨_, rfl⟩
        rw [← hlo] at D9
        have LO : Hid (gz + 1 ≤ lo9) := by rw [hlo]; exact Z.out.bx.lt
        replace Z := hide (Z.out.below b)
        replace T := hide (T.out.below b)
        replace HZ := hide (HZ.out.below b)
        replace S := hide (S.out.trans (b.mono S.out.size))
        clear hlo d9 b hHeld
        refine hK.out _ _ (Z.out.bx.c3) (fun hHeld => ?_)
        clear hK KK
        try simp only [Act.put,qa,qb,qc,qd,qe,qf]
        refine qt 11 ?v10 rfl (by kernel_rfl) (by kernel_rfl) (by kernel_rfl) (by rfl) ?hy10 (by assumption) (fun _ _ _ h => h) ?rest10
        case hy10 => intro _ s; dsimp only [qa,qb,qc] at s ⊢; go_simp; try with_reducible rfl
        try simp only [Act.put,qa,qb,qc,qd,qe,qf]
        refine qt 12 ?v11 rfl (by kernel_rfl) (by kernel_rfl) (by kernel_rfl) (by rfl) ?hy11 (by assumption) (fun _ _ _ h => h) ?rest11
        case hy11 => intro _ s; dsimp only [qa,qb,qc] at s ⊢; go_simp; try with_reducible rfl
        try simp only [Act.put,qa,qb,qc,qd,qe,qf]
        refine qt 13 ?v12 rfl (by kernel_rfl) (by kernel_rfl) (by kernel_rfl) (by rfl) ?hy12 (by assumption) (fun _ _ _ h => h) ?rest12
        case hy12 => intro _ s; dsimp only [qa,qb,qc] at s ⊢; go_simp; try with_reducible rfl
        try simp only [Act.put,qa,qb,qc,qd,qe,qf]
        refine qs 14 (by kernel_rfl) rfl (fun KK hK => ?_)
        dsimp only [qa,qb,qc]
        go_simp
        have hzl := Z.out.bx.lt
        have b := below_box u2 (.cells nil3 26)
        have X := hide (BoxAt.new u2 nil3 26)
        replace D9 := hide (D9.out.below b)
        replace Z := hide (Z.out.below b)
        replace T := hide (T.out.below b)
        replace HZ := hide (HZ.out.below b)
        replace S := hide (S.out.trans (b.mono S.out.size))
        obtain ⟨gy, hgy⟩ : ∃ gy, gy = u2.heap.size := ⟨_, rfl⟩
        have GY : Hid (gz < gy) := by rw [hgy]; exact hzl
        rw [← hgy] at X ⊢
        rw [← hgy] at D9
        have LH : Hid (gz + 1 ≤ lo9 ∧ (gy ≤ gy ∨ gy + 1 ≤ lo9)) := ⟨LO.out, .inl (Nat.le_refl _)⟩
        clear hgy b hzl
        generalize u2.alloc (.cells #[.slice none 0 0, .slice none 0 0, .slice none 0 0] 26) = u3 at X Z T HZ S D9 ⊢
        clear hHeld
        refine hK.out _ _ (Z.out.bx.c3) (fun hHeld => ?_)
        clear hK KK
        try simp only [Act.put,qa,qb,qc,qd,qe,qf]
        refine qs 15 (by kernel_rfl) rfl (fun KK hK => ?_)
        obtain ⟨m0, m1, m2⟩ := X.out.c3
        have f0 := X.out.frozen 0
        have f1 := X.out.frozen 1
        have f2 := X.out.frozen 2
        have cz := Chg.store3 (lo := gy) (hi := gy + 1) u3 gy (.slice ap9 P1.length cp9) (.slice ah9 (Hs (k + 1)).length ch9) (.slice ab9 (Bs (k + 1)).length cb9) (Nat.le_refl _) (by omega)
        have LH2 := LH.out
        have XZ := hide (X.out.store3 (.slice ap9 P1.length cp9) (.slice ah9 (Hs (k + 1)).length ch9) (.slice ab9 (Bs (k + 1)).length cb9))
        have hne := GY.out
        have Z2 := hide (Z.out.bx.chg cz (by omega))
        have D8 := hide (D9.out.chg cz (by omega))
        have S2 := hide (S.out.trans (cz.below (by have := HGW.out; omega) S.out.size))
        dsimp only [qa,qb,qc]
        go_simp
        clear m0 m1 m2 f0 f1 f2 hHeld cz hne LH2
        refine hK.out _ _ (Z2.out.c3) (fun hHeld => ?_)
        clear hK KK
        try simp only [Act.put,qa,qb,qc,qd,qe,qf]
        refine qs 16 (by kernel_rfl) rfl (fun KK hK => ?_)
        dsimp only [qa,qb,qc]
        go_simp
        refine hK.out _ _ (Z2.out.c3) (fun hHeld => ?_)
        clear hK KK
        try simp only [Act.put,qa,qb,qc,qd,qe,qf]
        refine wpAnyH_done (by kernel_rfl) ?_ _
        refine NoPanic.normal ?_
        clear hHeld
        go_wp2_with fail
        go_meet
        exact ⟨_, _, _, _, _, _, rfl, rfl, XZ.out, Z2.out, D8.out, LO.out, S2.out⟩
       ·dsimp only [qa,qb,qc]
        go_simp
        have hzl := Z.out.bx.lt
        have b := below_box u (.cells nil3 26)
        have X := hide (BoxAt.new u nil3 26)
        replace Z := hide (Z.out.below b)
        replace T := hide (T.out.below b)
        replace HZ := hide (HZ.out.below b)
        replace S := hide (S.out.trans (b.mono S.out.size))
        obtain ⟨gy, hgy⟩ : ∃ gy, gy = u.heap.size := ⟨_, rfl⟩
        have GY : Hid (gz < gy) := by rw [hgy]; exact hzl
        rw [← hgy] at X ⊢
        clear hgy b hzl
        generalize u.alloc (.cells #[.slice none 0 0, .slice none 0 0, .slice none 0 0] 26) = u4 at X Z T HZ S ⊢
        clear hHeld
        refine hK.out _ _ (Z.out.bx.c3) (fun hHeld => ?_)
        clear hK KK
        try simp only [Act.put,qa,qb,qc,qd,qe,qf]
        refine qs 10 (by kernel_rfl) rfl (fun KK hK => ?_)
        dsimp only [qa,qb,qc]
        go_simp
        rw [EQ.out]
        refine (F4.out k hlt _ _ _ _ Z.out.rp Z.out.rh Z.out.rz).mono ?_
        rintro e' u5 ⟨p9, h9, b9, rfl, d9, b⟩
        obtain ⟨ap9, cp9, ah9, ch9, ab9, cb9, rfl, rfl, rfl⟩ := d9.sl
        have D9 := hide d9
        obtain ⟨lo9, hlo⟩ : ∃ x, x = u4.heap.size := ⟨_, rfl⟩
        rw [← hlo] at D9
        have LO : Hid (gz + 1 ≤ lo9) := by rw [hlo]; exact Z.out.bx.lt
        have LH : Hid (gz + 1 ≤ lo9 ∧ (u5.heap.size ≤ gy ∨ gy + 1 ≤ lo9)) := ⟨LO.out, .inr (by rw [hlo]; exact X.out.lt)⟩
        replace X := hide (X.out.below b)
        replace Z := hide (Z.out.below b)
        replace T := hide (T.out.below b)
        replace HZ := hide (HZ.out.below b)
        replace S := hide (S.out.trans (b.mono S.out.size))
        clear hlo d9 b hHeld
        refine hK.out _ _ (Z.out.bx.c3) (fun hHeld => ?_)
        clear hK KK
        try simp only [Act.put,qa,qb,qc,qd,qe,qf]
        refine qt 11 ?v13 rfl (by kernel_rfl) (by kernel_rfl) (by kernel_rfl) (by rfl) ?hy13 (by assumption) (fun _ _ _ h => h) ?rest13
        case hy13 => intro _ s; dsimp only [qa,qb,qc] at s ⊢; go_simp; try with_reducible rfl
        try simp only [Act.put,qa,qb,qc,qd,qe,qf]
        refine qt 12 ?v14 rfl (by kernel_rfl) (by kernel_rfl) (by kernel_rfl) (by rfl) ?hy14 (by assumption) (fun _ _ _ h => h) ?rest14
        case hy14 => intro _ s; dsimp only [qa,qb,qc] at s ⊢; go_simp; try with_reducible rfl
        try simp only [Act.put,qa,qb,qc,qd,qe,qf]
        refine qt 13 ?v15 rfl (by kernel_rfl) (by kernel_rfl) (by kernel_rfl) (by rfl) ?hy15 (by assumption) (fun _ _ _ h => h) ?rest15
        case hy15 => intro _ s; dsimp only [qa,qb,qc] at s ⊢; go_simp; try with_reducible rfl
        try simp only [Act.put,qa,qb,qc,qd,qe,qf]
        refine qs 15 (by kernel_rfl) rfl (fun KK hK => ?_)
        obtain ⟨m0, m1, m2⟩ := X.out.c3
        have f0 := X.out.frozen 0
        have f1 := X.out.frozen 1
        have f2 := X.out.frozen 2
        have cz := Chg.store3 (lo := gy) (hi := gy + 1) u5 gy (.slice ap9 P1.length cp9) (.slice ah9 (Hs (k + 1)).length ch9) (.slice ab9 (Bs (k + 1)).length cb9) (Nat.le_refl _) (by omega)
        have LH2 := LH.out
        have XZ := hide (X.out.store3 (.slice ap9 P1.length cp9) (.slice ah9 (Hs (k + 1)).length ch9) (.slice ab9 (Bs (k + 1)).length cb9))
        have hne := GY.out
        have Z2 := hide (Z.out.bx.chg cz (by omega))
        have D8 := hide (D9.out.chg cz (by omega))
        have S2 := hide (S.out.trans (cz.below (by have := HGW.out; omega) S.out.size))
        dsimp only [qa,qb,qc]
        go_simp
        clear m0 m1 m2 f0 f1 f2 hHeld cz hne LH2
        refine hK.out _ _ (Z2.out.c3) (fun hHeld => ?_)
        clear hK KK
        try simp only [Act.put,qa,qb,qc,qd,qe,qf]
        refine qs 16 (by kernel_rfl) rfl (fun KK hK => ?_)
        dsimp only [qa,qb,qc]
        go_simp
        refine hK.out _ _ (Z2.out.c3) (fun hHeld => ?_)
        clear hK KK
        try simp only [Act.put,qa,qb,qc,qd,qe,qf]
        refine wpAnyH_done (by kernel_rfl) ?_ _
        refine NoPanic.normal ?_
        clear hHeld
        go_wp2_with fail
        go_meet
        exact ⟨_, _, _, _, _, _, rfl, rfl, XZ.out, Z2.out, D8.out, LO.out, S2.out⟩
      ·dsimp only [qa,qb,qc]
       go_simp
       have hzl := Z.out.bx.lt
       have b := below_box u (.cells nil3 26)
       have X := hide (BoxAt.new u nil3 26)
       replace Z := hide (Z.out.below b)
       replace T := hide (T.out.below b)
       replace HZ := hide (HZ.out.below b)
       replace S := hide (S.out.trans (b.mono S.out.size))
       obtain ⟨gy, hgy⟩ : ∃ gy, gy = u.heap.size := ⟨_, rfl⟩
       have GY : Hid (gz < gy) := by rw [hgy]; exact hzl
       rw [← hgy] at X ⊢
       clear hgy b hzl
       generalize u.alloc (.cells #[.slice none 0 0, .slice none 0 0, .slice none 0 0] 26) = u6 at X Z T HZ S ⊢
       clear hHeld
       refine hK.out _ _ (Z.out.bx.c3) (fun hHeld => ?_)
       clear hK KK
       try simp only [Act.put,qa,qb,qc,qd,qe,qf]
       refine qs 3 (by kernel_rfl) rfl (fun KK hK => ?_)
       dsimp only [qa,qb,qc]
       go_simp
       refine (numberZ_calls ma mc mz _ HZ.out).mono ?_
       rintro e' u' ⟨rfl, rfl⟩
       rw [← HQ.out]
       refine hK.out _ _ (Z.out.bx.c3) (fun hHeld => ?_)
       clear hK KK
       try simp only [Act.put,qa,qb,qc,qd,qe,qf]
       refine qt 6 ?v16 rfl (by kernel_rfl) (by kernel_rfl) (by kernel_rfl) (by rfl) ?hy16 (by assumption) (fun _ _ _ h => h) ?rest16
       case hy16 => intro _ s; dsimp only [qa,qb,qc] at s ⊢; go_simp; try with_reducible rfl
       try simp only [Act.put,qa,qb,qc,qd,qe,qf]
       refine qt 7 ?v17 rfl (by kernel_rfl) (by kernel_rfl) (by kernel_rfl) (by rfl) ?hy17 (by assumption) (fun _ _ _ h => h) ?rest17
       case hy17 => intro _ s; dsimp only [qa,qb,qc] at s ⊢; go_simp; try with_reducible rfl
       try simp only [Act.put,qa,qb,qc,qd,qe,qf]
       refine qt 8 ?v18 rfl (by kernel_rfl) (by kernel_rfl) (by kernel_rfl) (by rfl) ?hy18 (by assumption) (fun _ _ _ h => h) ?rest18
       case hy18 => intro _ s; dsimp only [qa,qb,qc] at s ⊢; go_simp; try with_reducible rfl
       try simp only [Act.put,qa,qb,qc,qd,qe,qf]
       refine qt 9 ?v19 rfl (by kernel_rfl) (by kernel_rfl) (by kernel_rfl) (by rfl) ?hy19 (by assumption) (fun _ _ _ h => h) ?rest19
       case hy19 => intro _ s; dsimp only [qa,qb,qc] at s ⊢; go_simp; try with_reducible rfl
       try simp only [Act.put,qa,qb,qc,qd,qe,qf]
       refine qs 10 (by kernel_rfl) rfl (fun KK hK => ?_)
       dsimp only [qa,qb,qc]
       go_simp
       rw [EQ.out]
       refine (F4.out k hlt _ _ _ _ Z.out.rp Z.out.rh Z.out.rz).mono ?_
       rintro e' u8 ⟨p9, h9, b9, rfl, d9, b⟩
       obtain ⟨ap9, cp9, ah9, ch9, ab9, cb9, rfl, rfl, rfl⟩ := d9.sl
       have D9 := hide d9
       obtain ⟨lo9, hlo⟩ : ∃ x, x = u6.heap.size := ⟨_, rfl⟩
       rw [← hlo] at D9
       have LO : Hid (gz + 1 ≤ lo9) := by rw [hlo]; exact Z.out.bx.lt
       have LH : Hid (gz + 1 ≤ lo9 ∧ (u8.heap.size ≤ gy ∨ gy + 1 ≤ lo9)) := ⟨LO.out, .inr (by rw [hlo]; exact X.out.lt)⟩
       replace X := hide (X.out.below b)
       replace Z := hide (Z.out.below b)
       replace T := hide (T.out.below b)
       replace HZ := hide (HZ.out.below b)
       replace S := hide (S.out.trans (b.mono S.out.size))
       clear hlo d9 b hHeld
       refine hK.out _ _ (Z.out.bx.c3) (fun hHeld => ?_)
       clear hK KK
       try simp only [Act.put,qa,qb,qc,qd,qe,qf]
       refine qt 11 ?v20 rfl (by kernel_rfl) (by kernel_rfl) (by kernel_rfl) (by rfl) ?hy20 (by assumption) (fun _ _ _ h => h) ?rest20
       case hy20 => intro _ s; dsimp only [qa,qb,qc] at s ⊢; go_simp; try with_reducible rfl
       try simp only [Act.put,qa,qb,qc,qd,qe,qf]
       refine qt 12 ?v21 rfl (by kernel_rfl) (by kernel_rfl) (by kernel_rfl) (by rfl) ?hy21 (by assumption) (fun _ _ _ h => h) ?rest21
       case hy21 => intro _ s; dsimp only [qa,qb,qc] at s ⊢; go_simp; try with_reducible rfl
       try simp only [Act.put,qa,qb,qc,qd,qe,qf]
       refine qt 13 ?v22 rfl (by kernel_rfl) (by kernel_rfl) (by kernel_rfl) (by rfl) ?hy22 (by assumption) (fun _ _ _ h => h) ?rest22
       case hy22 => intro _ s; dsimp only [qa,qb,qc] at s ⊢; go_simp; try with_reducible rfl
       try simp only [Act.put,qa,qb,qc,qd,qe,qf]
       refine qs 15 (by kernel_rfl) rfl (fun KK hK => ?_)
       obtain ⟨m0, m1, m2⟩ := X.out.c3
       have f0 := X.out.frozen 0
       have f1 := X.out.frozen 1
       have f2 := X.out.frozen 2
       have cz := Chg.store3 (lo := gy) (hi := gy + 1) u8 gy (.slice ap9 P1.length cp9) (.slice ah9 (Hs (k + 1)).length ch9) (.slice ab9 (Bs (k + 1)).length cb9) (Nat.le_refl _) (by omega)
       have LH2 := LH.out
       have XZ := hide (X.out.store3 (.slice ap9 P1.length cp9) (.slice ah9 (Hs (k + 1)).length ch9) (.slice ab9 (Bs (k + 1)).length cb9))
       have hne := GY.out
       have Z2 := hide (Z.out.bx.chg cz (by omega))
       have D8 := hide (D9.out.chg cz (by omega))
       have S2 := hide (S.out.trans (cz.below (by have := HGW.out; omega) S.out.size))
       dsimp only [qa,qb,qc]
       go_simp
       clear m0 m1 m2 f0 f1 f2 hHeld cz hne LH2
       refine hK.out _ _ (Z2.out.c3) (fun hHeld => ?_)
       clear hK KK
       try simp only [Act.put,qa,qb,qc,qd,qe,qf]
       refine qs 16 (by kernel_rfl) rfl (fun KK hK => ?_)
       dsimp only [qa,qb,qc]
       go_simp
       refine hK.out _ _ (Z2.out.c3) (fun hHeld => ?_)
       clear hK KK
       try simp only [Act.put,qa,qb,qc,qd,qe,qf]
       refine wpAnyH_done (by kernel_rfl) ?_ _
       refine NoPanic.normal ?_
       clear hHeld
       go_wp2_with fail
       go_meet
       exact ⟨_, _, _, _, _, _, rfl, rfl, XZ.out, Z2.out, D8.out, LO.out, S2.out⟩
     case rest =>
      clear Z T HZ S
      obtain ⟨gy, lo, hi, p', h', b', rfl, rfl, hx, hz, hd, hlo, hb⟩ := hcut
      have X := hide hx
      have Z := hide hz
      have D := hide hd
      have S := hide hb
      have LO := hide hlo
      clear hx hz hd hb hlo
      obtain ⟨ap', cp', ah', ch', ab', cb', rfl, rfl, rfl⟩ := D.out.sl
      obtain ⟨n0, n1, n2⟩ := X.out.c3
      obtain ⟨m0, m1, m2⟩ := Z.out.c3
      have f0 := Z.out.frozen 0
      have f1 := Z.out.frozen 1
      have f2 := Z.out.frozen 2
      obtain ⟨r1, r2, r3, r4⟩ := rel17 TB.out HZB.out HGW.out Z.out D.out LO.out S.out
      have R1 := hide r1
      have R2 := hide r2
      have R3 := hide r3
      have R4 := hide r4
      clear r1 r2 r3 r4
      have HK2 := HK.out
      go_wp2_with fail
      go_roundg (2 - (k + 1))
      case measure => omega
      case rel => exact ⟨k + 1, _, _, _, by omega, by go_num, R1.out, R2.out, R3.out, R4.out⟩
    ·obtain rfl : k = 2 := by omega
     clear hk2
     obtain ⟨Z0, Z1, Z2⟩ := Z.out.bx.c3
     go_wp2_with fail
     refine (F5.out _ _ _ _ T.out Z.out.rp Z.out.rh Z.out.rz).mono ?_
     rintro e wn ⟨v6, rfl, o6, b6⟩
     obtain ⟨a6, c6, rfl⟩ := row_slice o6
     rw [L2.out]
     clear o6
     clear Z0 Z1 Z2
     replace T := hide (T.out.below b6)
     replace HZ := hide (HZ.out.below b6)
     replace S := hide (S.out.trans (b6.mono S.out.size))
     clear b6
     go_wp2_with fail
     go_meet
     exact ⟨T.out, HZ.out, S.out⟩
 case rest =>
  clear T HZ S F3 X hA
  have T := hide hcut.1
  have HZ := hide hcut.2.1
  have S := hide hcut.2.2
  clear hcut
  go_wp2_with fail
  refine (drawReadStripe_of striped_ok _ _ (HZ.out.rdb mc)).mono ?_
  rintro e wc ⟨p5, h5, b5, P5, H5, B5, A5, L5, rfl, d, hA5, q⟩
  obtain ⟨a5, c5, a5', c5', a5'', c5'', rfl, rfl, rfl⟩ := d.sl
  obtain ⟨w5, hw⟩ : ∃ u, u = wc.alloc (.cells #[.slice a5 P5.length c5, .slice a5' H5.length c5', .slice a5'' B5.length c5''] 26) := ⟨_, rfl⟩
  obtain ⟨g5, hg⟩ : ∃ u, u = wc.heap.size := ⟨_, rfl⟩
  have D5 := hide (Dv.made d)
  have b := q.trans ((below_box wc (.cells #[.slice a5 P5.length c5, .slice a5' H5.length c5', .slice a5'' B5.length c5''] 26)).mono q.size)
  rw [← hw, ← hg] at D5
  rw [← hw] at b
  have WW : Hid (wc.alloc (.cells #[.slice a5 P5.length c5, .slice a5' H5.length c5', .slice a5'' B5.length c5''] 26) = w5) := hw.symm
  have GG : Hid (wc.heap.size = g5) := hg.symm
  clear hw hg q d
  replace T := hide (T.out.below b)
  replace HZ := hide (HZ.out.below b)
  replace S := hide (S.out.trans (b.mono S.out.size))
  clear b
  go_upto_region 25 with fail
  rw [WW.out, GG.out]
  clear WW GG
  obtain ⟨ok5, f5, W5, t5, M5, X5, Y5, E1, E2, E3, E4, E5⟩ := read_facts P5 H5 B5 A5 L5 (wf10 (by omega))
  have F1 := hide E1
  have F2 := hide E2
  have F3 := hide E3
  have F4 := hide E4
  have F5 := hide E5
  clear E1 E2 E3 E4 E5 hA5
  obtain ⟨D50, D51, D52⟩ := D5.out.bx.c3
  go_wp2_with fail
  refine (F1.out _ _ _ _ T.out D5.out.rp D5.out.rh D5.out.rz).mono ?_
  rintro e wn ⟨v6, rfl, o6, b⟩
  obtain ⟨a6, c6, rfl⟩ := row_slice o6
  have R6 := hide o6.rd
  clear o6
  clear D50 D51 D52
  replace T := hide (T.out.below b)
  replace HZ := hide (HZ.out.below b)
  replace D5 := hide (D5.out.below b)
  replace S := hide (S.out.trans (b.mono S.out.size))
  clear b
  obtain ⟨D50, D51, D52⟩ := D5.out.bx.c3
  go_wp2_with fail
  refine (F2.out _ _ _ _ D5.out.rp D5.out.rh D5.out.rz).mono ?_
  rintro e wn ⟨v7, rfl, o7, b⟩
  obtain ⟨a7, c7, rfl⟩ := row_slice o7
  have R7 := hide o7.rd
  clear o7
  clear D50 D51 D52
  replace T := hide (T.out.below b)
  replace HZ := hide (HZ.out.below b)
  replace D5 := hide (D5.out.below b)
  replace R6 := hide (R6.out.below b)
  replace S := hide (S.out.trans (b.mono S.out.size))
  clear b
  obtain ⟨D50, D51, D52⟩ := D5.out.bx.c3
  go_wp2_with fail
  refine (F3.out _ _ _ _ D5.out.rp D5.out.rh D5.out.rz).mono ?_
  rintro e wc ⟨u8, v8, rfl, d, q⟩
  obtain ⟨a8, c8, a8', c8', rfl, rfl⟩ := d.slQ
  obtain ⟨w8, hw⟩ : ∃ u, u = wc.alloc (.cells #[.slice a8 X5.length c8, .slice a8' Y5.length c8', .bool W5] 36) := ⟨_, rfl⟩
  obtain ⟨g8, hg⟩ : ∃ u, u = wc.heap.size := ⟨_, rfl⟩
  have V1 := hide (Hv.made (y := W5) d)
  have b := q.trans ((below_box wc (.cells #[.slice a8 X5.length c8, .slice a8' Y5.length c8', .bool W5] 36)).mono q.size)
  rw [← hw, ← hg] at V1
  rw [← hw] at b
  have WW : Hid (wc.alloc (.cells #[.slice a8 X5.length c8, .slice a8' Y5.length c8', .bool W5] 36) = w8) := hw.symm
  have GG : Hid (wc.heap.size = g8) := hg.symm
  clear hw hg q d
  clear D50 D51 D52
  replace T := hide (T.out.below b)
  replace HZ := hide (HZ.out.below b)
  replace D5 := hide (D5.out.below b)
  replace R6 := hide (R6.out.below b)
  replace R7 := hide (R7.out.below b)
  replace S := hide (S.out.trans (b.mono S.out.size))
  clear b
  go_upto_region 28 with fail
  rw [WW.out, GG.out]
  clear WW GG
  obtain ⟨D50, D51, D52⟩ := D5.out.bx.c3
  go_wp2_with fail
  refine (F4.out _ _ _ _ D5.out.rp D5.out.rh D5.out.rz).mono ?_
  rintro e wc ⟨u9, v9, rfl, d, q⟩
  obtain ⟨a9, c9, a9', c9', rfl, rfl⟩ := d.slQ
  obtain ⟨w9, hw⟩ : ∃ u, u = wc.alloc (.cells #[.slice a9 X5.length c9, .slice a9' Y5.length c9', .bool W5] 36) := ⟨_, rfl⟩
  obtain ⟨g9, hg⟩ : ∃ u, u = wc.heap.size := ⟨_, rfl⟩
  have V2 := hide (Hv.made (y := W5) d)
  have b := q.trans ((below_box wc (.cells #[.slice a9 X5.length c9, .slice a9' Y5.length c9', .bool W5] 36)).mono q.size)
  rw [← hw, ← hg] at V2
  rw [← hw] at b
  have WW : Hid (wc.alloc (.cells #[.slice a9 X5.length c9, .slice a9' Y5.length c9', .bool W5] 36) = w9) := hw.symm
  have GG : Hid (wc.heap.size = g9) := hg.symm
  clear hw hg q d
  clear D50 D51 D52
  clear D5
  replace T := hide (T.out.below b)
  replace HZ := hide (HZ.out.below b)
  replace R6 := hide (R6.out.below b)
  replace R7 := hide (R7.out.below b)
  replace V1 := hide (V1.out.below b)
  replace S := hide (S.out.trans (b.mono S.out.size))
  clear b
  go_upto_region 29 with fail
  rw [WW.out, GG.out]
  clear WW GG
  clear F1 F2 F3 F4
  go_wp2_with fail
  refine (sameInts_same _ _ M5 _ R6.out R7.out).mono ?_
  rintro e wn ⟨rfl, b⟩
  clear R7
  replace T := hide (T.out.below b)
  replace HZ := hide (HZ.out.below b)
  replace R6 := hide (R6.out.below b)
  replace V1 := hide (V1.out.below b)
  replace V2 := hide (V2.out.below b)
  replace S := hide (S.out.trans (b.mono S.out.size))
  clear b
  obtain ⟨V10, V11, V12⟩ := V1.out.bx.c3
  obtain ⟨V20, V21, V22⟩ := V2.out.bx.c3
  go_wp2_with fail
  refine (sameHealths_same _ _ _ _ X5 Y5 W5 _ V1.out.ru V1.out.rv V2.out.ru V2.out.rv).mono ?_
  rintro e wn ⟨rfl, b⟩
  clear V10 V11 V12 V20 V21 V22
  clear V2
  replace T := hide (T.out.below b)
  replace HZ := hide (HZ.out.below b)
  replace R6 := hide (R6.out.below b)
  replace V1 := hide (V1.out.below b)
  replace S := hide (S.out.trans (b.mono S.out.size))
  clear b
  obtain ⟨V10, V11, V12⟩ := V1.out.bx.c3
  cases ok5 with
  | false =>
   go_wp2
   go_ret
   exact ⟨by simp, S.out⟩
  | true =>
   obtain ⟨rfl, hm, hm5, rfl⟩ := F5.out (by simp)
   have hx : X5.length ≤ 5 := by omega
   have hy : Y5.length ≤ 5 := by omega
   go_wp2
   go_ret
   exact ⟨by simp [two_nil], S.out⟩
end Go.Proofs.YthdbacihhmilbaaGreatDoor

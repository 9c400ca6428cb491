/-
  UpdatePiece: the program's function and its model's, at all arguments. The program's table of rests must hold its seven numbers where the program's own function is called.
-/
import Derived.Test.YtogopakmebiomaaDoorUpd
namespace Go.Proofs.YtogopakmebiomaaDoor
open Go.RowKit
open Gf (ci nat amTo AllLt addRow)

set_option maxRecDepth 100000 in
set_option maxHeartbeats 3200000 in
theorem sUpdatePiece_good (D Q K l : Nat) (mv pv : Value) (m : List (List Int)) (p : List Int) (w : World) (hm : RdM w mv m) (hp : Rd w pv p) (hf : UpdF D Q K l m p) :
    Calls Tryd.prog 53 #[.int .i64 D, .int .i64 Q, mv, .int .i64 K, pv] w fun e w' => ∃ v', e = .returned (.tuple #[v', .bool true]) ∧ Mat w' w.heap.size w'.heap.size v' (updM D Q K m p) ∧ Below w.heap.size w w' := by
  have RM := hide hm
  have RP := hide hp
  have F := hide hf
  obtain ⟨ma, mcap, hmv, _⟩ := hm
  obtain ⟨pa, pcap, hpv, _⟩ := hp
  obtain ⟨n, hn⟩ : ∃ n, n = m.length := ⟨_, rfl⟩
  rw [← hn] at hmv
  rw [hf.pl] at hpv
  subst hmv hpv
  have hnDQ : n = D + Q := by rw [hn]; exact hf.ml
  have d1 := hf.d1
  have d2 := hf.d2
  have q1 := hf.q1
  have q2 := hf.q2
  have k1 := hf.k1
  have nb : n ≤ 10 := by omega
  have l32 : l ≤ 32 := (hf.row 0 (by omega)).2.1
  have CK : Hid (codeOk (D : Int) (Q : Int) = true) := codeOk_yes (by omega)
  have PK : Hid ((piecesOk m && decide ((m.length : Int) = (D : Int) + (Q : Int))) = true) := by
    show (piecesOk m && decide ((m.length : Int) = (D : Int) + (Q : Int))) = true
    rw [hf.ok, decide_eq_true (by omega)]; rfl
  have HN := hide hn
  have NDQ := hide hnDQ
  obtain ⟨mb, moff, mu, rfl, hmb, hmc, hmu⟩ := RM.out.rowAt K (by omega)
  have hrk := hf.row K (by omega)
  have UK := hide hmu
  obtain ⟨ka, kcap, hkv, _⟩ := hmu
  rw [hrk.1] at hkv
  subst hkv
  obtain ⟨mb', moff', mu0, hmm, hmb0, hmc0, hmu0⟩ := RM.out.rowAt 0 (by omega)
  simp only [Option.some.injEq, Addr.mk.injEq, and_true] at hmm
  obtain ⟨rfl, rfl⟩ := hmm
  obtain ⟨ka0, kcap0, hkv0, _⟩ := hmu0
  rw [hf.l0] at hkv0
  subst hkv0
  rw [Nat.add_zero] at hmc0
  have RK := hide hrk
  have i0 : ¬ (K : Int) < 0 := by omega
  have i1 : ¬ (D : Int) ≤ (K : Int) := by omega
  have i2 : (0 : Int) ≤ (K : Int) := by omega
  have i3 : (K : Int) < (n : Int) := by omega
  have i4 : (K : Int) < (D : Int) := by omega
  have i6 : (0 : Int) < (n : Int) := by omega
  obtain ⟨U, hU⟩ : ∃ U, U = updM D Q K m p := ⟨_, rfl⟩
  rw [← hU]
  have UL : Hid (U.length = m.length) := by rw [hU]; exact updM_length _ _ _ _ _
  have UG : Hid (∀ i, i < m.length → U.getD i [] = updRow D Q K m p i) := fun i hi => by rw [hU, updM_get _ _ _ _ _ _ hi]
  have MC := hide hmc
  have PE := hide hf.pe
  clear hf hn hnDQ hrk hU hmc
  go_enter Tryd.func53, Tryd.ntmps53
  go_wp2_with fail
  refine (l3Size_calls _ _ _).mono ?_
  rw [CK.out]
  rintro e w' ⟨rfl, rfl⟩
  go_wp2_with fail
  rw [HN.out]
  refine (l3Pieces_calls _ m _ _ (by rw [← HN.out]; exact RM.out)).mono ?_
  rw [PK.out, ← HN.out]
  rintro e w' ⟨rfl, rfl⟩
  go_wp2_with fail
  refine (Gf.l1All_calls _ p _ RP.out).mono ?_
  rw [PE.out]
  rintro e w' ⟨rfl, rfl⟩
  go_wp2_with fail
  refine (l3Matrix_calls D Q _ d1 d2 q1 q2).mono ?_
  rintro e w1 ⟨v1, rfl, hm1, hb1⟩
  have B1 := hide hb1
  have M1 := hide hm1
  have s01 := hb1.size
  clear hm1 hb1
  go_wp2_with fail
  rw [HN.out]
  refine (l2Own_calls _ m _ (by rw [← HN.out]; exact RM.out.below B1.out) (by rw [← HN.out]; omega) (fun i hi => by rw [(F.out.row i hi).1]; omega)).mono ?_
  rw [← HN.out]
  rintro e w2 ⟨v2, rfl, hm2, hb2⟩
  have B2 := hide (B1.out.trans (hb2.mono B1.out.size))
  have M12 := hide (M1.out.below hb2)
  have M2 := hide hm2
  have s12 := hb2.size
  have hmc2 : (w2.alloc (.cells #[] 3)).cell? ⟨mb, moff + K, none⟩ = _ := ((B2.out.alloc B2.out.size (.cells #[] 3)).cell (p := ⟨mb, moff + K, none⟩) hmb).trans MC.out
  have RR : Hid (Rd (w2.alloc (.cells #[] 3)) (.slice ka l kcap) (m.getD K [])) := (UK.out.below B2.out).below ((Below.refl _ _).alloc (Nat.le_refl _) _)
  have OO : Hid (Own (w2.alloc (.cells #[] 3)) w2.heap.size (.slice (some ⟨w2.heap.size, 0, none⟩) 0 0) []) :=
    World.ownsRow_lit w2 #[] 0 (Nat.le_refl _) (Nat.zero_le _) (by rfl)
  clear hm2 hb2
  go_wp2_with (at_builtin; refine wpList_append_rd rfl (.tmp 56) (.tmp 60) rfl w2.heap.size _ 0 [] (m.getD K []) rfl OO.out _ rfl RR.out (by rw [RK.out.1]; omega) (by simp) ?_)
  intro v3 w3 ho3 hg3
  have hb3 : Below w2.heap.size w2 w3 := ((Below.refl _ _).alloc (Nat.le_refl _) _).grown hg3 (by simp) (fun k hk => (OO.out.lt k hk).1)
  have ho3' : Own w3 w2.heap.size v3 (ci (nat (m.getD K []))) := by rw [Gf.ci_nat RK.out.2.2]; simpa using ho3
  have O3 := hide ho3'
  have s23 := hb3.size
  have B3 := hide (B2.out.trans (hb3.mono B2.out.size))
  have M13 := hide (M12.out.below hb3)
  have M23 := hide (M2.out.below hb3)
  have TOP3 := hide ho3'.top
  have QG : Hid (∀ w', w3.grownBy w' v3.ownBlock → Rd w' (.slice pa l pcap) (ci (nat p))) := fun w' hg => by
    rw [Gf.ci_nat PE.out]
    exact RP.out.below (B3.out.grown hg B3.out.size (fun k hk => by have := (World.ownsRow.lt O3.out k hk).1; omega))
  clear ho3 hg3 hb3 ho3'
  go_wp2_with fail
  refine (l2Add_any v3 _ (nat (m.getD K [])) (nat p) 1 w2.heap.size _ O3.out QG.out (by omega) (by rw [Gf.nat_length, Gf.nat_length, RK.out.1, F.out.pl]; exact Nat.le_refl _) (by rw [Gf.nat_length, RK.out.1]; omega) (Gf.nat_lt RK.out.2.2) (Gf.nat_lt PE.out)).mono ?_
  rintro e w4 ⟨rfl, ho4, hg4⟩
  obtain ⟨q, hq⟩ : ∃ q, q = difN m K p := ⟨_, rfl⟩
  have hq3 : amTo (nat (m.getD K [])) (nat p) 1 0 (nat p).length = q := by
    rw [hq, Gf.amTo_add _ _ _ (by rw [Gf.nat_length, Gf.nat_length, RK.out.1, F.out.pl])]
    exact addRow_one (Gf.nat_lt RK.out.2.2) (Gf.nat_lt PE.out) (by rw [Gf.nat_length, Gf.nat_length, RK.out.1, F.out.pl])
  rw [hq3] at ho4
  have QD : Hid (q.length = l ∧ AllLt q) := by rw [hq]; exact F.out.dif
  have QE := hide hq
  have hcg : Chg w2.heap.size w3.heap.size w3 w4 := Chg.ofGrown hg4 (fun k hk => ⟨(World.ownsRow.lt O3.out k hk).1, TOP3.out k hk⟩)
  have B4 := hide (B3.out.trans (hcg.below (by omega) B3.out.size))
  obtain ⟨vs1, hM1⟩ := M13.out
  obtain ⟨vs, hM2⟩ := M23.out
  have M14 := hide (hM1.chg hcg (.inl (by omega)))
  have M24 := hide (hM2.chg hcg (.inl (Nat.le_refl _)))
  have O4 := hide ho4
  have s34 := hg4.size
  obtain ⟨g, cap, hv2, hg1', hg2', hg3', hg4'⟩ := M24.out.open (by rw [← HN.out]; omega)
  rw [← HN.out] at hv2
  subst hv2
  obtain ⟨g5, cap5, hv1, hq1, hq2, hq3', hq4⟩ := M14.out.open (by rw [codeM_length]; omega)
  rw [codeM_length, ← NDQ.out] at hv1
  subst hv1
  clear ho4 hg4 hq3 hq hcg hM1 hM2
  go_wp2
  go_loopw [67] (fun vi wr => ∃ (i : Nat), i ≤ n ∧ vi = .int .i64 i ∧ MatV wr w1.heap.size w2.heap.size (.slice (some ⟨g, 0, none⟩) n cap) vs (ovTo U m i) ∧ Chg w1.heap.size w2.heap.size w4 wr) (fun vi _ => n - (intOf vi).toNat)
  case atStart =>
    refine ⟨0, Nat.zero_le _, rfl, ?_, Chg.refl _ _ _⟩
    rw [ovTo_zero]
    exact M24.out
  case round =>
    obtain ⟨i, hi, rfl, hM, hC⟩ := hrel
    by_cases hlt : i < n
    · have hlt' : (i : Int) < (n : Int) := by omega
      have hlm : i < m.length := by rw [← HN.out]; exact hlt
      have hM5 := M14.out.chg hC (.inl (Nat.le_refl _))
      have hc5 := hM5.cell i (by rw [codeM_length, ← NDQ.out]; exact hlt)
      have hr5 := hM5.row i (by rw [codeM_length, ← NDQ.out]; exact hlt)
      obtain ⟨x, hx⟩ : ∃ x, x = facN D Q K i := ⟨_, rfl⟩
      obtain ⟨fl, fx, fg⟩ := F.out.fac i hlm
      rw [← hx] at fx fg
      obtain ⟨gr, capr, hur, hz1, hz2, hz3, hz4⟩ := hr5.open1 (by rw [fl]; omega)
      rw [hur] at hc5 hr5
      obtain ⟨_, hrc⟩ := hr5.at K (by rw [fl]; exact k1)
      rw [fg] at hrc
      rw [fl] at hc5
      obtain ⟨sr, hsr⟩ : ∃ s, s = nat (m.getD i []) := ⟨_, rfl⟩
      have hrow := F.out.row i hlm
      have hsl : sr.length = l := by rw [hsr, Gf.nat_length, hrow.1]
      have hslt : AllLt sr := by rw [hsr]; exact Gf.nat_lt hrow.2.2
      have hci : ci sr = m.getD i [] := by rw [hsr]; exact Gf.ci_nat hrow.2.2
      have hkl : i < (ovTo U m i).length := by rw [ovTo_length UL.out]; exact hlm
      have hcu := hM.cell i hkl
      have hro := hM.row i hkl
      rw [ovTo_get UL.out i hlm, ← hci] at hro
      obtain ⟨u, hu⟩ : ∃ u, u = vs.getD i nilRow := ⟨_, rfl⟩
      have htu : ∀ k, u.ownBlock = some k → k < w2.heap.size := fun k hk => hM.tops i k hkl (by rw [← hu]; exact hk)
      rw [← hu] at hcu hro
      have hnext : U.getD i [] = ci (amTo sr q x 0 q.length) := by
        rw [UG.out i hlm, updRow, ← QE.out, ← hx, ← hsr]
      have hO := Own.chg (hi := w3.heap.size) O4.out (fun k hk => TOP3.out k hk) hC (.inr (Nat.le_refl _))
      have O := hide hro
      have OD := hide hO
      have U0 := hide hu
      have M := hide hM
      have C := hide hC
      have NX := hide hnext
      have SL := hide hsl
      have SLT := hide hslt
      have KL := hide hkl
      have TU := hide htu
      have i5 : (0 : Int) ≤ (i : Int) := by omega
      have QG2 : Hid (∀ w', wr.grownBy w' u.ownBlock → Rd w' v3 (ci q)) := fun w' hg => by
        refine Own.rd (base := w2.heap.size) (World.ownsRow.kept OD.out hg ?_)
        cases hv : v3.ownBlock with
        | none => exact .inl rfl
        | some b =>
          right
          intro e
          have h1 := (World.ownsRow.lt OD.out b hv).1
          have h2 := TU.out b e.symm
          omega
      clear hM hC hM5 hr5 hro hO hu hnext hsl hslt hci hkl hrow hsr hx fg htu
      go_wp2
      go_region_with (go_at_call 117; refine (l2Add_any u v3 sr q x w1.heap.size wr.drew (by exact O.out.drew) (fun w' hg => QG2.out w' ⟨hg.os, hg.tape, hg.output, hg.size, hg.block⟩) fx (by rw [QD.out.1, SL.out]; exact Nat.le_refl _) (by rw [SL.out]; omega) SLT.out QD.out.2).mono ?_; rintro e w' ⟨rfl, ho, hg⟩)
      all_goals
        have ho2 : Own w' w1.heap.size (vs.getD i nilRow) (U.getD i []) := by
          rw [NX.out, ← U0.out]
          exact ho
        have hg2' : wr.grownBy w' (vs.getD i nilRow).ownBlock := by
          rw [← U0.out]
          exact ⟨hg.os, hg.tape, hg.output, hg.size, hg.block⟩
        have W2 := hide (M.out.write i KL.out _ ho2 hg2')
        have C3 := hide (C.out.trans (M.out.writeChg i KL.out hg2'))
        clear ho hg ho2 hg2'
        go_wp2
        go_roundw
        case rel =>
          refine ⟨i + 1, by omega, by go_num, ?_, C3.out⟩
          have := W2.out
          rw [ovTo_step UL.out i hlm] at this
          exact this
        case measure => simp [intOf]; omega
    · obtain rfl : i = n := by omega
      have M := hide hM
      have C := hide hC
      clear hM hC
      go_wp2
      go_ret2
      have hm := M.out
      have e := ovTo_end UL.out
      rw [← HN.out] at e
      rw [e] at hm
      have sC := C.out.size
      exact ⟨_, rfl, ⟨_, hm.wider B1.out.size (by omega)⟩, B4.out.trans (C.out.below (by omega) B4.out.size)⟩
end Go.Proofs.YtogopakmebiomaaDoor

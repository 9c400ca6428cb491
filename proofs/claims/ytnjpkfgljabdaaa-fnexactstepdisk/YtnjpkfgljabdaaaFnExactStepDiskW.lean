/-
  The law that holds the program's StepDisk against its model's: at every disk and step the call returns true, and nothing that was there is written. No condition.
-/
import Derived.Test.YtnjpkfgljabdaaaDjn
namespace Go.Proofs.Ytnjpkfgljabdaaa
open Go.RowKit
set_option linter.unusedVariables false

set_option linter.unusedSimpArgs false in
set_option maxRecDepth 100000 in
set_option maxHeartbeats 1600000 in
theorem fnExactStepDisk_walk (p h b : Value) (P H : List ByteArray) (B : List Bool) (K A : Int) (T : ByteArray) (v : Value) (ks : List Int) (w : World) (hp : RdT w p P) (hh : RdT w h H) (hb : RdZ w b B) (hTm : T.size ≤ maxLen) (hv : Rd w v ks) :
    Calls Try.prog 6 #[.agg #[p, h, b], .agg #[.int .i64 K, .int .i64 A, .string T, v]] w fun e w' => e = .returned (.bool true) ∧ Below w.heap.size w w' := by
  have RP := hide hp
  have RH := hide hh
  have RB := hide hb
  have RV := hide hv
  obtain ⟨av, cv, rfl, mv, _⟩ := hv.sl
  clear hp hh hb hv
  have A0 := hide (Hand.two w #[p, h, b] #[.int .i64 K, .int .i64 A, .string T, .slice av ks.length cv] 31 41)
  go_enter Try.func6, Try.ntmps6
  go_wp2_with fail
  refine (szDisk_calls p h b P H B _ (RP.out.below A0.out.below) (RH.out.below A0.out.below) (RB.out.below A0.out.below)).mono ?_
  rintro e w1 ⟨⟨r, rfl, hr⟩, q⟩
  have A1 := hide (A0.out.step q)
  clear A0 q
  by_cases r0 : r < 0
  · go_wp2
    go_ret
    exact ⟨rfl, A1.out.below⟩
  have SZ := hide (hr.resolve_left r0).2.2
  have r1 := (hr.resolve_left r0).2.1
  clear hr
  obtain ⟨caX0, caX1, caX2, caX3⟩ := (A1.out.atBox 0 rfl).c4
  go_wp2_with fail
  refine (szDiskStep_calls K A T _ ks r _ hTm (RV.out.below A1.out.below) (by omega) (by omega)).mono ?_
  rintro e w2 ⟨⟨r2, rfl, hr⟩, q⟩
  have A2 := hide (A1.out.step q)
  clear A1 caX0 caX1 caX2 caX3 q r0 r1
  by_cases r0 : r2 < 0
  · go_wp2
    go_ret
    exact ⟨rfl, A2.out.below⟩
  have hT := (hr.resolve_left r0).2.2.1
  have hkl := (hr.resolve_left r0).2.2.2
  clear hr
  obtain ⟨ok, hok⟩ := sd_bool P H B K A T ks
  have C1 := hide (fun V p h b v h1 h2 h3 h4 => sStepDisk_calls p h b v P H B K A T ks ok V hok h1 h2 h3 h4 hT hkl)
  have C2 := hide (fun V p h b v h1 h2 h3 h4 => stepDisk_calls p h b v P H B K A T ks ok V hok h1 h2 h3 h4 hT hkl)
  have SX := hide (sd_len hok)
  generalize sdP ok P H K A T ks = X at C1 C2 SX
  generalize sdH ok H K A T = Y at C1 C2 SX
  generalize sdB ok B K A = Z at C1 C2 SX
  clear hok
  go_upto_region 8 with fail
  go_cut [6, 7] (fun s1 s2 wx => ∃ g ap cp ah ch ab cb, s1 = .pointer (some ⟨g, 0, none⟩) ∧ s2 = .bool ok ∧ Hand w wx (TVar g (.slice ap X.length cp) (.slice ah Y.length ch) (.slice ab Z.length cb) X Y Z :: [TBox (w.heap.size + 1) #[.int .i64 K, .int .i64 A, .string T, .slice av ks.length cv] 41, TBox w.heap.size #[p, h, b] 31]))
  case first =>
    refine wp_region_noPanic ?_
    refine wp_region_held_drew (S := fun w' => (w'.cell? ⟨w.heap.size, 0, none⟩ = some p ∧ w'.cell? ⟨w.heap.size, 1, none⟩ = some h ∧ w'.cell? ⟨w.heap.size, 2, none⟩ = some b) ∧ (w'.cell? ⟨w.heap.size + 1, 0, none⟩ = some (.int .i64 K) ∧ w'.cell? ⟨w.heap.size + 1, 1, none⟩ = some (.int .i64 A) ∧ w'.cell? ⟨w.heap.size + 1, 2, none⟩ = some (.string T) ∧ w'.cell? ⟨w.heap.size + 1, 3, none⟩ = some (.slice av ks.length cv))) (by kernel_rfl) (⟨((A2.out.step (Below.refl _ _).drew).atBox 1 rfl).c3, ((A2.out.step (Below.refl _ _).drew).atBox 0 rfl).c4⟩) (fun hHeld => ?_)
    have G8_0 := hide (A2.out.step (Below.refl _ _).drew)
    clear A2
    generalize World.drew _ = u8_0 at *
    refine wpAnyH_take (i := 0) (v := ?v1) rfl (by kernel_rfl) (by kernel_rfl) (by kernel_rfl) (fun _ _ _ h => h) (Or.inl ⟨by rfl, ?hy1⟩) (by assumption) ?rest1
    case hy1 => (intro w' hSw; dsimp only [List.getElem_toArray, List.getElem_cons_zero, List.getElem_cons_succ] at hSw ⊢; go_simp; try (with_reducible rfl))
    try simp only [Act.put, List.getElem_toArray, List.getElem_cons_zero, List.getElem_cons_succ, List.setIfInBounds_toArray, List.set_cons_zero, List.set_cons_succ]
    refine wpAnyH_take (i := 2) (v := ?v2) rfl (by kernel_rfl) (by kernel_rfl) (by kernel_rfl) (fun _ _ _ h => h) (Or.inl ⟨by rfl, ?hy2⟩) (by assumption) ?rest2
    case hy2 => (intro w' hSw; dsimp only [List.getElem_toArray, List.getElem_cons_zero, List.getElem_cons_succ] at hSw ⊢; go_simp; try (with_reducible rfl))
    try simp only [Act.put, List.getElem_toArray, List.getElem_cons_zero, List.getElem_cons_succ, List.setIfInBounds_toArray, List.set_cons_zero, List.set_cons_succ]
    refine wpAnyH_ready (rs := [1, 8]) (by kernel_rfl) (by simp) ?_
    refine AllReadyH.cons rfl (fun KK hK => ?_) (AllReadyH.cons rfl (fun KK hK => ?_) (AllReadyH.nil))
    · dsimp only [List.getElem_toArray, List.getElem_cons_zero, List.getElem_cons_succ]
      go_simp
      refine (toDisk_calls p h b P H B _ (RP.out.below G8_0.out.below) (RH.out.below G8_0.out.below) (RB.out.below G8_0.out.below) SZ.out).mono ?_
      rintro e' u8_1 ⟨p2, h2, b2, rfl, d, q⟩
      obtain ⟨ap2, cp2, ah2, ch2, ab2, cb2, rfl, rfl, rfl⟩ := d.sl
      have G8_1 := hide (G8_0.out.add q (TDsk.st _ _ _ _ _ _) d)
      clear q d hHeld G8_0
      refine hK.out _ _ (⟨(G8_1.out.atBox 2 rfl).c3, (G8_1.out.atBox 1 rfl).c4⟩) (fun hHeld => ?_)
      clear hK KK
      try simp only [Act.put, List.getElem_toArray, List.getElem_cons_zero, List.getElem_cons_succ, List.setIfInBounds_toArray, List.set_cons_zero, List.set_cons_succ]
      refine wpAnyH_ready (rs := [3, 8]) (by kernel_rfl) (by simp) ?_
      refine AllReadyH.cons rfl (fun KK hK => ?_) (AllReadyH.cons rfl (fun KK hK => ?_) (AllReadyH.nil))
      · dsimp only [List.getElem_toArray, List.getElem_cons_zero, List.getElem_cons_succ]
        go_simp
        refine (toDiskStep_calls K A T _ ks _ (RV.out.below G8_1.out.below) hkl).mono ?_
        rintro e' u8_2 ⟨v3, rfl, o, q⟩
        obtain ⟨a3, c3, rfl⟩ := row_slice o
        have G8_2 := hide (G8_1.out.add q (TInts.st _ _) ⟨o, row_top o⟩)
        clear q o hHeld G8_1
        refine hK.out _ _ (⟨(G8_2.out.atBox 3 rfl).c3, (G8_2.out.atBox 2 rfl).c4⟩) (fun hHeld => ?_)
        clear hK KK
        try simp only [Act.put, List.getElem_toArray, List.getElem_cons_zero, List.getElem_cons_succ, List.setIfInBounds_toArray, List.set_cons_zero, List.set_cons_succ]
        refine wpAnyH_ready (rs := [4, 8]) (by kernel_rfl) (by simp) ?_
        refine AllReadyH.cons rfl (fun KK hK => ?_) (AllReadyH.cons rfl (fun KK hK => ?_) (AllReadyH.nil))
        · obtain ⟨lo1, hi1, e1⟩ := G8_2.out.get 1 rfl
          have E1 : Hid (DskV _ lo1 hi1 _ _ _ P H B) := e1
          obtain ⟨lo2, hi2, e2⟩ := G8_2.out.get 0 rfl
          have E2 : Hid (Own _ lo2 _ ks) := e2.1
          clear e1 e2
          dsimp only [List.getElem_toArray, List.getElem_cons_zero, List.getElem_cons_succ]
          go_simp
          refine (C1.out _ _ _ _ _ E1.out.rp E1.out.rh E1.out.rb E2.out.rd).mono ?_
          rintro e' u8_3 ⟨p4, h4, b4, rfl, d, q⟩
          obtain ⟨ap4, cp4, ah4, ch4, ab4, cb4, rfl, rfl, rfl⟩ := d.sl
          have G8_3 := hide (G8_2.out.add q (TDsk.st _ _ _ _ _ _) d)
          clear q d E1 E2 lo1 hi1 lo2 hi2 hHeld G8_2
          refine hK.out _ _ (⟨(G8_3.out.atBox 4 rfl).c3, (G8_3.out.atBox 3 rfl).c4⟩) (fun hHeld => ?_)
          clear hK KK
          try simp only [Act.put, List.getElem_toArray, List.getElem_cons_zero, List.getElem_cons_succ, List.setIfInBounds_toArray, List.set_cons_zero, List.set_cons_succ]
          refine wpAnyH_take (i := 5) (v := ?v3) rfl (by kernel_rfl) (by kernel_rfl) (by kernel_rfl) (fun _ _ _ h => h) (Or.inl ⟨by rfl, ?hy3⟩) (by assumption) ?rest3
          case hy3 => (intro w' hSw; dsimp only [List.getElem_toArray, List.getElem_cons_zero, List.getElem_cons_succ] at hSw ⊢; go_simp; try (with_reducible rfl))
          try simp only [Act.put, List.getElem_toArray, List.getElem_cons_zero, List.getElem_cons_succ, List.setIfInBounds_toArray, List.set_cons_zero, List.set_cons_succ]
          refine wpAnyH_take (i := 6) (v := ?v4) rfl (by kernel_rfl) (by kernel_rfl) (by kernel_rfl) (fun _ _ _ h => h) (Or.inl ⟨by rfl, ?hy4⟩) (by assumption) ?rest4
          case hy4 => (intro w' hSw; dsimp only [List.getElem_toArray, List.getElem_cons_zero, List.getElem_cons_succ] at hSw ⊢; go_simp; try (with_reducible rfl))
          try simp only [Act.put, List.getElem_toArray, List.getElem_cons_zero, List.getElem_cons_succ, List.setIfInBounds_toArray, List.set_cons_zero, List.set_cons_succ]
          refine wpAnyH_take (i := 7) (v := ?v5) rfl (by kernel_rfl) (by kernel_rfl) (by kernel_rfl) (fun _ _ _ h => h) (Or.inl ⟨by rfl, ?hy5⟩) (by assumption) ?rest5
          case hy5 => (intro w' hSw; dsimp only [List.getElem_toArray, List.getElem_cons_zero, List.getElem_cons_succ] at hSw ⊢; go_simp; try (with_reducible rfl))
          try simp only [Act.put, List.getElem_toArray, List.getElem_cons_zero, List.getElem_cons_succ, List.setIfInBounds_toArray, List.set_cons_zero, List.set_cons_succ]
          refine wpAnyH_ready (rs := [8]) (by kernel_rfl) (by simp) ?_
          refine AllReadyH.cons rfl (fun KK hK => ?_) (AllReadyH.nil)
          dsimp only [List.getElem_toArray, List.getElem_cons_zero, List.getElem_cons_succ]
          go_simp
          have G8_4 := hide (G8_3.out.box #[.slice none 0 0, .slice none 0 0, .slice none 0 0] 25)
          obtain ⟨g6, hg6⟩ : ∃ g6, g6 = u8_3.heap.size := ⟨_, rfl⟩
          rw [← hg6] at G8_4 ⊢
          clear hg6
          generalize u8_3.alloc (.cells #[.slice none 0 0, .slice none 0 0, .slice none 0 0] 25) = u8_4 at G8_4 ⊢
          clear hHeld G8_3
          refine hK.out _ _ (⟨(G8_4.out.atBox 5 rfl).c3, (G8_4.out.atBox 4 rfl).c4⟩) (fun hHeld => ?_)
          clear hK KK
          try simp only [Act.put, List.getElem_toArray, List.getElem_cons_zero, List.getElem_cons_succ, List.setIfInBounds_toArray, List.set_cons_zero, List.set_cons_succ]
          refine wpAnyH_ready (rs := [9]) (by kernel_rfl) (by simp) ?_
          refine AllReadyH.cons rfl (fun KK hK => ?_) AllReadyH.nil
          have xr := G8_4.out.atBox 0 rfl
          obtain ⟨d0, d1, d2⟩ := xr.c3
          have g0 := xr.frozen 0
          have g1 := xr.frozen 1
          have g2 := xr.frozen 2
          have G8_5 := hide (G8_4.out.store3 0 rfl (.slice ap4 X.length cp4) (.slice ah4 Y.length ch4) (.slice ab4 Z.length cb4))
          dsimp only [List.getElem_toArray, List.getElem_cons_zero, List.getElem_cons_succ]
          go_simp
          clear xr d0 d1 d2 g0 g1 g2 hHeld G8_4
          refine hK.out _ _ (⟨(G8_5.out.atBox 5 rfl).c3, (G8_5.out.atBox 4 rfl).c4⟩) (fun hHeld => ?_)
          clear hK KK
          try simp only [Act.put, List.getElem_toArray, List.getElem_cons_zero, List.getElem_cons_succ, List.setIfInBounds_toArray, List.set_cons_zero, List.set_cons_succ]
          refine wpAnyH_ready (rs := [10]) (by kernel_rfl) (by simp) ?_
          refine AllReadyH.cons rfl (fun KK hK => ?_) AllReadyH.nil
          dsimp only [List.getElem_toArray, List.getElem_cons_zero, List.getElem_cons_succ]
          go_simp
          refine hK.out _ _ (⟨(G8_5.out.atBox 5 rfl).c3, (G8_5.out.atBox 4 rfl).c4⟩) (fun hHeld => ?_)
          clear hK KK
          try simp only [Act.put, List.getElem_toArray, List.getElem_cons_zero, List.getElem_cons_succ, List.setIfInBounds_toArray, List.set_cons_zero, List.set_cons_succ]
          refine wpAnyH_done (by kernel_rfl) ?_ _
          refine NoPanic.normal ?_
          clear hHeld
          go_wp2_with fail
          go_meet
          exact ⟨_, _, _, _, _, _, _, rfl, rfl, Hand.join4 G8_5.out (TBox.wd _ _ _) (TDsk.wd _ _ _ _ _ _) (TInts.wd _ _) (TDsk.wd _ _ _ _ _ _) (TVar.st _ _ _ _ _ _ _) (fun lo hi w' z0 z1 z2 z3 => ⟨z0, z1⟩)⟩
        · dsimp only [List.getElem_toArray, List.getElem_cons_zero, List.getElem_cons_succ]
          go_simp
          have G8_6 := hide (G8_2.out.box #[.slice none 0 0, .slice none 0 0, .slice none 0 0] 25)
          obtain ⟨g6, hg6⟩ : ∃ g6, g6 = u8_2.heap.size := ⟨_, rfl⟩
          rw [← hg6] at G8_6 ⊢
          clear hg6
          generalize u8_2.alloc (.cells #[.slice none 0 0, .slice none 0 0, .slice none 0 0] 25) = u8_6 at G8_6 ⊢
          clear hHeld G8_2
          refine hK.out _ _ (⟨(G8_6.out.atBox 4 rfl).c3, (G8_6.out.atBox 3 rfl).c4⟩) (fun hHeld => ?_)
          clear hK KK
          try simp only [Act.put, List.getElem_toArray, List.getElem_cons_zero, List.getElem_cons_succ, List.setIfInBounds_toArray, List.set_cons_zero, List.set_cons_succ]
          refine wpAnyH_ready (rs := [4]) (by kernel_rfl) (by simp) ?_
          refine AllReadyH.cons rfl (fun KK hK => ?_) (AllReadyH.nil)
          obtain ⟨lo1, hi1, e1⟩ := G8_6.out.get 2 rfl
          have E1 : Hid (DskV _ lo1 hi1 _ _ _ P H B) := e1
          obtain ⟨lo2, hi2, e2⟩ := G8_6.out.get 1 rfl
          have E2 : Hid (Own _ lo2 _ ks) := e2.1
          clear e1 e2
          dsimp only [List.getElem_toArray, List.getElem_cons_zero, List.getElem_cons_succ]
          go_simp
          refine (C1.out _ _ _ _ _ E1.out.rp E1.out.rh E1.out.rb E2.out.rd).mono ?_
          rintro e' u8_7 ⟨p4, h4, b4, rfl, d, q⟩
          obtain ⟨ap4, cp4, ah4, ch4, ab4, cb4, rfl, rfl, rfl⟩ := d.sl
          have G8_7 := hide (G8_6.out.add q (TDsk.st _ _ _ _ _ _) d)
          clear q d E1 E2 lo1 hi1 lo2 hi2 hHeld G8_6
          refine hK.out _ _ (⟨(G8_7.out.atBox 5 rfl).c3, (G8_7.out.atBox 4 rfl).c4⟩) (fun hHeld => ?_)
          clear hK KK
          try simp only [Act.put, List.getElem_toArray, List.getElem_cons_zero, List.getElem_cons_succ, List.setIfInBounds_toArray, List.set_cons_zero, List.set_cons_succ]
          refine wpAnyH_take (i := 5) (v := ?v6) rfl (by kernel_rfl) (by kernel_rfl) (by kernel_rfl) (fun _ _ _ h => h) (Or.inl ⟨by rfl, ?hy6⟩) (by assumption) ?rest6
          case hy6 => (intro w' hSw; dsimp only [List.getElem_toArray, List.getElem_cons_zero, List.getElem_cons_succ] at hSw ⊢; go_simp; try (with_reducible rfl))
          try simp only [Act.put, List.getElem_toArray, List.getElem_cons_zero, List.getElem_cons_succ, List.setIfInBounds_toArray, List.set_cons_zero, List.set_cons_succ]
          refine wpAnyH_take (i := 6) (v := ?v7) rfl (by kernel_rfl) (by kernel_rfl) (by kernel_rfl) (fun _ _ _ h => h) (Or.inl ⟨by rfl, ?hy7⟩) (by assumption) ?rest7
          case hy7 => (intro w' hSw; dsimp only [List.getElem_toArray, List.getElem_cons_zero, List.getElem_cons_succ] at hSw ⊢; go_simp; try (with_reducible rfl))
          try simp only [Act.put, List.getElem_toArray, List.getElem_cons_zero, List.getElem_cons_succ, List.setIfInBounds_toArray, List.set_cons_zero, List.set_cons_succ]
          refine wpAnyH_take (i := 7) (v := ?v8) rfl (by kernel_rfl) (by kernel_rfl) (by kernel_rfl) (fun _ _ _ h => h) (Or.inl ⟨by rfl, ?hy8⟩) (by assumption) ?rest8
          case hy8 => (intro w' hSw; dsimp only [List.getElem_toArray, List.getElem_cons_zero, List.getElem_cons_succ] at hSw ⊢; go_simp; try (with_reducible rfl))
          try simp only [Act.put, List.getElem_toArray, List.getElem_cons_zero, List.getElem_cons_succ, List.setIfInBounds_toArray, List.set_cons_zero, List.set_cons_succ]
          refine wpAnyH_ready (rs := [9]) (by kernel_rfl) (by simp) ?_
          refine AllReadyH.cons rfl (fun KK hK => ?_) AllReadyH.nil
          have xr := G8_7.out.atBox 1 rfl
          obtain ⟨d0, d1, d2⟩ := xr.c3
          have g0 := xr.frozen 0
          have g1 := xr.frozen 1
          have g2 := xr.frozen 2
          have G8_8 := hide (G8_7.out.store3 1 rfl (.slice ap4 X.length cp4) (.slice ah4 Y.length ch4) (.slice ab4 Z.length cb4))
          dsimp only [List.getElem_toArray, List.getElem_cons_zero, List.getElem_cons_succ]
          go_simp
          clear xr d0 d1 d2 g0 g1 g2 hHeld G8_7
          refine hK.out _ _ (⟨(G8_8.out.atBox 5 rfl).c3, (G8_8.out.atBox 4 rfl).c4⟩) (fun hHeld => ?_)
          clear hK KK
          try simp only [Act.put, List.getElem_toArray, List.getElem_cons_zero, List.getElem_cons_succ, List.setIfInBounds_toArray, List.set_cons_zero, List.set_cons_succ]
          refine wpAnyH_ready (rs := [10]) (by kernel_rfl) (by simp) ?_
          refine AllReadyH.cons rfl (fun KK hK => ?_) AllReadyH.nil
          dsimp only [List.getElem_toArray, List.getElem_cons_zero, List.getElem_cons_succ]
          go_simp
          refine hK.out _ _ (⟨(G8_8.out.atBox 5 rfl).c3, (G8_8.out.atBox 4 rfl).c4⟩) (fun hHeld => ?_)
          clear hK KK
          try simp only [Act.put, List.getElem_toArray, List.getElem_cons_zero, List.getElem_cons_succ, List.setIfInBounds_toArray, List.set_cons_zero, List.set_cons_succ]
          refine wpAnyH_done (by kernel_rfl) ?_ _
          refine NoPanic.normal ?_
          clear hHeld
          go_wp2_with fail
          go_meet
          exact ⟨_, _, _, _, _, _, _, rfl, rfl, Hand.join4 G8_8.out (TDsk.wd _ _ _ _ _ _) (TBox.wd _ _ _) (TInts.wd _ _) (TDsk.wd _ _ _ _ _ _) (TVar.st _ _ _ _ _ _ _) (fun lo hi w' z0 z1 z2 z3 => ⟨z1, z0⟩)⟩
      · dsimp only [List.getElem_toArray, List.getElem_cons_zero, List.getElem_cons_succ]
        go_simp
        have G8_9 := hide (G8_1.out.box #[.slice none 0 0, .slice none 0 0, .slice none 0 0] 25)
        obtain ⟨g6, hg6⟩ : ∃ g6, g6 = u8_1.heap.size := ⟨_, rfl⟩
        rw [← hg6] at G8_9 ⊢
        clear hg6
        generalize u8_1.alloc (.cells #[.slice none 0 0, .slice none 0 0, .slice none 0 0] 25) = u8_9 at G8_9 ⊢
        clear hHeld G8_1
        refine hK.out _ _ (⟨(G8_9.out.atBox 3 rfl).c3, (G8_9.out.atBox 2 rfl).c4⟩) (fun hHeld => ?_)
        clear hK KK
        try simp only [Act.put, List.getElem_toArray, List.getElem_cons_zero, List.getElem_cons_succ, List.setIfInBounds_toArray, List.set_cons_zero, List.set_cons_succ]
        refine wpAnyH_ready (rs := [3]) (by kernel_rfl) (by simp) ?_
        refine AllReadyH.cons rfl (fun KK hK => ?_) (AllReadyH.nil)
        dsimp only [List.getElem_toArray, List.getElem_cons_zero, List.getElem_cons_succ]
        go_simp
        refine (toDiskStep_calls K A T _ ks _ (RV.out.below G8_9.out.below) hkl).mono ?_
        rintro e' u8_10 ⟨v3, rfl, o, q⟩
        obtain ⟨a3, c3, rfl⟩ := row_slice o
        have G8_10 := hide (G8_9.out.add q (TInts.st _ _) ⟨o, row_top o⟩)
        clear q o hHeld G8_9
        refine hK.out _ _ (⟨(G8_10.out.atBox 4 rfl).c3, (G8_10.out.atBox 3 rfl).c4⟩) (fun hHeld => ?_)
        clear hK KK
        try simp only [Act.put, List.getElem_toArray, List.getElem_cons_zero, List.getElem_cons_succ, List.setIfInBounds_toArray, List.set_cons_zero, List.set_cons_succ]
        refine wpAnyH_ready (rs := [4]) (by kernel_rfl) (by simp) ?_
        refine AllReadyH.cons rfl (fun KK hK => ?_) (AllReadyH.nil)
        obtain ⟨lo1, hi1, e1⟩ := G8_10.out.get 2 rfl
        have E1 : Hid (DskV _ lo1 hi1 _ _ _ P H B) := e1
        obtain ⟨lo2, hi2, e2⟩ := G8_10.out.get 0 rfl
        have E2 : Hid (Own _ lo2 _ ks) := e2.1
        clear e1 e2
        dsimp only [List.getElem_toArray, List.getElem_cons_zero, List.getElem_cons_succ]
        go_simp
        refine (C1.out _ _ _ _ _ E1.out.rp E1.out.rh E1.out.rb E2.out.rd).mono ?_
        rintro e' u8_11 ⟨p4, h4, b4, rfl, d, q⟩
        obtain ⟨ap4, cp4, ah4, ch4, ab4, cb4, rfl, rfl, rfl⟩ := d.sl
        have G8_11 := hide (G8_10.out.add q (TDsk.st _ _ _ _ _ _) d)
        clear q d E1 E2 lo1 hi1 lo2 hi2 hHeld G8_10
        refine hK.out _ _ (⟨(G8_11.out.atBox 5 rfl).c3, (G8_11.out.atBox 4 rfl).c4⟩) (fun hHeld => ?_)
        clear hK KK
        try simp only [Act.put, List.getElem_toArray, List.getElem_cons_zero, List.getElem_cons_succ, List.setIfInBounds_toArray, List.set_cons_zero, List.set_cons_succ]
        refine wpAnyH_take (i := 5) (v := ?v9) rfl (by kernel_rfl) (by kernel_rfl) (by kernel_rfl) (fun _ _ _ h => h) (Or.inl ⟨by rfl, ?hy9⟩) (by assumption) ?rest9
        case hy9 => (intro w' hSw; dsimp only [List.getElem_toArray, List.getElem_cons_zero, List.getElem_cons_succ] at hSw ⊢; go_simp; try (with_reducible rfl))
        try simp only [Act.put, List.getElem_toArray, List.getElem_cons_zero, List.getElem_cons_succ, List.setIfInBounds_toArray, List.set_cons_zero, List.set_cons_succ]
        refine wpAnyH_take (i := 6) (v := ?v10) rfl (by kernel_rfl) (by kernel_rfl) (by kernel_rfl) (fun _ _ _ h => h) (Or.inl ⟨by rfl, ?hy10⟩) (by assumption) ?rest10
        case hy10 => (intro w' hSw; dsimp only [List.getElem_toArray, List.getElem_cons_zero, List.getElem_cons_succ] at hSw ⊢; go_simp; try (with_reducible rfl))
        try simp only [Act.put, List.getElem_toArray, List.getElem_cons_zero, List.getElem_cons_succ, List.setIfInBounds_toArray, List.set_cons_zero, List.set_cons_succ]
        refine wpAnyH_take (i := 7) (v := ?v11) rfl (by kernel_rfl) (by kernel_rfl) (by kernel_rfl) (fun _ _ _ h => h) (Or.inl ⟨by rfl, ?hy11⟩) (by assumption) ?rest11
        case hy11 => (intro w' hSw; dsimp only [List.getElem_toArray, List.getElem_cons_zero, List.getElem_cons_succ] at hSw ⊢; go_simp; try (with_reducible rfl))
        try simp only [Act.put, List.getElem_toArray, List.getElem_cons_zero, List.getElem_cons_succ, List.setIfInBounds_toArray, List.set_cons_zero, List.set_cons_succ]
        refine wpAnyH_ready (rs := [9]) (by kernel_rfl) (by simp) ?_
        refine AllReadyH.cons rfl (fun KK hK => ?_) AllReadyH.nil
        have xr := G8_11.out.atBox 2 rfl
        obtain ⟨d0, d1, d2⟩ := xr.c3
        have g0 := xr.frozen 0
        have g1 := xr.frozen 1
        have g2 := xr.frozen 2
        have G8_12 := hide (G8_11.out.store3 2 rfl (.slice ap4 X.length cp4) (.slice ah4 Y.length ch4) (.slice ab4 Z.length cb4))
        dsimp only [List.getElem_toArray, List.getElem_cons_zero, List.getElem_cons_succ]
        go_simp
        clear xr d0 d1 d2 g0 g1 g2 hHeld G8_11
        refine hK.out _ _ (⟨(G8_12.out.atBox 5 rfl).c3, (G8_12.out.atBox 4 rfl).c4⟩) (fun hHeld => ?_)
        clear hK KK
        try simp only [Act.put, List.getElem_toArray, List.getElem_cons_zero, List.getElem_cons_succ, List.setIfInBounds_toArray, List.set_cons_zero, List.set_cons_succ]
        refine wpAnyH_ready (rs := [10]) (by kernel_rfl) (by simp) ?_
        refine AllReadyH.cons rfl (fun KK hK => ?_) AllReadyH.nil
        dsimp only [List.getElem_toArray, List.getElem_cons_zero, List.getElem_cons_succ]
        go_simp
        refine hK.out _ _ (⟨(G8_12.out.atBox 5 rfl).c3, (G8_12.out.atBox 4 rfl).c4⟩) (fun hHeld => ?_)
        clear hK KK
        try simp only [Act.put, List.getElem_toArray, List.getElem_cons_zero, List.getElem_cons_succ, List.setIfInBounds_toArray, List.set_cons_zero, List.set_cons_succ]
        refine wpAnyH_done (by kernel_rfl) ?_ _
        refine NoPanic.normal ?_
        clear hHeld
        go_wp2_with fail
        go_meet
        exact ⟨_, _, _, _, _, _, _, rfl, rfl, Hand.join4 G8_12.out (TDsk.wd _ _ _ _ _ _) (TInts.wd _ _) (TBox.wd _ _ _) (TDsk.wd _ _ _ _ _ _) (TVar.st _ _ _ _ _ _ _) (fun lo hi w' z0 z1 z2 z3 => ⟨z2, z0⟩)⟩
    · dsimp only [List.getElem_toArray, List.getElem_cons_zero, List.getElem_cons_succ]
      go_simp
      have G8_13 := hide (G8_0.out.box #[.slice none 0 0, .slice none 0 0, .slice none 0 0] 25)
      obtain ⟨g6, hg6⟩ : ∃ g6, g6 = u8_0.heap.size := ⟨_, rfl⟩
      rw [← hg6] at G8_13 ⊢
      clear hg6
      generalize u8_0.alloc (.cells #[.slice none 0 0, .slice none 0 0, .slice none 0 0] 25) = u8_13 at G8_13 ⊢
      clear hHeld G8_0
      refine hK.out _ _ (⟨(G8_13.out.atBox 2 rfl).c3, (G8_13.out.atBox 1 rfl).c4⟩) (fun hHeld => ?_)
      clear hK KK
      try simp only [Act.put, List.getElem_toArray, List.getElem_cons_zero, List.getElem_cons_succ, List.setIfInBounds_toArray, List.set_cons_zero, List.set_cons_succ]
      refine wpAnyH_ready (rs := [1]) (by kernel_rfl) (by simp) ?_
      refine AllReadyH.cons rfl (fun KK hK => ?_) (AllReadyH.nil)
      dsimp only [List.getElem_toArray, List.getElem_cons_zero, List.getElem_cons_succ]
      go_simp
      refine (toDisk_calls p h b P H B _ (RP.out.below G8_13.out.below) (RH.out.below G8_13.out.below) (RB.out.below G8_13.out.below) SZ.out).mono ?_
      rintro e' u8_14 ⟨p2, h2, b2, rfl, d, q⟩
      obtain ⟨ap2, cp2, ah2, ch2, ab2, cb2, rfl, rfl, rfl⟩ := d.sl
      have G8_14 := hide (G8_13.out.add q (TDsk.st _ _ _ _ _ _) d)
      clear q d hHeld G8_13
      refine hK.out _ _ (⟨(G8_14.out.atBox 3 rfl).c3, (G8_14.out.atBox 2 rfl).c4⟩) (fun hHeld => ?_)
      clear hK KK
      try simp only [Act.put, List.getElem_toArray, List.getElem_cons_zero, List.getElem_cons_succ, List.setIfInBounds_toArray, List.set_cons_zero, List.set_cons_succ]
      refine wpAnyH_ready (rs := [3]) (by kernel_rfl) (by simp) ?_
      refine AllReadyH.cons rfl (fun KK hK => ?_) (AllReadyH.nil)
      dsimp only [List.getElem_toArray, List.getElem_cons_zero, List.getElem_cons_succ]
      go_simp
      refine (toDiskStep_calls K A T _ ks _ (RV.out.below G8_14.out.below) hkl).mono ?_
      rintro e' u8_15 ⟨v3, rfl, o, q⟩
      obtain ⟨a3, c3, rfl⟩ := row_slice o
      have G8_15 := hide (G8_14.out.add q (TInts.st _ _) ⟨o, row_top o⟩)
      clear q o hHeld G8_14
      refine hK.out _ _ (⟨(G8_15.out.atBox 4 rfl).c3, (G8_15.out.atBox 3 rfl).c4⟩) (fun hHeld => ?_)
      clear hK KK
      try simp only [Act.put, List.getElem_toArray, List.getElem_cons_zero, List.getElem_cons_succ, List.setIfInBounds_toArray, List.set_cons_zero, List.set_cons_succ]
      refine wpAnyH_ready (rs := [4]) (by kernel_rfl) (by simp) ?_
      refine AllReadyH.cons rfl (fun KK hK => ?_) (AllReadyH.nil)
      obtain ⟨lo1, hi1, e1⟩ := G8_15.out.get 1 rfl
      have E1 : Hid (DskV _ lo1 hi1 _ _ _ P H B) := e1
      obtain ⟨lo2, hi2, e2⟩ := G8_15.out.get 0 rfl
      have E2 : Hid (Own _ lo2 _ ks) := e2.1
      clear e1 e2
      dsimp only [List.getElem_toArray, List.getElem_cons_zero, List.getElem_cons_succ]
      go_simp
      refine (C1.out _ _ _ _ _ E1.out.rp E1.out.rh E1.out.rb E2.out.rd).mono ?_
      rintro e' u8_16 ⟨p4, h4, b4, rfl, d, q⟩
      obtain ⟨ap4, cp4, ah4, ch4, ab4, cb4, rfl, rfl, rfl⟩ := d.sl
      have G8_16 := hide (G8_15.out.add q (TDsk.st _ _ _ _ _ _) d)
      clear q d E1 E2 lo1 hi1 lo2 hi2 hHeld G8_15
      refine hK.out _ _ (⟨(G8_16.out.atBox 5 rfl).c3, (G8_16.out.atBox 4 rfl).c4⟩) (fun hHeld => ?_)
      clear hK KK
      try simp only [Act.put, List.getElem_toArray, List.getElem_cons_zero, List.getElem_cons_succ, List.setIfInBounds_toArray, List.set_cons_zero, List.set_cons_succ]
      refine wpAnyH_take (i := 5) (v := ?v12) rfl (by kernel_rfl) (by kernel_rfl) (by kernel_rfl) (fun _ _ _ h => h) (Or.inl ⟨by rfl, ?hy12⟩) (by assumption) ?rest12
      case hy12 => (intro w' hSw; dsimp only [List.getElem_toArray, List.getElem_cons_zero, List.getElem_cons_succ] at hSw ⊢; go_simp; try (with_reducible rfl))
      try simp only [Act.put, List.getElem_toArray, List.getElem_cons_zero, List.getElem_cons_succ, List.setIfInBounds_toArray, List.set_cons_zero, List.set_cons_succ]
      refine wpAnyH_take (i := 6) (v := ?v13) rfl (by kernel_rfl) (by kernel_rfl) (by kernel_rfl) (fun _ _ _ h => h) (Or.inl ⟨by rfl, ?hy13⟩) (by assumption) ?rest13
      case hy13 => (intro w' hSw; dsimp only [List.getElem_toArray, List.getElem_cons_zero, List.getElem_cons_succ] at hSw ⊢; go_simp; try (with_reducible rfl))
      try simp only [Act.put, List.getElem_toArray, List.getElem_cons_zero, List.getElem_cons_succ, List.setIfInBounds_toArray, List.set_cons_zero, List.set_cons_succ]
      refine wpAnyH_take (i := 7) (v := ?v14) rfl (by kernel_rfl) (by kernel_rfl) (by kernel_rfl) (fun _ _ _ h => h) (Or.inl ⟨by rfl, ?hy14⟩) (by assumption) ?rest14
      case hy14 => (intro w' hSw; dsimp only [List.getElem_toArray, List.getElem_cons_zero, List.getElem_cons_succ] at hSw ⊢; go_simp; try (with_reducible rfl))
      try simp only [Act.put, List.getElem_toArray, List.getElem_cons_zero, List.getElem_cons_succ, List.setIfInBounds_toArray, List.set_cons_zero, List.set_cons_succ]
      refine wpAnyH_ready (rs := [9]) (by kernel_rfl) (by simp) ?_
      refine AllReadyH.cons rfl (fun KK hK => ?_) AllReadyH.nil
      have xr := G8_16.out.atBox 3 rfl
      obtain ⟨d0, d1, d2⟩ := xr.c3
      have g0 := xr.frozen 0
      have g1 := xr.frozen 1
      have g2 := xr.frozen 2
      have G8_17 := hide (G8_16.out.store3 3 rfl (.slice ap4 X.length cp4) (.slice ah4 Y.length ch4) (.slice ab4 Z.length cb4))
      dsimp only [List.getElem_toArray, List.getElem_cons_zero, List.getElem_cons_succ]
      go_simp
      clear xr d0 d1 d2 g0 g1 g2 hHeld G8_16
      refine hK.out _ _ (⟨(G8_17.out.atBox 5 rfl).c3, (G8_17.out.atBox 4 rfl).c4⟩) (fun hHeld => ?_)
      clear hK KK
      try simp only [Act.put, List.getElem_toArray, List.getElem_cons_zero, List.getElem_cons_succ, List.setIfInBounds_toArray, List.set_cons_zero, List.set_cons_succ]
      refine wpAnyH_ready (rs := [10]) (by kernel_rfl) (by simp) ?_
      refine AllReadyH.cons rfl (fun KK hK => ?_) AllReadyH.nil
      dsimp only [List.getElem_toArray, List.getElem_cons_zero, List.getElem_cons_succ]
      go_simp
      refine hK.out _ _ (⟨(G8_17.out.atBox 5 rfl).c3, (G8_17.out.atBox 4 rfl).c4⟩) (fun hHeld => ?_)
      clear hK KK
      try simp only [Act.put, List.getElem_toArray, List.getElem_cons_zero, List.getElem_cons_succ, List.setIfInBounds_toArray, List.set_cons_zero, List.set_cons_succ]
      refine wpAnyH_done (by kernel_rfl) ?_ _
      refine NoPanic.normal ?_
      clear hHeld
      go_wp2_with fail
      go_meet
      exact ⟨_, _, _, _, _, _, _, rfl, rfl, Hand.join4 G8_17.out (TDsk.wd _ _ _ _ _ _) (TInts.wd _ _) (TDsk.wd _ _ _ _ _ _) (TBox.wd _ _ _) (TVar.st _ _ _ _ _ _ _) (fun lo hi w' z0 z1 z2 z3 => ⟨z3, z0⟩)⟩
  case rest =>
  obtain ⟨gw0, apw0, cpw0, ahw0, chw0, abw0, cbw0, rfl, rfl, hhw0⟩ := hcut
  have A3 := hide hhw0
  clear hhw0 A2
  generalize wc = w3 at *
  obtain ⟨caD0, caD1, caD2⟩ := (A3.out.atBox 2 rfl).c3
  go_wp2_with fail
  refine (toDisk_calls p h b P H B _ (RP.out.below A3.out.below) (RH.out.below A3.out.below) (RB.out.below A3.out.below) SZ.out).mono ?_
  rintro e w4 ⟨pz, hz, bz, rfl, d, q⟩
  obtain ⟨apz, cpz, ahz, chz, abz, cbz, rfl, rfl, rfl⟩ := d.sl
  have ltz := q.size
  (try simp only [World.size_alloc] at ltz)
  have A4 := hide ((A3.out.add q (TDsk.st _ _ _ _ _ _) d).box #[.slice apz P.length cpz, .slice ahz H.length chz, .slice abz B.length cbz] 25)
  clear A3 caD0 caD1 caD2 q d
  obtain ⟨caX0, caX1, caX2, caX3⟩ := (A4.out.atBox 3 rfl).c4
  go_wp2_with fail
  refine (toDiskStep_calls K A T _ ks _ (RV.out.below A4.out.below) hkl).mono ?_
  rintro e w5 ⟨vj, rfl, o, q⟩
  obtain ⟨aj, cj, rfl⟩ := row_slice o
  have ltj := q.size
  (try simp only [World.size_alloc] at ltj)
  have A5 := hide ((A4.out.add q (TInts.st _ _) ⟨o, row_top o⟩).box #[.int .i64 K, .int .i64 A, .string T, .slice aj ks.length cj] 44)
  clear A4 caX0 caX1 caX2 caX3 q o
  obtain ⟨cx00, cx01, cx02⟩ := (A5.out.atBox 2 rfl).c3
  obtain ⟨cy00, cy01, cy02, cy03⟩ := (A5.out.atBox 0 rfl).c4
  obtain ⟨loz, hiz, dz⟩ := A5.out.get 3 rfl
  have Dz : Hid (DskV _ loz hiz _ _ _ P H B) := dz
  clear dz
  obtain ⟨loj, hij, dj⟩ := A5.out.get 1 rfl
  have Dj : Hid (Own _ loj _ ks) := dj.1
  clear dj
  go_wp2_with fail
  refine (C2.out _ _ _ _ _ Dz.out.rp Dz.out.rh Dz.out.rb Dj.out.rd).mono ?_
  rintro e w6 ⟨pu, hu, bu, rfl, d, q⟩
  obtain ⟨apu, cpu, ahu, chu, abu, cbu, rfl, rfl, rfl⟩ := d.sl
  have ltu := q.size
  (try simp only [World.size_alloc] at ltu)
  have A6 := hide ((A5.out.add q (TDsk.st _ _ _ _ _ _) d).box #[.slice apu X.length cpu, .slice ahu Y.length chu, .slice abu Z.length cbu] 25)
  clear A5 cx00 cx01 cx02 cy00 cy01 cy02 cy03 Dz loz hiz Dj loj hij q d
  obtain ⟨cw00, cw01, cw02⟩ := (A6.out.var 6 rfl).1.c3
  obtain ⟨lou, hiu, du⟩ := A6.out.get 1 rfl
  have Du : Hid (DskV _ lou hiu _ _ _ X Y Z) := du
  clear du
  obtain ⟨low0, hiw0, dw0⟩ := (A6.out.var 6 rfl).2
  have Dw0 : Hid (DskV _ low0 hiw0 _ _ _ X Y Z) := dw0
  clear dw0
  go_wp2_with fail
  refine (eqDisk_same _ _ _ _ _ _ X Y Z _ Du.out.rp Du.out.rh Du.out.rb Dw0.out.rp Dw0.out.rh Dw0.out.rb).mono ?_
  rintro e w7 ⟨rfl, q⟩
  have A7 := hide (A6.out.step q)
  clear A6 cw00 cw01 cw02 Du lou hiu Dw0 low0 hiw0 q
  go_wp2
  obtain ⟨lo, hi, dd⟩ := A7.out.get 5 rfl
  have D5 : Hid (DskV _ lo hi _ _ _ P H B) := dd
  clear dd
  have F : Hid (∀ w', Below w7.heap.size w7 w' → (w'.cell? ⟨w.heap.size, 0, none⟩ = some p ∧ w'.cell? ⟨w.heap.size, 1, none⟩ = some h ∧ w'.cell? ⟨w.heap.size, 2, none⟩ = some b) ∧ (w'.cell? ⟨w4.heap.size, 0, none⟩ = some (.slice apz P.length cpz) ∧ w'.cell? ⟨w4.heap.size, 1, none⟩ = some (.slice ahz H.length chz) ∧ w'.cell? ⟨w4.heap.size, 2, none⟩ = some (.slice abz B.length cbz))) :=
    fun w' hb => ⟨((A7.out.step hb).atBox 8 rfl).c3, ((A7.out.step hb).atBox 4 rfl).c3⟩
  go_region_held3 (fun w' => (w'.cell? ⟨w.heap.size, 0, none⟩ = some p ∧ w'.cell? ⟨w.heap.size, 1, none⟩ = some h ∧ w'.cell? ⟨w.heap.size, 2, none⟩ = some b) ∧ (w'.cell? ⟨w4.heap.size, 0, none⟩ = some (.slice apz P.length cpz) ∧ w'.cell? ⟨w4.heap.size, 1, none⟩ = some (.slice ahz H.length chz) ∧ w'.cell? ⟨w4.heap.size, 2, none⟩ = some (.slice abz B.length cbz))) (first | exact F.out _ (Below.refl _ _).drew | exact F.out _ B2.out | exact F.out _ B1.out)
    ((first | (go_at_call 12; refine (eqDisk_same _ _ _ _ _ _ P H B _ (D5.out.below B1.out).rp (D5.out.below B1.out).rh (D5.out.below B1.out).rb D6.out.rp D6.out.rh D6.out.rb).mono ?_; rintro e' wr7 ⟨rfl, b7⟩; have B2 := hide (B1.out.trans (b7.mono B1.out.size)); clear b7) | (go_at_call 17; refine (toDisk_calls p h b P H B _ (RP.out.below (A7.out.step (Below.refl _ _).drew).below) (RH.out.below (A7.out.step (Below.refl _ _).drew).below) (RB.out.below (A7.out.step (Below.refl _ _).drew).below) SZ.out).mono ?_; rintro e' wr6 ⟨p3, h3, b3, rfl, d6, b6⟩; have D6 := hide d6; have B1 := hide ((Below.refl w7.heap.size w7).drew.trans b6); clear b6 d6)))
  have A8 := hide (A7.out.step B2.out)
  clear A7 F B1 B2 D5 D6 lo hi
  go_wp2
  obtain ⟨lo, hi, dd⟩ := A8.out.get 3 rfl
  have D5 : Hid (Own _ lo _ ks) := dd.1
  clear dd
  have F : Hid (∀ w', Below wr7.heap.size wr7 w' → (w'.cell? ⟨w.heap.size + 1, 0, none⟩ = some (.int .i64 K) ∧ w'.cell? ⟨w.heap.size + 1, 1, none⟩ = some (.int .i64 A) ∧ w'.cell? ⟨w.heap.size + 1, 2, none⟩ = some (.string T) ∧ w'.cell? ⟨w.heap.size + 1, 3, none⟩ = some (.slice av ks.length cv)) ∧ (w'.cell? ⟨w5.heap.size, 0, none⟩ = some (.int .i64 K) ∧ w'.cell? ⟨w5.heap.size, 1, none⟩ = some (.int .i64 A) ∧ w'.cell? ⟨w5.heap.size, 2, none⟩ = some (.string T) ∧ w'.cell? ⟨w5.heap.size, 3, none⟩ = some (.slice aj ks.length cj))) :=
    fun w' hb => ⟨((A8.out.step hb).atBox 7 rfl).c4, ((A8.out.step hb).atBox 2 rfl).c4⟩
  go_region_held3 (fun w' => (w'.cell? ⟨w.heap.size + 1, 0, none⟩ = some (.int .i64 K) ∧ w'.cell? ⟨w.heap.size + 1, 1, none⟩ = some (.int .i64 A) ∧ w'.cell? ⟨w.heap.size + 1, 2, none⟩ = some (.string T) ∧ w'.cell? ⟨w.heap.size + 1, 3, none⟩ = some (.slice av ks.length cv)) ∧ (w'.cell? ⟨w5.heap.size, 0, none⟩ = some (.int .i64 K) ∧ w'.cell? ⟨w5.heap.size, 1, none⟩ = some (.int .i64 A) ∧ w'.cell? ⟨w5.heap.size, 2, none⟩ = some (.string T) ∧ w'.cell? ⟨w5.heap.size, 3, none⟩ = some (.slice aj ks.length cj))) (first | exact F.out _ (Below.refl _ _).drew | exact F.out _ B2.out | exact F.out _ B1.out)
    ((first | (go_at_call 25; refine (eqDiskStep_same K A T _ _ ks _ (D5.out.rd.below B1.out) D6.out.rd).mono ?_; rintro e' wr9 ⟨rfl, b7⟩; have B2 := hide (B1.out.trans (b7.mono B1.out.size)); clear b7) | (go_at_call 23; refine (toDiskStep_calls K A T _ ks _ (RV.out.below (A8.out.step (Below.refl _ _).drew).below) hkl).mono ?_; rintro e' wr8 ⟨v3, rfl, o6, b6⟩; have D6 := hide o6; have B1 := hide ((Below.refl wr7.heap.size wr7).drew.trans b6); clear b6 o6)))
  have A9 := hide (A8.out.step B2.out)
  clear A8 F B1 B2 D5 D6 lo hi
  have zb : P.length ≤ 1048576 ∧ H.length ≤ 1048576 ∧ B.length ≤ 1048576 := SZ.out
  obtain ⟨cx00, cx01, cx02⟩ := (A9.out.atBox 4 rfl).c3
  obtain ⟨loz, hiz, dz, lw, hw, put⟩ := A9.out.open 5 rfl
  have Dz : Hid (DskV _ loz hiz _ _ _ P H B) := dz
  have PUT := hide put
  clear dz put lw
  go_wp2_with fail
  refine (markDisk_calls _ _ _ P H B 1 loz hiz _ Dz.out hw (by omega) (by omega) SZ.out).mono ?_
  rintro e w10 ⟨rfl, d4, q⟩
  have A10 := hide (PUT.out _ (TDsk _ _ _ _ _ _) (TDsk.st _ _ _ _ _ _) d4 q)
  clear A9 cx00 cx01 cx02 Dz loz hiz PUT hw q d4
  obtain ⟨kk, hkk⟩ : ∃ kk : Nat, kk = 1 + P.length + H.length + B.length := ⟨_, rfl⟩
  have kb : kk ≤ 4000000 := by omega
  rw [← hkk]
  clear hkk
  obtain ⟨cy00, cy01, cy02, cy03⟩ := (A10.out.atBox 2 rfl).c4
  obtain ⟨loj, hij, dj, lw, hw, put⟩ := A10.out.open 3 rfl
  have Dj : Hid (Own _ loj _ ks) := dj.1
  have TDj := hide dj.2
  have PUT := hide put
  clear dj put lw
  go_wp2_with fail
  refine (markDiskStep_calls K A T _ ks (kk : Int) loj hij _ Dj.out TDj.out hw (by omega) (by omega) hkl).mono ?_
  rintro e w11 ⟨rfl, o4, g4⟩
  have A11 := hide (PUT.out _ (TInts _ _) (TInts.st _ _) ⟨o4, TDj.out⟩ g4)
  clear A10 cy00 cy01 cy02 cy03 TDj Dj loj hij PUT hw o4 g4
  have kn : ¬ (kk : Int) + (ks.length : Int) < 0 := by omega
  obtain ⟨cg00, cg01, cg02⟩ := (A11.out.atBox 0 rfl).c3
  obtain ⟨cw00, cw01, cw02⟩ := (A11.out.var 6 rfl).1.c3
  obtain ⟨lou, hiu, du⟩ := A11.out.get 1 rfl
  have Du : Hid (DskV _ lou hiu _ _ _ X Y Z) := du
  clear du
  obtain ⟨low0, hiw0, dw0⟩ := (A11.out.var 6 rfl).2
  have Dw0 : Hid (DskV _ low0 hiw0 _ _ _ X Y Z) := dw0
  clear dw0
  go_wp2_with fail
  refine (eqDisk_same _ _ _ _ _ _ X Y Z _ Du.out.rp Du.out.rh Du.out.rb Dw0.out.rp Dw0.out.rh Dw0.out.rb).mono ?_
  rintro e w12 ⟨rfl, q⟩
  have A12 := hide (A11.out.step q)
  clear A11 cg00 cg01 cg02 cw00 cw01 cw02 Du lou hiu Dw0 low0 hiw0 q
  obtain ⟨cg00, cg01, cg02⟩ := (A12.out.atBox 0 rfl).c3
  obtain ⟨lou, hiu, du, lw, hw, put⟩ := A12.out.open 1 rfl
  have Du : Hid (DskV _ lou hiu _ _ _ X Y Z) := du
  have PUT := hide put
  clear du put lw
  go_wp2_with fail
  refine (markDisk_calls _ _ _ X Y Z 1 lou hiu _ Du.out hw (by omega) (by omega) SX.out).mono ?_
  rintro e w13 ⟨rfl, d4, q⟩
  have A13 := hide (PUT.out _ (TDsk _ _ _ _ _ _) (TDsk.st _ _ _ _ _ _) d4 q)
  clear A12 cg00 cg01 cg02 Du lou hiu PUT hw q d4
  obtain ⟨cg00, cg01, cg02⟩ := (A13.out.atBox 0 rfl).c3
  obtain ⟨lou, hiu, du⟩ := A13.out.get 1 rfl
  have Du : Hid (DskV _ lou hiu _ _ _ (marksT 1 X.length) (marksT (1 + X.length) Y.length) (marksZ ((1 + X.length + Y.length : Nat) : Int) Z.length)) := du
  clear du
  go_wp2_with fail
  refine (heldDisk_calls _ _ _ X.length Y.length Z.length 1 _ Du.out.rp Du.out.rh Du.out.rb (by omega) (by omega) SX.out.1 SX.out.2.1 SX.out.2.2).mono ?_
  rintro e w14 ⟨rfl, q⟩
  have A14 := hide (A13.out.step q)
  clear A13 cg00 cg01 cg02 Du lou hiu q
  go_upto_region 31 with fail
  go_cut [15, 16] (fun s1 s2 wx => ∃ g ap cp ah ch ab cb, s1 = .pointer (some ⟨g, 0, none⟩) ∧ s2 = .bool ok ∧ Hand w wx (TVar g (.slice ap X.length cp) (.slice ah Y.length ch) (.slice ab Z.length cb) X Y Z :: [TBox w6.heap.size #[.slice apu X.length cpu, .slice ahu Y.length chu, .slice abu Z.length cbu] 25, TDsk (.slice apu X.length cpu) (.slice ahu Y.length chu) (.slice abu Z.length cbu) (marksT 1 X.length) (marksT (1 + X.length) Y.length) (marksZ ((1 + X.length + Y.length : Nat) : Int) Z.length), TBox w5.heap.size #[.int .i64 K, .int .i64 A, .string T, .slice aj ks.length cj] 44, TInts (.slice aj ks.length cj) (marks (kk : Int) ks.length), TBox w4.heap.size #[.slice apz P.length cpz, .slice ahz H.length chz, .slice abz B.length cbz] 25, TDsk (.slice apz P.length cpz) (.slice ahz H.length chz) (.slice abz B.length cbz) (marksT 1 P.length) (marksT (1 + P.length) H.length) (marksZ ((1 + P.length + H.length : Nat) : Int) B.length), TVar gw0 (.slice apw0 X.length cpw0) (.slice ahw0 Y.length chw0) (.slice abw0 Z.length cbw0) X Y Z, TBox (w.heap.size + 1) #[.int .i64 K, .int .i64 A, .string T, .slice av ks.length cv] 41, TBox w.heap.size #[p, h, b] 31]))
  case first =>
    refine wp_region_noPanic ?_
    refine wp_region_held_drew (S := fun w' => (w'.cell? ⟨w.heap.size, 0, none⟩ = some p ∧ w'.cell? ⟨w.heap.size, 1, none⟩ = some h ∧ w'.cell? ⟨w.heap.size, 2, none⟩ = some b) ∧ (w'.cell? ⟨w.heap.size + 1, 0, none⟩ = some (.int .i64 K) ∧ w'.cell? ⟨w.heap.size + 1, 1, none⟩ = some (.int .i64 A) ∧ w'.cell? ⟨w.heap.size + 1, 2, none⟩ = some (.string T) ∧ w'.cell? ⟨w.heap.size + 1, 3, none⟩ = some (.slice av ks.length cv))) (by kernel_rfl) (⟨((A14.out.step (Below.refl _ _).drew).atBox 8 rfl).c3, ((A14.out.step (Below.refl _ _).drew).atBox 7 rfl).c4⟩) (fun hHeld => ?_)
    have G31_0 := hide (A14.out.step (Below.refl _ _).drew)
    clear A14
    generalize World.drew _ = u31_0 at *
    refine wpAnyH_take (i := 0) (v := ?v15) rfl (by kernel_rfl) (by kernel_rfl) (by kernel_rfl) (fun _ _ _ h => h) (Or.inl ⟨by rfl, ?hy15⟩) (by assumption) ?rest15
    case hy15 => (intro w' hSw; dsimp only [List.getElem_toArray, List.getElem_cons_zero, List.getElem_cons_succ] at hSw ⊢; go_simp; try (with_reducible rfl))
    try simp only [Act.put, List.getElem_toArray, List.getElem_cons_zero, List.getElem_cons_succ, List.setIfInBounds_toArray, List.set_cons_zero, List.set_cons_succ]
    refine wpAnyH_take (i := 2) (v := ?v16) rfl (by kernel_rfl) (by kernel_rfl) (by kernel_rfl) (fun _ _ _ h => h) (Or.inl ⟨by rfl, ?hy16⟩) (by assumption) ?rest16
    case hy16 => (intro w' hSw; dsimp only [List.getElem_toArray, List.getElem_cons_zero, List.getElem_cons_succ] at hSw ⊢; go_simp; try (with_reducible rfl))
    try simp only [Act.put, List.getElem_toArray, List.getElem_cons_zero, List.getElem_cons_succ, List.setIfInBounds_toArray, List.set_cons_zero, List.set_cons_succ]
    refine wpAnyH_ready (rs := [1, 8]) (by kernel_rfl) (by simp) ?_
    refine AllReadyH.cons rfl (fun KK hK => ?_) (AllReadyH.cons rfl (fun KK hK => ?_) (AllReadyH.nil))
    · dsimp only [List.getElem_toArray, List.getElem_cons_zero, List.getElem_cons_succ]
      go_simp
      refine (toDisk_calls p h b P H B _ (RP.out.below G31_0.out.below) (RH.out.below G31_0.out.below) (RB.out.below G31_0.out.below) SZ.out).mono ?_
      rintro e' u31_1 ⟨p2, h2, b2, rfl, d, q⟩
      obtain ⟨ap2, cp2, ah2, ch2, ab2, cb2, rfl, rfl, rfl⟩ := d.sl
      have G31_1 := hide (G31_0.out.add q (TDsk.st _ _ _ _ _ _) d)
      clear q d hHeld G31_0
      refine hK.out _ _ (⟨(G31_1.out.atBox 9 rfl).c3, (G31_1.out.atBox 8 rfl).c4⟩) (fun hHeld => ?_)
      clear hK KK
      try simp only [Act.put, List.getElem_toArray, List.getElem_cons_zero, List.getElem_cons_succ, List.setIfInBounds_toArray, List.set_cons_zero, List.set_cons_succ]
      refine wpAnyH_ready (rs := [3, 8]) (by kernel_rfl) (by simp) ?_
      refine AllReadyH.cons rfl (fun KK hK => ?_) (AllReadyH.cons rfl (fun KK hK => ?_) (AllReadyH.nil))
      · dsimp only [List.getElem_toArray, List.getElem_cons_zero, List.getElem_cons_succ]
        go_simp
        refine (toDiskStep_calls K A T _ ks _ (RV.out.below G31_1.out.below) hkl).mono ?_
        rintro e' u31_2 ⟨v3, rfl, o, q⟩
        obtain ⟨a3, c3, rfl⟩ := row_slice o
        have G31_2 := hide (G31_1.out.add q (TInts.st _ _) ⟨o, row_top o⟩)
        clear q o hHeld G31_1
        refine hK.out _ _ (⟨(G31_2.out.atBox 10 rfl).c3, (G31_2.out.atBox 9 rfl).c4⟩) (fun hHeld => ?_)
        clear hK KK
        try simp only [Act.put, List.getElem_toArray, List.getElem_cons_zero, List.getElem_cons_succ, List.setIfInBounds_toArray, List.set_cons_zero, List.set_cons_succ]
        refine wpAnyH_ready (rs := [4, 8]) (by kernel_rfl) (by simp) ?_
        refine AllReadyH.cons rfl (fun KK hK => ?_) (AllReadyH.cons rfl (fun KK hK => ?_) (AllReadyH.nil))
        · obtain ⟨lo1, hi1, e1⟩ := G31_2.out.get 1 rfl
          have E1 : Hid (DskV _ lo1 hi1 _ _ _ P H B) := e1
          obtain ⟨lo2, hi2, e2⟩ := G31_2.out.get 0 rfl
          have E2 : Hid (Own _ lo2 _ ks) := e2.1
          clear e1 e2
          dsimp only [List.getElem_toArray, List.getElem_cons_zero, List.getElem_cons_succ]
          go_simp
          refine (C2.out _ _ _ _ _ E1.out.rp E1.out.rh E1.out.rb E2.out.rd).mono ?_
          rintro e' u31_3 ⟨p4, h4, b4, rfl, d, q⟩
          obtain ⟨ap4, cp4, ah4, ch4, ab4, cb4, rfl, rfl, rfl⟩ := d.sl
          have G31_3 := hide (G31_2.out.add q (TDsk.st _ _ _ _ _ _) d)
          clear q d E1 E2 lo1 hi1 lo2 hi2 hHeld G31_2
          refine hK.out _ _ (⟨(G31_3.out.atBox 11 rfl).c3, (G31_3.out.atBox 10 rfl).c4⟩) (fun hHeld => ?_)
          clear hK KK
          try simp only [Act.put, List.getElem_toArray, List.getElem_cons_zero, List.getElem_cons_succ, List.setIfInBounds_toArray, List.set_cons_zero, List.set_cons_succ]
          refine wpAnyH_take (i := 5) (v := ?v17) rfl (by kernel_rfl) (by kernel_rfl) (by kernel_rfl) (fun _ _ _ h => h) (Or.inl ⟨by rfl, ?hy17⟩) (by assumption) ?rest17
          case hy17 => (intro w' hSw; dsimp only [List.getElem_toArray, List.getElem_cons_zero, List.getElem_cons_succ] at hSw ⊢; go_simp; try (with_reducible rfl))
          try simp only [Act.put, List.getElem_toArray, List.getElem_cons_zero, List.getElem_cons_succ, List.setIfInBounds_toArray, List.set_cons_zero, List.set_cons_succ]
          refine wpAnyH_take (i := 6) (v := ?v18) rfl (by kernel_rfl) (by kernel_rfl) (by kernel_rfl) (fun _ _ _ h => h) (Or.inl ⟨by rfl, ?hy18⟩) (by assumption) ?rest18
          case hy18 => (intro w' hSw; dsimp only [List.getElem_toArray, List.getElem_cons_zero, List.getElem_cons_succ] at hSw ⊢; go_simp; try (with_reducible rfl))
          try simp only [Act.put, List.getElem_toArray, List.getElem_cons_zero, List.getElem_cons_succ, List.setIfInBounds_toArray, List.set_cons_zero, List.set_cons_succ]
          refine wpAnyH_take (i := 7) (v := ?v19) rfl (by kernel_rfl) (by kernel_rfl) (by kernel_rfl) (fun _ _ _ h => h) (Or.inl ⟨by rfl, ?hy19⟩) (by assumption) ?rest19
          case hy19 => (intro w' hSw; dsimp only [List.getElem_toArray, List.getElem_cons_zero, List.getElem_cons_succ] at hSw ⊢; go_simp; try (with_reducible rfl))
          try simp only [Act.put, List.getElem_toArray, List.getElem_cons_zero, List.getElem_cons_succ, List.setIfInBounds_toArray, List.set_cons_zero, List.set_cons_succ]
          refine wpAnyH_ready (rs := [8]) (by kernel_rfl) (by simp) ?_
          refine AllReadyH.cons rfl (fun KK hK => ?_) (AllReadyH.nil)
          dsimp only [List.getElem_toArray, List.getElem_cons_zero, List.getElem_cons_succ]
          go_simp
          have G31_4 := hide (G31_3.out.box #[.slice none 0 0, .slice none 0 0, .slice none 0 0] 25)
          obtain ⟨g6, hg6⟩ : ∃ g6, g6 = u31_3.heap.size := ⟨_, rfl⟩
          rw [← hg6] at G31_4 ⊢
          clear hg6
          generalize u31_3.alloc (.cells #[.slice none 0 0, .slice none 0 0, .slice none 0 0] 25) = u31_4 at G31_4 ⊢
          clear hHeld G31_3
          refine hK.out _ _ (⟨(G31_4.out.atBox 12 rfl).c3, (G31_4.out.atBox 11 rfl).c4⟩) (fun hHeld => ?_)
          clear hK KK
          try simp only [Act.put, List.getElem_toArray, List.getElem_cons_zero, List.getElem_cons_succ, List.setIfInBounds_toArray, List.set_cons_zero, List.set_cons_succ]
          refine wpAnyH_ready (rs := [9]) (by kernel_rfl) (by simp) ?_
          refine AllReadyH.cons rfl (fun KK hK => ?_) AllReadyH.nil
          have xr := G31_4.out.atBox 0 rfl
          obtain ⟨d0, d1, d2⟩ := xr.c3
          have g0 := xr.frozen 0
          have g1 := xr.frozen 1
          have g2 := xr.frozen 2
          have G31_5 := hide (G31_4.out.store3 0 rfl (.slice ap4 X.length cp4) (.slice ah4 Y.length ch4) (.slice ab4 Z.length cb4))
          dsimp only [List.getElem_toArray, List.getElem_cons_zero, List.getElem_cons_succ]
          go_simp
          clear xr d0 d1 d2 g0 g1 g2 hHeld G31_4
          refine hK.out _ _ (⟨(G31_5.out.atBox 12 rfl).c3, (G31_5.out.atBox 11 rfl).c4⟩) (fun hHeld => ?_)
          clear hK KK
          try simp only [Act.put, List.getElem_toArray, List.getElem_cons_zero, List.getElem_cons_succ, List.setIfInBounds_toArray, List.set_cons_zero, List.set_cons_succ]
          refine wpAnyH_ready (rs := [10]) (by kernel_rfl) (by simp) ?_
          refine AllReadyH.cons rfl (fun KK hK => ?_) AllReadyH.nil
          dsimp only [List.getElem_toArray, List.getElem_cons_zero, List.getElem_cons_succ]
          go_simp
          refine hK.out _ _ (⟨(G31_5.out.atBox 12 rfl).c3, (G31_5.out.atBox 11 rfl).c4⟩) (fun hHeld => ?_)
          clear hK KK
          try simp only [Act.put, List.getElem_toArray, List.getElem_cons_zero, List.getElem_cons_succ, List.setIfInBounds_toArray, List.set_cons_zero, List.set_cons_succ]
          refine wpAnyH_done (by kernel_rfl) ?_ _
          refine NoPanic.normal ?_
          clear hHeld
          go_wp2_with fail
          go_meet
          exact ⟨_, _, _, _, _, _, _, rfl, rfl, Hand.join4 G31_5.out (TBox.wd _ _ _) (TDsk.wd _ _ _ _ _ _) (TInts.wd _ _) (TDsk.wd _ _ _ _ _ _) (TVar.st _ _ _ _ _ _ _) (fun lo hi w' z0 z1 z2 z3 => ⟨z0, z1⟩)⟩
        · dsimp only [List.getElem_toArray, List.getElem_cons_zero, List.getElem_cons_succ]
          go_simp
          have G31_6 := hide (G31_2.out.box #[.slice none 0 0, .slice none 0 0, .slice none 0 0] 25)
          obtain ⟨g6, hg6⟩ : ∃ g6, g6 = u31_2.heap.size := ⟨_, rfl⟩
          rw [← hg6] at G31_6 ⊢
          clear hg6
          generalize u31_2.alloc (.cells #[.slice none 0 0, .slice none 0 0, .slice none 0 0] 25) = u31_6 at G31_6 ⊢
          clear hHeld G31_2
          refine hK.out _ _ (⟨(G31_6.out.atBox 11 rfl).c3, (G31_6.out.atBox 10 rfl).c4⟩) (fun hHeld => ?_)
          clear hK KK
          try simp only [Act.put, List.getElem_toArray, List.getElem_cons_zero, List.getElem_cons_succ, List.setIfInBounds_toArray, List.set_cons_zero, List.set_cons_succ]
          refine wpAnyH_ready (rs := [4]) (by kernel_rfl) (by simp) ?_
          refine AllReadyH.cons rfl (fun KK hK => ?_) (AllReadyH.nil)
          obtain ⟨lo1, hi1, e1⟩ := G31_6.out.get 2 rfl
          have E1 : Hid (DskV _ lo1 hi1 _ _ _ P H B) := e1
          obtain ⟨lo2, hi2, e2⟩ := G31_6.out.get 1 rfl
          have E2 : Hid (Own _ lo2 _ ks) := e2.1
          clear e1 e2
          dsimp only [List.getElem_toArray, List.getElem_cons_zero, List.getElem_cons_succ]
          go_simp
          refine (C2.out _ _ _ _ _ E1.out.rp E1.out.rh E1.out.rb E2.out.rd).mono ?_
          rintro e' u31_7 ⟨p4, h4, b4, rfl, d, q⟩
          obtain ⟨ap4, cp4, ah4, ch4, ab4, cb4, rfl, rfl, rfl⟩ := d.sl
          have G31_7 := hide (G31_6.out.add q (TDsk.st _ _ _ _ _ _) d)
          clear q d E1 E2 lo1 hi1 lo2 hi2 hHeld G31_6
          refine hK.out _ _ (⟨(G31_7.out.atBox 12 rfl).c3, (G31_7.out.atBox 11 rfl).c4⟩) (fun hHeld => ?_)
          clear hK KK
          try simp only [Act.put, List.getElem_toArray, List.getElem_cons_zero, List.getElem_cons_succ, List.setIfInBounds_toArray, List.set_cons_zero, List.set_cons_succ]
          refine wpAnyH_take (i := 5) (v := ?v20) rfl (by kernel_rfl) (by kernel_rfl) (by kernel_rfl) (fun _ _ _ h => h) (Or.inl ⟨by rfl, ?hy20⟩) (by assumption) ?rest20
          case hy20 => (intro w' hSw; dsimp only [List.getElem_toArray, List.getElem_cons_zero, List.getElem_cons_succ] at hSw ⊢; go_simp; try (with_reducible rfl))
          try simp only [Act.put, List.getElem_toArray, List.getElem_cons_zero, List.getElem_cons_succ, List.setIfInBounds_toArray, List.set_cons_zero, List.set_cons_succ]
          refine wpAnyH_take (i := 6) (v := ?v21) rfl (by kernel_rfl) (by kernel_rfl) (by kernel_rfl) (fun _ _ _ h => h) (Or.inl ⟨by rfl, ?hy21⟩) (by assumption) ?rest21
          case hy21 => (intro w' hSw; dsimp only [List.getElem_toArray, List.getElem_cons_zero, List.getElem_cons_succ] at hSw ⊢; go_simp; try (with_reducible rfl))
          try simp only [Act.put, List.getElem_toArray, List.getElem_cons_zero, List.getElem_cons_succ, List.setIfInBounds_toArray, List.set_cons_zero, List.set_cons_succ]
          refine wpAnyH_take (i := 7) (v := ?v22) rfl (by kernel_rfl) (by kernel_rfl) (by kernel_rfl) (fun _ _ _ h => h) (Or.inl ⟨by rfl, ?hy22⟩) (by assumption) ?rest22
          case hy22 => (intro w' hSw; dsimp only [List.getElem_toArray, List.getElem_cons_zero, List.getElem_cons_succ] at hSw ⊢; go_simp; try (with_reducible rfl))
          try simp only [Act.put, List.getElem_toArray, List.getElem_cons_zero, List.getElem_cons_succ, List.setIfInBounds_toArray, List.set_cons_zero, List.set_cons_succ]
          refine wpAnyH_ready (rs := [9]) (by kernel_rfl) (by simp) ?_
          refine AllReadyH.cons rfl (fun KK hK => ?_) AllReadyH.nil
          have xr := G31_7.out.atBox 1 rfl
          obtain ⟨d0, d1, d2⟩ := xr.c3
          have g0 := xr.frozen 0
          have g1 := xr.frozen 1
          have g2 := xr.frozen 2
          have G31_8 := hide (G31_7.out.store3 1 rfl (.slice ap4 X.length cp4) (.slice ah4 Y.length ch4) (.slice ab4 Z.length cb4))
          dsimp only [List.getElem_toArray, List.getElem_cons_zero, List.getElem_cons_succ]
          go_simp
          clear xr d0 d1 d2 g0 g1 g2 hHeld G31_7
          refine hK.out _ _ (⟨(G31_8.out.atBox 12 rfl).c3, (G31_8.out.atBox 11 rfl).c4⟩) (fun hHeld => ?_)
          clear hK KK
          try simp only [Act.put, List.getElem_toArray, List.getElem_cons_zero, List.getElem_cons_succ, List.setIfInBounds_toArray, List.set_cons_zero, List.set_cons_succ]
          refine wpAnyH_ready (rs := [10]) (by kernel_rfl) (by simp) ?_
          refine AllReadyH.cons rfl (fun KK hK => ?_) AllReadyH.nil
          dsimp only [List.getElem_toArray, List.getElem_cons_zero, List.getElem_cons_succ]
          go_simp
          refine hK.out _ _ (⟨(G31_8.out.atBox 12 rfl).c3, (G31_8.out.atBox 11 rfl).c4⟩) (fun hHeld => ?_)
          clear hK KK
          try simp only [Act.put, List.getElem_toArray, List.getElem_cons_zero, List.getElem_cons_succ, List.setIfInBounds_toArray, List.set_cons_zero, List.set_cons_succ]
          refine wpAnyH_done (by kernel_rfl) ?_ _
          refine NoPanic.normal ?_
          clear hHeld
          go_wp2_with fail
          go_meet
          exact ⟨_, _, _, _, _, _, _, rfl, rfl, Hand.join4 G31_8.out (TDsk.wd _ _ _ _ _ _) (TBox.wd _ _ _) (TInts.wd _ _) (TDsk.wd _ _ _ _ _ _) (TVar.st _ _ _ _ _ _ _) (fun lo hi w' z0 z1 z2 z3 => ⟨z1, z0⟩)⟩
      · dsimp only [List.getElem_toArray, List.getElem_cons_zero, List.getElem_cons_succ]
        go_simp
        have G31_9 := hide (G31_1.out.box #[.slice none 0 0, .slice none 0 0, .slice none 0 0] 25)
        obtain ⟨g6, hg6⟩ : ∃ g6, g6 = u31_1.heap.size := ⟨_, rfl⟩
        rw [← hg6] at G31_9 ⊢
        clear hg6
        generalize u31_1.alloc (.cells #[.slice none 0 0, .slice none 0 0, .slice none 0 0] 25) = u31_9 at G31_9 ⊢
        clear hHeld G31_1
        refine hK.out _ _ (⟨(G31_9.out.atBox 10 rfl).c3, (G31_9.out.atBox 9 rfl).c4⟩) (fun hHeld => ?_)
        clear hK KK
        try simp only [Act.put, List.getElem_toArray, List.getElem_cons_zero, List.getElem_cons_succ, List.setIfInBounds_toArray, List.set_cons_zero, List.set_cons_succ]
        refine wpAnyH_ready (rs := [3]) (by kernel_rfl) (by simp) ?_
        refine AllReadyH.cons rfl (fun KK hK => ?_) (AllReadyH.nil)
        dsimp only [List.getElem_toArray, List.getElem_cons_zero, List.getElem_cons_succ]
        go_simp
        refine (toDiskStep_calls K A T _ ks _ (RV.out.below G31_9.out.below) hkl).mono ?_
        rintro e' u31_10 ⟨v3, rfl, o, q⟩
        obtain ⟨a3, c3, rfl⟩ := row_slice o
        have G31_10 := hide (G31_9.out.add q (TInts.st _ _) ⟨o, row_top o⟩)
        clear q o hHeld G31_9
        refine hK.out _ _ (⟨(G31_10.out.atBox 11 rfl).c3, (G31_10.out.atBox 10 rfl).c4⟩) (fun hHeld => ?_)
        clear hK KK
        try simp only [Act.put, List.getElem_toArray, List.getElem_cons_zero, List.getElem_cons_succ, List.setIfInBounds_toArray, List.set_cons_zero, List.set_cons_succ]
        refine wpAnyH_ready (rs := [4]) (by kernel_rfl) (by simp) ?_
        refine AllReadyH.cons rfl (fun KK hK => ?_) (AllReadyH.nil)
        obtain ⟨lo1, hi1, e1⟩ := G31_10.out.get 2 rfl
        have E1 : Hid (DskV _ lo1 hi1 _ _ _ P H B) := e1
        obtain ⟨lo2, hi2, e2⟩ := G31_10.out.get 0 rfl
        have E2 : Hid (Own _ lo2 _ ks) := e2.1
        clear e1 e2
        dsimp only [List.getElem_toArray, List.getElem_cons_zero, List.getElem_cons_succ]
        go_simp
        refine (C2.out _ _ _ _ _ E1.out.rp E1.out.rh E1.out.rb E2.out.rd).mono ?_
        rintro e' u31_11 ⟨p4, h4, b4, rfl, d, q⟩
        obtain ⟨ap4, cp4, ah4, ch4, ab4, cb4, rfl, rfl, rfl⟩ := d.sl
        have G31_11 := hide (G31_10.out.add q (TDsk.st _ _ _ _ _ _) d)
        clear q d E1 E2 lo1 hi1 lo2 hi2 hHeld G31_10
        refine hK.out _ _ (⟨(G31_11.out.atBox 12 rfl).c3, (G31_11.out.atBox 11 rfl).c4⟩) (fun hHeld => ?_)
        clear hK KK
        try simp only [Act.put, List.getElem_toArray, List.getElem_cons_zero, List.getElem_cons_succ, List.setIfInBounds_toArray, List.set_cons_zero, List.set_cons_succ]
        refine wpAnyH_take (i := 5) (v := ?v23) rfl (by kernel_rfl) (by kernel_rfl) (by kernel_rfl) (fun _ _ _ h => h) (Or.inl ⟨by rfl, ?hy23⟩) (by assumption) ?rest23
        case hy23 => (intro w' hSw; dsimp only [List.getElem_toArray, List.getElem_cons_zero, List.getElem_cons_succ] at hSw ⊢; go_simp; try (with_reducible rfl))
        try simp only [Act.put, List.getElem_toArray, List.getElem_cons_zero, List.getElem_cons_succ, List.setIfInBounds_toArray, List.set_cons_zero, List.set_cons_succ]
        refine wpAnyH_take (i := 6) (v := ?v24) rfl (by kernel_rfl) (by kernel_rfl) (by kernel_rfl) (fun _ _ _ h => h) (Or.inl ⟨by rfl, ?hy24⟩) (by assumption) ?rest24
        case hy24 => (intro w' hSw; dsimp only [List.getElem_toArray, List.getElem_cons_zero, List.getElem_cons_succ] at hSw ⊢; go_simp; try (with_reducible rfl))
        try simp only [Act.put, List.getElem_toArray, List.getElem_cons_zero, List.getElem_cons_succ, List.setIfInBounds_toArray, List.set_cons_zero, List.set_cons_succ]
        refine wpAnyH_take (i := 7) (v := ?v25) rfl (by kernel_rfl) (by kernel_rfl) (by kernel_rfl) (fun _ _ _ h => h) (Or.inl ⟨by rfl, ?hy25⟩) (by assumption) ?rest25
        case hy25 => (intro w' hSw; dsimp only [List.getElem_toArray, List.getElem_cons_zero, List.getElem_cons_succ] at hSw ⊢; go_simp; try (with_reducible rfl))
        try simp only [Act.put, List.getElem_toArray, List.getElem_cons_zero, List.getElem_cons_succ, List.setIfInBounds_toArray, List.set_cons_zero, List.set_cons_succ]
        refine wpAnyH_ready (rs := [9]) (by kernel_rfl) (by simp) ?_
        refine AllReadyH.cons rfl (fun KK hK => ?_) AllReadyH.nil
        have xr := G31_11.out.atBox 2 rfl
        obtain ⟨d0, d1, d2⟩ := xr.c3
        have g0 := xr.frozen 0
        have g1 := xr.frozen 1
        have g2 := xr.frozen 2
        have G31_12 := hide (G31_11.out.store3 2 rfl (.slice ap4 X.length cp4) (.slice ah4 Y.length ch4) (.slice ab4 Z.length cb4))
        dsimp only [List.getElem_toArray, List.getElem_cons_zero, List.getElem_cons_succ]
        go_simp
        clear xr d0 d1 d2 g0 g1 g2 hHeld G31_11
        refine hK.out _ _ (⟨(G31_12.out.atBox 12 rfl).c3, (G31_12.out.atBox 11 rfl).c4⟩) (fun hHeld => ?_)
        clear hK KK
        try simp only [Act.put, List.getElem_toArray, List.getElem_cons_zero, List.getElem_cons_succ, List.setIfInBounds_toArray, List.set_cons_zero, List.set_cons_succ]
        refine wpAnyH_ready (rs := [10]) (by kernel_rfl) (by simp) ?_
        refine AllReadyH.cons rfl (fun KK hK => ?_) AllReadyH.nil
        dsimp only [List.getElem_toArray, List.getElem_cons_zero, List.getElem_cons_succ]
        go_simp
        refine hK.out _ _ (⟨(G31_12.out.atBox 12 rfl).c3, (G31_12.out.atBox 11 rfl).c4⟩) (fun hHeld => ?_)
        clear hK KK
        try simp only [Act.put, List.getElem_toArray, List.getElem_cons_zero, List.getElem_cons_succ, List.setIfInBounds_toArray, List.set_cons_zero, List.set_cons_succ]
        refine wpAnyH_done (by kernel_rfl) ?_ _
        refine NoPanic.normal ?_
        clear hHeld
        go_wp2_with fail
        go_meet
        exact ⟨_, _, _, _, _, _, _, rfl, rfl, Hand.join4 G31_12.out (TDsk.wd _ _ _ _ _ _) (TInts.wd _ _) (TBox.wd _ _ _) (TDsk.wd _ _ _ _ _ _) (TVar.st _ _ _ _ _ _ _) (fun lo hi w' z0 z1 z2 z3 => ⟨z2, z0⟩)⟩
    · dsimp only [List.getElem_toArray, List.getElem_cons_zero, List.getElem_cons_succ]
      go_simp
      have G31_13 := hide (G31_0.out.box #[.slice none 0 0, .slice none 0 0, .slice none 0 0] 25)
      obtain ⟨g6, hg6⟩ : ∃ g6, g6 = u31_0.heap.size := ⟨_, rfl⟩
      rw [← hg6] at G31_13 ⊢
      clear hg6
      generalize u31_0.alloc (.cells #[.slice none 0 0, .slice none 0 0, .slice none 0 0] 25) = u31_13 at G31_13 ⊢
      clear hHeld G31_0
      refine hK.out _ _ (⟨(G31_13.out.atBox 9 rfl).c3, (G31_13.out.atBox 8 rfl).c4⟩) (fun hHeld => ?_)
      clear hK KK
      try simp only [Act.put, List.getElem_toArray, List.getElem_cons_zero, List.getElem_cons_succ, List.setIfInBounds_toArray, List.set_cons_zero, List.set_cons_succ]
      refine wpAnyH_ready (rs := [1]) (by kernel_rfl) (by simp) ?_
      refine AllReadyH.cons rfl (fun KK hK => ?_) (AllReadyH.nil)
      dsimp only [List.getElem_toArray, List.getElem_cons_zero, List.getElem_cons_succ]
      go_simp
      refine (toDisk_calls p h b P H B _ (RP.out.below G31_13.out.below) (RH.out.below G31_13.out.below) (RB.out.below G31_13.out.below) SZ.out).mono ?_
      rintro e' u31_14 ⟨p2, h2, b2, rfl, d, q⟩
      obtain ⟨ap2, cp2, ah2, ch2, ab2, cb2, rfl, rfl, rfl⟩ := d.sl
      have G31_14 := hide (G31_13.out.add q (TDsk.st _ _ _ _ _ _) d)
      clear q d hHeld G31_13
      refine hK.out _ _ (⟨(G31_14.out.atBox 10 rfl).c3, (G31_14.out.atBox 9 rfl).c4⟩) (fun hHeld => ?_)
      clear hK KK
      try simp only [Act.put, List.getElem_toArray, List.getElem_cons_zero, List.getElem_cons_succ, List.setIfInBounds_toArray, List.set_cons_zero, List.set_cons_succ]
      refine wpAnyH_ready (rs := [3]) (by kernel_rfl) (by simp) ?_
      refine AllReadyH.cons rfl (fun KK hK => ?_) (AllReadyH.nil)
      dsimp only [List.getElem_toArray, List.getElem_cons_zero, List.getElem_cons_succ]
      go_simp
      refine (toDiskStep_calls K A T _ ks _ (RV.out.below G31_14.out.below) hkl).mono ?_
      rintro e' u31_15 ⟨v3, rfl, o, q⟩
      obtain ⟨a3, c3, rfl⟩ := row_slice o
      have G31_15 := hide (G31_14.out.add q (TInts.st _ _) ⟨o, row_top o⟩)
      clear q o hHeld G31_14
      refine hK.out _ _ (⟨(G31_15.out.atBox 11 rfl).c3, (G31_15.out.atBox 10 rfl).c4⟩) (fun hHeld => ?_)
      clear hK KK
      try simp only [Act.put, List.getElem_toArray, List.getElem_cons_zero, List.getElem_cons_succ, List.setIfInBounds_toArray, List.set_cons_zero, List.set_cons_succ]
      refine wpAnyH_ready (rs := [4]) (by kernel_rfl) (by simp) ?_
      refine AllReadyH.cons rfl (fun KK hK => ?_) (AllReadyH.nil)
      obtain ⟨lo1, hi1, e1⟩ := G31_15.out.get 1 rfl
      have E1 : Hid (DskV _ lo1 hi1 _ _ _ P H B) := e1
      obtain ⟨lo2, hi2, e2⟩ := G31_15.out.get 0 rfl
      have E2 : Hid (Own _ lo2 _ ks) := e2.1
      clear e1 e2
      dsimp only [List.getElem_toArray, List.getElem_cons_zero, List.getElem_cons_succ]
      go_simp
      refine (C2.out _ _ _ _ _ E1.out.rp E1.out.rh E1.out.rb E2.out.rd).mono ?_
      rintro e' u31_16 ⟨p4, h4, b4, rfl, d, q⟩
      obtain ⟨ap4, cp4, ah4, ch4, ab4, cb4, rfl, rfl, rfl⟩ := d.sl
      have G31_16 := hide (G31_15.out.add q (TDsk.st _ _ _ _ _ _) d)
      clear q d E1 E2 lo1 hi1 lo2 hi2 hHeld G31_15
      refine hK.out _ _ (⟨(G31_16.out.atBox 12 rfl).c3, (G31_16.out.atBox 11 rfl).c4⟩) (fun hHeld => ?_)
      clear hK KK
      try simp only [Act.put, List.getElem_toArray, List.getElem_cons_zero, List.getElem_cons_succ, List.setIfInBounds_toArray, List.set_cons_zero, List.set_cons_succ]
      refine wpAnyH_take (i := 5) (v := ?v26) rfl (by kernel_rfl) (by kernel_rfl) (by kernel_rfl) (fun _ _ _ h => h) (Or.inl ⟨by rfl, ?hy26⟩) (by assumption) ?rest26
      case hy26 => (intro w' hSw; dsimp only [List.getElem_toArray, List.getElem_cons_zero, List.getElem_cons_succ] at hSw ⊢; go_simp; try (with_reducible rfl))
      try simp only [Act.put, List.getElem_toArray, List.getElem_cons_zero, List.getElem_cons_succ, List.setIfInBounds_toArray, List.set_cons_zero, List.set_cons_succ]
      refine wpAnyH_take (i := 6) (v := ?v27) rfl (by kernel_rfl) (by kernel_rfl) (by kernel_rfl) (fun _ _ _ h => h) (Or.inl ⟨by rfl, ?hy27⟩) (by assumption) ?rest27
      case hy27 => (intro w' hSw; dsimp only [List.getElem_toArray, List.getElem_cons_zero, List.getElem_cons_succ] at hSw ⊢; go_simp; try (with_reducible rfl))
      try simp only [Act.put, List.getElem_toArray, List.getElem_cons_zero, List.getElem_cons_succ, List.setIfInBounds_toArray, List.set_cons_zero, List.set_cons_succ]
      refine wpAnyH_take (i := 7) (v := ?v28) rfl (by kernel_rfl) (by kernel_rfl) (by kernel_rfl) (fun _ _ _ h => h) (Or.inl ⟨by rfl, ?hy28⟩) (by assumption) ?rest28
      case hy28 => (intro w' hSw; dsimp only [List.getElem_toArray, List.getElem_cons_zero, List.getElem_cons_succ] at hSw ⊢; go_simp; try (with_reducible rfl))
      try simp only [Act.put, List.getElem_toArray, List.getElem_cons_zero, List.getElem_cons_succ, List.setIfInBounds_toArray, List.set_cons_zero, List.set_cons_succ]
      refine wpAnyH_ready (rs := [9]) (by kernel_rfl) (by simp) ?_
      refine AllReadyH.cons rfl (fun KK hK => ?_) AllReadyH.nil
      have xr := G31_16.out.atBox 3 rfl
      obtain ⟨d0, d1, d2⟩ := xr.c3
      have g0 := xr.frozen 0
      have g1 := xr.frozen 1
      have g2 := xr.frozen 2
      have G31_17 := hide (G31_16.out.store3 3 rfl (.slice ap4 X.length cp4) (.slice ah4 Y.length ch4) (.slice ab4 Z.length cb4))
      dsimp only [List.getElem_toArray, List.getElem_cons_zero, List.getElem_cons_succ]
      go_simp
      clear xr d0 d1 d2 g0 g1 g2 hHeld G31_16
      refine hK.out _ _ (⟨(G31_17.out.atBox 12 rfl).c3, (G31_17.out.atBox 11 rfl).c4⟩) (fun hHeld => ?_)
      clear hK KK
      try simp only [Act.put, List.getElem_toArray, List.getElem_cons_zero, List.getElem_cons_succ, List.setIfInBounds_toArray, List.set_cons_zero, List.set_cons_succ]
      refine wpAnyH_ready (rs := [10]) (by kernel_rfl) (by simp) ?_
      refine AllReadyH.cons rfl (fun KK hK => ?_) AllReadyH.nil
      dsimp only [List.getElem_toArray, List.getElem_cons_zero, List.getElem_cons_succ]
      go_simp
      refine hK.out _ _ (⟨(G31_17.out.atBox 12 rfl).c3, (G31_17.out.atBox 11 rfl).c4⟩) (fun hHeld => ?_)
      clear hK KK
      try simp only [Act.put, List.getElem_toArray, List.getElem_cons_zero, List.getElem_cons_succ, List.setIfInBounds_toArray, List.set_cons_zero, List.set_cons_succ]
      refine wpAnyH_done (by kernel_rfl) ?_ _
      refine NoPanic.normal ?_
      clear hHeld
      go_wp2_with fail
      go_meet
      exact ⟨_, _, _, _, _, _, _, rfl, rfl, Hand.join4 G31_17.out (TDsk.wd _ _ _ _ _ _) (TInts.wd _ _) (TDsk.wd _ _ _ _ _ _) (TBox.wd _ _ _) (TVar.st _ _ _ _ _ _ _) (fun lo hi w' z0 z1 z2 z3 => ⟨z3, z0⟩)⟩
  case rest =>
  obtain ⟨gh0, aph0, cph0, ahh0, chh0, abh0, cbh0, rfl, rfl, hhh0⟩ := hcut
  have A15 := hide hhh0
  clear hhh0 A14
  generalize wc = w15 at *
  obtain ⟨ch00, ch01, ch02⟩ := (A15.out.var 0 rfl).1.c3
  obtain ⟨cw00, cw01, cw02⟩ := (A15.out.var 7 rfl).1.c3
  obtain ⟨loh0, hih0, dh0⟩ := (A15.out.var 0 rfl).2
  have Dh0 : Hid (DskV _ loh0 hih0 _ _ _ X Y Z) := dh0
  clear dh0
  obtain ⟨low0, hiw0, dw0⟩ := (A15.out.var 7 rfl).2
  have Dw0 : Hid (DskV _ low0 hiw0 _ _ _ X Y Z) := dw0
  clear dw0
  go_wp2_with fail
  refine (eqDisk_same _ _ _ _ _ _ X Y Z _ Dh0.out.rp Dh0.out.rh Dh0.out.rb Dw0.out.rp Dw0.out.rh Dw0.out.rb).mono ?_
  rintro e w16 ⟨rfl, q⟩
  have A16 := hide (A15.out.step q)
  clear A15 ch00 ch01 ch02 cw00 cw01 cw02 Dh0 loh0 hih0 Dw0 low0 hiw0 q
  obtain ⟨cg00, cg01, cg02⟩ := (A16.out.atBox 1 rfl).c3
  obtain ⟨lou, hiu, du⟩ := A16.out.get 2 rfl
  have Du : Hid (DskV _ lou hiu _ _ _ (marksT 1 X.length) (marksT (1 + X.length) Y.length) (marksZ ((1 + X.length + Y.length : Nat) : Int) Z.length)) := du
  clear du
  go_wp2_with fail
  refine (heldDisk_calls _ _ _ X.length Y.length Z.length 1 _ Du.out.rp Du.out.rh Du.out.rb (by omega) (by omega) SX.out.1 SX.out.2.1 SX.out.2.2).mono ?_
  rintro e w17 ⟨rfl, q⟩
  have A17 := hide (A16.out.step q)
  clear A16 cg00 cg01 cg02 Du lou hiu q
  go_wp2
  go_ret
  exact ⟨rfl, A17.out.below⟩
end Go.Proofs.Ytnjpkfgljabdaaa

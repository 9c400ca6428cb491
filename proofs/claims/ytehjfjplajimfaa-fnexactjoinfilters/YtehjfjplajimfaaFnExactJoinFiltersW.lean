/-
  The law that holds the program's JoinFilters against its model's: at every two filters the call returns true, and nothing that was there is written. No condition.
-/
import Derived.Test.YtehjfjplajimfaaFll
import Derived.Test.YtehjfjplajimfaaFlf
import Derived.Test.YtehjfjplajimfaaFlh
namespace Go.Proofs.Ytehjfjplajimfaa
open Go.RowKit
set_option linter.unusedVariables false
set_option linter.unusedSimpArgs false

set_option maxRecDepth 100000 in
set_option maxHeartbeats 6400000 in
theorem fnExactJoinFilters_walk (f f' : Value) (fs gs : List Bool) (w : World) (hf : RdZ w f fs) (hg : RdZ w f' gs) :
    Calls Try.prog 10 #[.agg #[f], .agg #[f']] w fun e w' => e = .returned (.bool true) ∧ Below w.heap.size w w' := by
  have RF := hide hf
  have RG := hide hg
  clear hf hg
  obtain ⟨ok, hok⟩ := bol_ex (fs.length = 64 ∧ gs.length = 64)
  obtain ⟨X, hX⟩ : ∃ X, X = gX ok (orB fs gs 64) := ⟨_, rfl⟩
  have C1 := hide (fun V p q h1 h2 => sJoinFilters_calls p q fs gs ok V h1 h2 hok)
  have C2 := hide (fun V p q h1 h2 => joinFilters_calls p q fs gs ok V h1 h2 hok)
  rw [← hX] at C1 C2
  have XL : X.length ≤ 1048576 := by
    rw [hX]
    cases ok with
    | false => rw [gX_false]; exact Nat.zero_le _
    | true => rw [gX_true, orB_len]; have := (hok.1 rfl).1; omega
  clear hX hok
  have A0 := hide (Hand.twoN w #[f] #[f'] 51 51)
  go_enter Try.func10, Try.ntmps10
  go_wp2_with fail
  refine (szFilter_calls f fs 1048576 _ (RF.out.below A0.out.below) (by omega) (by omega)).mono ?_
  rintro e w1 ⟨⟨r1, rfl, hr⟩, q⟩
  have A1 := hide (A0.out.step q)
  clear A0 q
  by_cases r0 : r1 < 0
  · go_wp2
    go_ret
    exact ⟨rfl, A1.out.below⟩
  have SZ := hide (hr.resolve_left r0).2.2
  have q1 := (hr.resolve_left r0).1
  have q2 := (hr.resolve_left r0).2.1
  clear hr
  have caB0 := (A1.out.atBox 0 rfl).c1
  go_wp2_with fail
  refine (szFilter_calls f' gs r1 _ (RG.out.below A1.out.below) q1 q2).mono ?_
  rintro e w2 ⟨⟨r2, rfl, hr⟩, q⟩
  have A2 := hide (A1.out.step q)
  clear A1 caB0 q q1 q2 r0
  by_cases r0 : r2 < 0
  · go_wp2
    go_ret
    exact ⟨rfl, A2.out.below⟩
  have SY := hide (hr.resolve_left r0).2.2
  clear hr
  go_upto_region 8 with fail
  go_cut [6, 7] (fun s1 s2 wx => ∃ g av cv, s1 = .pointer (some ⟨g, 0, none⟩) ∧ s2 = .bool ok ∧ Hand w wx (TVaF g (.slice av X.length cv) X :: [TBox (w.heap.size + 1) #[f'] 51, TBox w.heap.size #[f] 51]))
  case first =>
    refine wp_region_noPanic ?_
    refine wp_region_held_drew (S := fun w' => w'.cell? ⟨w.heap.size, 0, none⟩ = some f ∧ w'.cell? ⟨w.heap.size + 1, 0, none⟩ = some f') (by kernel_rfl) (⟨((A2.out.step (Below.refl _ _).drew).atBox 1 rfl).c1, ((A2.out.step (Below.refl _ _).drew).atBox 0 rfl).c1⟩) (fun hHeld => ?_)
    have G8_0 := hide (A2.out.step (Below.refl _ _).drew)
    clear A2
    generalize World.drew _ = u8_0 at *
    refine wpAnyH_take (i := 0) (v := ?v1) rfl (by kernel_rfl) (by kernel_rfl) (by kernel_rfl) (fun _ _ _ h => h) (Or.inl ⟨by rfl, ?hy1⟩) (by assumption) ?rest1
    case hy1 => (intro w' hSw; dsimp only [List.getElem_toArray, List.getElem_cons_zero, List.getElem_cons_succ] at hSw ⊢; go_simp; try (with_reducible rfl))
    try simp only [Act.put, List.getElem_toArray, List.getElem_cons_zero, List.getElem_cons_succ, List.setIfInBounds_toArray, List.set_cons_zero, List.set_cons_succ]
    refine wpAnyH_take (i := 2) (v := ?v2) rfl (by kernel_rfl) (by kernel_rfl) (by kernel_rfl) (fun _ _ _ h => h) (Or.inl ⟨by rfl, ?hy2⟩) (by assumption) ?rest2
    case hy2 => (intro w' hSw; dsimp only [List.getElem_toArray, List.getElem_cons_zero, List.getElem_cons_succ] at hSw ⊢; go_simp; try (with_reducible rfl))
    try simp only [Act.put, List.getElem_toArray, List.getElem_cons_zero, List.getElem_cons_succ, List.setIfInBounds_toArray, List.set_cons_zero, List.set_cons_succ]
    refine wpAnyH_ready (rs := [1, 8]) (by kernel_rfl) (by simp) ?_
    refine AllReadyH.cons rfl (fun KK hK => ?_) (AllReadyH.cons rfl (fun KK hK => ?_) (AllReadyH.nil))
    · dsimp only [List.getElem_toArray, List.getElem_cons_zero, List.getElem_cons_succ]
      go_simp
      refine (toFilter_calls f fs _ (RF.out.below G8_0.out.below) SZ.out).mono ?_
      rintro e' u8_1 ⟨v2, rfl, o, q⟩
      obtain ⟨a2, c2, rfl⟩ := row_slice o
      have G8_1 := hide (G8_0.out.add q (TBols.st _ _) ⟨o, row_top o⟩)
      clear q o hHeld G8_0
      refine hK.out _ _ (⟨(G8_1.out.atBox 2 rfl).c1, (G8_1.out.atBox 1 rfl).c1⟩) (fun hHeld => ?_)
      clear hK KK
      try simp only [Act.put, List.getElem_toArray, List.getElem_cons_zero, List.getElem_cons_succ, List.setIfInBounds_toArray, List.set_cons_zero, List.set_cons_succ]
      refine wpAnyH_ready (rs := [3, 8]) (by kernel_rfl) (by simp) ?_
      refine AllReadyH.cons rfl (fun KK hK => ?_) (AllReadyH.cons rfl (fun KK hK => ?_) (AllReadyH.nil))
      · dsimp only [List.getElem_toArray, List.getElem_cons_zero, List.getElem_cons_succ]
        go_simp
        refine (toFilter_calls f' gs _ (RG.out.below G8_1.out.below) SY.out).mono ?_
        rintro e' u8_2 ⟨v4, rfl, o, q⟩
        obtain ⟨a4, c4, rfl⟩ := row_slice o
        have G8_2 := hide (G8_1.out.add q (TBols.st _ _) ⟨o, row_top o⟩)
        clear q o hHeld G8_1
        refine hK.out _ _ (⟨(G8_2.out.atBox 3 rfl).c1, (G8_2.out.atBox 2 rfl).c1⟩) (fun hHeld => ?_)
        clear hK KK
        try simp only [Act.put, List.getElem_toArray, List.getElem_cons_zero, List.getElem_cons_succ, List.setIfInBounds_toArray, List.set_cons_zero, List.set_cons_succ]
        refine wpAnyH_ready (rs := [4, 8]) (by kernel_rfl) (by simp) ?_
        refine AllReadyH.cons rfl (fun KK hK => ?_) (AllReadyH.cons rfl (fun KK hK => ?_) (AllReadyH.nil))
        · obtain ⟨lo1, hi1, e1⟩ := G8_2.out.get 1 rfl
          have E1 := hide (OwnZ.rd e1.1)
          obtain ⟨lo2, hi2, e2⟩ := G8_2.out.get 0 rfl
          have E2 := hide (OwnZ.rd e2.1)
          clear e1 e2
          dsimp only [List.getElem_toArray, List.getElem_cons_zero, List.getElem_cons_succ]
          go_simp
          refine (C1.out _ _ _ E1.out E2.out).mono ?_
          rintro e' u8_3 ⟨v5, rfl, o, q⟩
          obtain ⟨a5, c5, rfl⟩ := row_slice o
          have G8_3 := hide (G8_2.out.add q (TBols.st _ _) ⟨o, row_top o⟩)
          clear q o E1 E2 lo1 hi1 lo2 hi2 hHeld G8_2
          refine hK.out _ _ (⟨(G8_3.out.atBox 4 rfl).c1, (G8_3.out.atBox 3 rfl).c1⟩) (fun hHeld => ?_)
          clear hK KK
          try simp only [Act.put, List.getElem_toArray, List.getElem_cons_zero, List.getElem_cons_succ, List.setIfInBounds_toArray, List.set_cons_zero, List.set_cons_succ]
          refine wpAnyH_take (i := 5) (v := ?v3) rfl (by kernel_rfl) (by kernel_rfl) (by kernel_rfl) (fun _ _ _ h => h) (Or.inl ⟨by rfl, ?hy3⟩) (by assumption) ?rest3
          case hy3 => (intro w' hSw; dsimp only [List.getElem_toArray, List.getElem_cons_zero, List.getElem_cons_succ] at hSw ⊢; go_simp; try (with_reducible rfl))
          try simp only [Act.put, List.getElem_toArray, List.getElem_cons_zero, List.getElem_cons_succ, List.setIfInBounds_toArray, List.set_cons_zero, List.set_cons_succ]
          refine wpAnyH_take (i := 6) (v := ?v4) rfl (by kernel_rfl) (by kernel_rfl) (by kernel_rfl) (fun _ _ _ h => h) (Or.inl ⟨by rfl, ?hy4⟩) (by assumption) ?rest4
          case hy4 => (intro w' hSw; dsimp only [List.getElem_toArray, List.getElem_cons_zero, List.getElem_cons_succ] at hSw ⊢; go_simp; try (with_reducible rfl))
          try simp only [Act.put, List.getElem_toArray, List.getElem_cons_zero, List.getElem_cons_succ, List.setIfInBounds_toArray, List.set_cons_zero, List.set_cons_succ]
          refine wpAnyH_take (i := 7) (v := ?v5) rfl (by kernel_rfl) (by kernel_rfl) (by kernel_rfl) (fun _ _ _ h => h) (Or.inl ⟨by rfl, ?hy5⟩) (by assumption) ?rest5
          case hy5 => (intro w' hSw; dsimp only [List.getElem_toArray, List.getElem_cons_zero, List.getElem_cons_succ] at hSw ⊢; go_simp; try (with_reducible rfl))
          try simp only [Act.put, List.getElem_toArray, List.getElem_cons_zero, List.getElem_cons_succ, List.setIfInBounds_toArray, List.set_cons_zero, List.set_cons_succ]
          refine wpAnyH_ready (rs := [8]) (by kernel_rfl) (by simp) ?_
          refine AllReadyH.cons rfl (fun KK hK => ?_) (AllReadyH.nil)
          dsimp only [List.getElem_toArray, List.getElem_cons_zero, List.getElem_cons_succ]
          go_simp
          have G8_4 := hide (G8_3.out.box #[.slice none 0 0] 46)
          obtain ⟨g6, hg6⟩ : ∃ g6, g6 = u8_3.heap.size := ⟨_, rfl⟩
          rw [← hg6] at G8_4 ⊢
          clear hg6
          generalize u8_3.alloc (.cells #[.slice none 0 0] 46) = u8_4 at G8_4 ⊢
          clear hHeld G8_3
          refine hK.out _ _ (⟨(G8_4.out.atBox 5 rfl).c1, (G8_4.out.atBox 4 rfl).c1⟩) (fun hHeld => ?_)
          clear hK KK
          try simp only [Act.put, List.getElem_toArray, List.getElem_cons_zero, List.getElem_cons_succ, List.setIfInBounds_toArray, List.set_cons_zero, List.set_cons_succ]
          refine wpAnyH_ready (rs := [9]) (by kernel_rfl) (by simp) ?_
          refine AllReadyH.cons rfl (fun KK hK => ?_) AllReadyH.nil
          have xr := G8_4.out.atBox 0 rfl
          have d0 := xr.c1
          have g0 := xr.frozen 0
          have G8_5 := hide (G8_4.out.setBoxT 0 rfl 0 (.slice a5 X.length c5))
          dsimp only [List.getElem_toArray, List.getElem_cons_zero, List.getElem_cons_succ]
          go_simp
          clear xr d0 g0 hHeld G8_4
          refine hK.out _ _ (⟨(G8_5.out.atBox 5 rfl).c1, (G8_5.out.atBox 4 rfl).c1⟩) (fun hHeld => ?_)
          clear hK KK
          try simp only [Act.put, List.getElem_toArray, List.getElem_cons_zero, List.getElem_cons_succ, List.setIfInBounds_toArray, List.set_cons_zero, List.set_cons_succ]
          refine wpAnyH_ready (rs := [10]) (by kernel_rfl) (by simp) ?_
          refine AllReadyH.cons rfl (fun KK hK => ?_) AllReadyH.nil
          dsimp only [List.getElem_toArray, List.getElem_cons_zero, List.getElem_cons_succ]
          go_simp
          refine hK.out _ _ (⟨(G8_5.out.atBox 5 rfl).c1, (G8_5.out.atBox 4 rfl).c1⟩) (fun hHeld => ?_)
          clear hK KK
          try simp only [Act.put, List.getElem_toArray, List.getElem_cons_zero, List.getElem_cons_succ, List.setIfInBounds_toArray, List.set_cons_zero, List.set_cons_succ]
          refine wpAnyH_done (by kernel_rfl) ?_ _
          refine NoPanic.normal ?_
          clear hHeld
          go_wp2_with fail
          go_meet
          exact ⟨_, _, _, rfl, rfl, Hand.joinF4 G8_5.out (TBox.wf _ _ _) (TBols.wf _ _) (TBols.wf _ _) (TBols.wf _ _) (TVaF.st _ _ _) (fun lo hi w' z0 z1 z2 z3 => ⟨z0, z1⟩)⟩
        · dsimp only [List.getElem_toArray, List.getElem_cons_zero, List.getElem_cons_succ]
          go_simp
          have G8_6 := hide (G8_2.out.box #[.slice none 0 0] 46)
          obtain ⟨g6, hg6⟩ : ∃ g6, g6 = u8_2.heap.size := ⟨_, rfl⟩
          rw [← hg6] at G8_6 ⊢
          clear hg6
          generalize u8_2.alloc (.cells #[.slice none 0 0] 46) = u8_6 at G8_6 ⊢
          clear hHeld G8_2
          refine hK.out _ _ (⟨(G8_6.out.atBox 4 rfl).c1, (G8_6.out.atBox 3 rfl).c1⟩) (fun hHeld => ?_)
          clear hK KK
          try simp only [Act.put, List.getElem_toArray, List.getElem_cons_zero, List.getElem_cons_succ, List.setIfInBounds_toArray, List.set_cons_zero, List.set_cons_succ]
          refine wpAnyH_ready (rs := [4]) (by kernel_rfl) (by simp) ?_
          refine AllReadyH.cons rfl (fun KK hK => ?_) (AllReadyH.nil)
          obtain ⟨lo1, hi1, e1⟩ := G8_6.out.get 2 rfl
          have E1 := hide (OwnZ.rd e1.1)
          obtain ⟨lo2, hi2, e2⟩ := G8_6.out.get 1 rfl
          have E2 := hide (OwnZ.rd e2.1)
          clear e1 e2
          dsimp only [List.getElem_toArray, List.getElem_cons_zero, List.getElem_cons_succ]
          go_simp
          refine (C1.out _ _ _ E1.out E2.out).mono ?_
          rintro e' u8_7 ⟨v5, rfl, o, q⟩
          obtain ⟨a5, c5, rfl⟩ := row_slice o
          have G8_7 := hide (G8_6.out.add q (TBols.st _ _) ⟨o, row_top o⟩)
          clear q o E1 E2 lo1 hi1 lo2 hi2 hHeld G8_6
          refine hK.out _ _ (⟨(G8_7.out.atBox 5 rfl).c1, (G8_7.out.atBox 4 rfl).c1⟩) (fun hHeld => ?_)
          clear hK KK
          try simp only [Act.put, List.getElem_toArray, List.getElem_cons_zero, List.getElem_cons_succ, List.setIfInBounds_toArray, List.set_cons_zero, List.set_cons_succ]
          refine wpAnyH_take (i := 5) (v := ?v6) rfl (by kernel_rfl) (by kernel_rfl) (by kernel_rfl) (fun _ _ _ h => h) (Or.inl ⟨by rfl, ?hy6⟩) (by assumption) ?rest6
          case hy6 => (intro w' hSw; dsimp only [List.getElem_toArray, List.getElem_cons_zero, List.getElem_cons_succ] at hSw ⊢; go_simp; try (with_reducible rfl))
          try simp only [Act.put, List.getElem_toArray, List.getElem_cons_zero, List.getElem_cons_succ, List.setIfInBounds_toArray, List.set_cons_zero, List.set_cons_succ]
          refine wpAnyH_take (i := 6) (v := ?v7) rfl (by kernel_rfl) (by kernel_rfl) (by kernel_rfl) (fun _ _ _ h => h) (Or.inl ⟨by rfl, ?hy7⟩) (by assumption) ?rest7
          case hy7 => (intro w' hSw; dsimp only [List.getElem_toArray, List.getElem_cons_zero, List.getElem_cons_succ] at hSw ⊢; go_simp; try (with_reducible rfl))
          try simp only [Act.put, List.getElem_toArray, List.getElem_cons_zero, List.getElem_cons_succ, List.setIfInBounds_toArray, List.set_cons_zero, List.set_cons_succ]
          refine wpAnyH_take (i := 7) (v := ?v8) rfl (by kernel_rfl) (by kernel_rfl) (by kernel_rfl) (fun _ _ _ h => h) (Or.inl ⟨by rfl, ?hy8⟩) (by assumption) ?rest8
          case hy8 => (intro w' hSw; dsimp only [List.getElem_toArray, List.getElem_cons_zero, List.getElem_cons_succ] at hSw ⊢; go_simp; try (with_reducible rfl))
          try simp only [Act.put, List.getElem_toArray, List.getElem_cons_zero, List.getElem_cons_succ, List.setIfInBounds_toArray, List.set_cons_zero, List.set_cons_succ]
          refine wpAnyH_ready (rs := [9]) (by kernel_rfl) (by simp) ?_
          refine AllReadyH.cons rfl (fun KK hK => ?_) AllReadyH.nil
          have xr := G8_7.out.atBox 1 rfl
          have d0 := xr.c1
          have g0 := xr.frozen 0
          have G8_8 := hide (G8_7.out.setBoxT 1 rfl 0 (.slice a5 X.length c5))
          dsimp only [List.getElem_toArray, List.getElem_cons_zero, List.getElem_cons_succ]
          go_simp
          clear xr d0 g0 hHeld G8_7
          refine hK.out _ _ (⟨(G8_8.out.atBox 5 rfl).c1, (G8_8.out.atBox 4 rfl).c1⟩) (fun hHeld => ?_)
          clear hK KK
          try simp only [Act.put, List.getElem_toArray, List.getElem_cons_zero, List.getElem_cons_succ, List.setIfInBounds_toArray, List.set_cons_zero, List.set_cons_succ]
          refine wpAnyH_ready (rs := [10]) (by kernel_rfl) (by simp) ?_
          refine AllReadyH.cons rfl (fun KK hK => ?_) AllReadyH.nil
          dsimp only [List.getElem_toArray, List.getElem_cons_zero, List.getElem_cons_succ]
          go_simp
          refine hK.out _ _ (⟨(G8_8.out.atBox 5 rfl).c1, (G8_8.out.atBox 4 rfl).c1⟩) (fun hHeld => ?_)
          clear hK KK
          try simp only [Act.put, List.getElem_toArray, List.getElem_cons_zero, List.getElem_cons_succ, List.setIfInBounds_toArray, List.set_cons_zero, List.set_cons_succ]
          refine wpAnyH_done (by kernel_rfl) ?_ _
          refine NoPanic.normal ?_
          clear hHeld
          go_wp2_with fail
          go_meet
          exact ⟨_, _, _, rfl, rfl, Hand.joinF4 G8_8.out (TBols.wf _ _) (TBox.wf _ _ _) (TBols.wf _ _) (TBols.wf _ _) (TVaF.st _ _ _) (fun lo hi w' z0 z1 z2 z3 => ⟨z1, z0⟩)⟩
      · dsimp only [List.getElem_toArray, List.getElem_cons_zero, List.getElem_cons_succ]
        go_simp
        have G8_9 := hide (G8_1.out.box #[.slice none 0 0] 46)
        obtain ⟨g6, hg6⟩ : ∃ g6, g6 = u8_1.heap.size := ⟨_, rfl⟩
        rw [← hg6] at G8_9 ⊢
        clear hg6
        generalize u8_1.alloc (.cells #[.slice none 0 0] 46) = u8_9 at G8_9 ⊢
        clear hHeld G8_1
        refine hK.out _ _ (⟨(G8_9.out.atBox 3 rfl).c1, (G8_9.out.atBox 2 rfl).c1⟩) (fun hHeld => ?_)
        clear hK KK
        try simp only [Act.put, List.getElem_toArray, List.getElem_cons_zero, List.getElem_cons_succ, List.setIfInBounds_toArray, List.set_cons_zero, List.set_cons_succ]
        refine wpAnyH_ready (rs := [3]) (by kernel_rfl) (by simp) ?_
        refine AllReadyH.cons rfl (fun KK hK => ?_) (AllReadyH.nil)
        dsimp only [List.getElem_toArray, List.getElem_cons_zero, List.getElem_cons_succ]
        go_simp
        refine (toFilter_calls f' gs _ (RG.out.below G8_9.out.below) SY.out).mono ?_
        rintro e' u8_10 ⟨v4, rfl, o, q⟩
        obtain ⟨a4, c4, rfl⟩ := row_slice o
        have G8_10 := hide (G8_9.out.add q (TBols.st _ _) ⟨o, row_top o⟩)
        clear q o hHeld G8_9
        refine hK.out _ _ (⟨(G8_10.out.atBox 4 rfl).c1, (G8_10.out.atBox 3 rfl).c1⟩) (fun hHeld => ?_)
        clear hK KK
        try simp only [Act.put, List.getElem_toArray, List.getElem_cons_zero, List.getElem_cons_succ, List.setIfInBounds_toArray, List.set_cons_zero, List.set_cons_succ]
        refine wpAnyH_ready (rs := [4]) (by kernel_rfl) (by simp) ?_
        refine AllReadyH.cons rfl (fun KK hK => ?_) (AllReadyH.nil)
        obtain ⟨lo1, hi1, e1⟩ := G8_10.out.get 2 rfl
        have E1 := hide (OwnZ.rd e1.1)
        obtain ⟨lo2, hi2, e2⟩ := G8_10.out.get 0 rfl
        have E2 := hide (OwnZ.rd e2.1)
        clear e1 e2
        dsimp only [List.getElem_toArray, List.getElem_cons_zero, List.getElem_cons_succ]
        go_simp
        refine (C1.out _ _ _ E1.out E2.out).mono ?_
        rintro e' u8_11 ⟨v5, rfl, o, q⟩
        obtain ⟨a5, c5, rfl⟩ := row_slice o
        have G8_11 := hide (G8_10.out.add q (TBols.st _ _) ⟨o, row_top o⟩)
        clear q o E1 E2 lo1 hi1 lo2 hi2 hHeld G8_10
        refine hK.out _ _ (⟨(G8_11.out.atBox 5 rfl).c1, (G8_11.out.atBox 4 rfl).c1⟩) (fun hHeld => ?_)
        clear hK KK
        try simp only [Act.put, List.getElem_toArray, List.getElem_cons_zero, List.getElem_cons_succ, List.setIfInBounds_toArray, List.set_cons_zero, List.set_cons_succ]
        refine wpAnyH_take (i := 5) (v := ?v9) rfl (by kernel_rfl) (by kernel_rfl) (by kernel_rfl) (fun _ _ _ h => h) (Or.inl ⟨by rfl, ?hy9⟩) (by assumption) ?rest9
        case hy9 => (intro w' hSw; dsimp only [List.getElem_toArray, List.getElem_cons_zero, List.getElem_cons_succ] at hSw ⊢; go_simp; try (with_reducible rfl))
        try simp only [Act.put, List.getElem_toArray, List.getElem_cons_zero, List.getElem_cons_succ, List.setIfInBounds_toArray, List.set_cons_zero, List.set_cons_succ]
        refine wpAnyH_take (i := 6) (v := ?v10) rfl (by kernel_rfl) (by kernel_rfl) (by kernel_rfl) (fun _ _ _ h => h) (Or.inl ⟨by rfl, ?hy10⟩) (by assumption) ?rest10
        case hy10 => (intro w' hSw; dsimp only [List.getElem_toArray, List.getElem_cons_zero, List.getElem_cons_succ] at hSw ⊢; go_simp; try (with_reducible rfl))
        try simp only [Act.put, List.getElem_toArray, List.getElem_cons_zero, List.getElem_cons_succ, List.setIfInBounds_toArray, List.set_cons_zero, List.set_cons_succ]
        refine wpAnyH_take (i := 7) (v := ?v11) rfl (by kernel_rfl) (by kernel_rfl) (by kernel_rfl) (fun _ _ _ h => h) (Or.inl ⟨by rfl, ?hy11⟩) (by assumption) ?rest11
        case hy11 => (intro w' hSw; dsimp only [List.getElem_toArray, List.getElem_cons_zero, List.getElem_cons_succ] at hSw ⊢; go_simp; try (with_reducible rfl))
        try simp only [Act.put, List.getElem_toArray, List.getElem_cons_zero, List.getElem_cons_succ, List.setIfInBounds_toArray, List.set_cons_zero, List.set_cons_succ]
        refine wpAnyH_ready (rs := [9]) (by kernel_rfl) (by simp) ?_
        refine AllReadyH.cons rfl (fun KK hK => ?_) AllReadyH.nil
        have xr := G8_11.out.atBox 2 rfl
        have d0 := xr.c1
        have g0 := xr.frozen 0
        have G8_12 := hide (G8_11.out.setBoxT 2 rfl 0 (.slice a5 X.length c5))
        dsimp only [List.getElem_toArray, List.getElem_cons_zero, List.getElem_cons_succ]
        go_simp
        clear xr d0 g0 hHeld G8_11
        refine hK.out _ _ (⟨(G8_12.out.atBox 5 rfl).c1, (G8_12.out.atBox 4 rfl).c1⟩) (fun hHeld => ?_)
        clear hK KK
        try simp only [Act.put, List.getElem_toArray, List.getElem_cons_zero, List.getElem_cons_succ, List.setIfInBounds_toArray, List.set_cons_zero, List.set_cons_succ]
        refine wpAnyH_ready (rs := [10]) (by kernel_rfl) (by simp) ?_
        refine AllReadyH.cons rfl (fun KK hK => ?_) AllReadyH.nil
        dsimp only [List.getElem_toArray, List.getElem_cons_zero, List.getElem_cons_succ]
        go_simp
        refine hK.out _ _ (⟨(G8_12.out.atBox 5 rfl).c1, (G8_12.out.atBox 4 rfl).c1⟩) (fun hHeld => ?_)
        clear hK KK
        try simp only [Act.put, List.getElem_toArray, List.getElem_cons_zero, List.getElem_cons_succ, List.setIfInBounds_toArray, List.set_cons_zero, List.set_cons_succ]
        refine wpAnyH_done (by kernel_rfl) ?_ _
        refine NoPanic.normal ?_
        clear hHeld
        go_wp2_with fail
        go_meet
        exact ⟨_, _, _, rfl, rfl, Hand.joinF4 G8_12.out (TBols.wf _ _) (TBols.wf _ _) (TBox.wf _ _ _) (TBols.wf _ _) (TVaF.st _ _ _) (fun lo hi w' z0 z1 z2 z3 => ⟨z2, z0⟩)⟩
    · dsimp only [List.getElem_toArray, List.getElem_cons_zero, List.getElem_cons_succ]
      go_simp
      have G8_13 := hide (G8_0.out.box #[.slice none 0 0] 46)
      obtain ⟨g6, hg6⟩ : ∃ g6, g6 = u8_0.heap.size := ⟨_, rfl⟩
      rw [← hg6] at G8_13 ⊢
      clear hg6
      generalize u8_0.alloc (.cells #[.slice none 0 0] 46) = u8_13 at G8_13 ⊢
      clear hHeld G8_0
      refine hK.out _ _ (⟨(G8_13.out.atBox 2 rfl).c1, (G8_13.out.atBox 1 rfl).c1⟩) (fun hHeld => ?_)
      clear hK KK
      try simp only [Act.put, List.getElem_toArray, List.getElem_cons_zero, List.getElem_cons_succ, List.setIfInBounds_toArray, List.set_cons_zero, List.set_cons_succ]
      refine wpAnyH_ready (rs := [1]) (by kernel_rfl) (by simp) ?_
      refine AllReadyH.cons rfl (fun KK hK => ?_) (AllReadyH.nil)
      dsimp only [List.getElem_toArray, List.getElem_cons_zero, List.getElem_cons_succ]
      go_simp
      refine (toFilter_calls f fs _ (RF.out.below G8_13.out.below) SZ.out).mono ?_
      rintro e' u8_14 ⟨v2, rfl, o, q⟩
      obtain ⟨a2, c2, rfl⟩ := row_slice o
      have G8_14 := hide (G8_13.out.add q (TBols.st _ _) ⟨o, row_top o⟩)
      clear q o hHeld G8_13
      refine hK.out _ _ (⟨(G8_14.out.atBox 3 rfl).c1, (G8_14.out.atBox 2 rfl).c1⟩) (fun hHeld => ?_)
      clear hK KK
      try simp only [Act.put, List.getElem_toArray, List.getElem_cons_zero, List.getElem_cons_succ, List.setIfInBounds_toArray, List.set_cons_zero, List.set_cons_succ]
      refine wpAnyH_ready (rs := [3]) (by kernel_rfl) (by simp) ?_
      refine AllReadyH.cons rfl (fun KK hK => ?_) (AllReadyH.nil)
      dsimp only [List.getElem_toArray, List.getElem_cons_zero, List.getElem_cons_succ]
      go_simp
      refine (toFilter_calls f' gs _ (RG.out.below G8_14.out.below) SY.out).mono ?_
      rintro e' u8_15 ⟨v4, rfl, o, q⟩
      obtain ⟨a4, c4, rfl⟩ := row_slice o
      have G8_15 := hide (G8_14.out.add q (TBols.st _ _) ⟨o, row_top o⟩)
      clear q o hHeld G8_14
      refine hK.out _ _ (⟨(G8_15.out.atBox 4 rfl).c1, (G8_15.out.atBox 3 rfl).c1⟩) (fun hHeld => ?_)
      clear hK KK
      try simp only [Act.put, List.getElem_toArray, List.getElem_cons_zero, List.getElem_cons_succ, List.setIfInBounds_toArray, List.set_cons_zero, List.set_cons_succ]
      refine wpAnyH_ready (rs := [4]) (by kernel_rfl) (by simp) ?_
      refine AllReadyH.cons rfl (fun KK hK => ?_) (AllReadyH.nil)
      obtain ⟨lo1, hi1, e1⟩ := G8_15.out.get 1 rfl
      have E1 := hide (OwnZ.rd e1.1)
      obtain ⟨lo2, hi2, e2⟩ := G8_15.out.get 0 rfl
      have E2 := hide (OwnZ.rd e2.1)
      clear e1 e2
      dsimp only [List.getElem_toArray, List.getElem_cons_zero, List.getElem_cons_succ]
      go_simp
      refine (C1.out _ _ _ E1.out E2.out).mono ?_
      rintro e' u8_16 ⟨v5, rfl, o, q⟩
      obtain ⟨a5, c5, rfl⟩ := row_slice o
      have G8_16 := hide (G8_15.out.add q (TBols.st _ _) ⟨o, row_top o⟩)
      clear q o E1 E2 lo1 hi1 lo2 hi2 hHeld G8_15
      refine hK.out _ _ (⟨(G8_16.out.atBox 5 rfl).c1, (G8_16.out.atBox 4 rfl).c1⟩) (fun hHeld => ?_)
      clear hK KK
      try simp only [Act.put, List.getElem_toArray, List.getElem_cons_zero, List.getElem_cons_succ, List.setIfInBounds_toArray, List.set_cons_zero, List.set_cons_succ]
      refine wpAnyH_take (i := 5) (v := ?v12) rfl (by kernel_rfl) (by kernel_rfl) (by kernel_rfl) (fun _ _ _ h => h) (Or.inl ⟨by rfl, ?hy12⟩) (by assumption) ?rest12
      case hy12 => (intro w' hSw; dsimp only [List.getElem_toArray, List.getElem_cons_zero, List.getElem_cons_succ] at hSw ⊢; go_simp; try (with_reducible rfl))
      try simp only [Act.put, List.getElem_toArray, List.getElem_cons_zero, List.getElem_cons_succ, List.setIfInBounds_toArray, List.set_cons_zero, List.set_cons_succ]
      refine wpAnyH_take (i := 6) (v := ?v13) rfl (by kernel_rfl) (by kernel_rfl) (by kernel_rfl) (fun _ _ _ h => h) (Or.inl ⟨by rfl, ?hy13⟩) (by assumption) ?rest13
      case hy13 => (intro w' hSw; dsimp only [List.getElem_toArray, List.getElem_cons_zero, List.getElem_cons_succ] at hSw ⊢; go_simp; try (with_reducible rfl))
      try simp only [Act.put, List.getElem_toArray, List.getElem_cons_zero, List.getElem_cons_succ, List.setIfInBounds_toArray, List.set_cons_zero, List.set_cons_succ]
      refine wpAnyH_take (i := 7) (v := ?v14) rfl (by kernel_rfl) (by kernel_rfl) (by kernel_rfl) (fun _ _ _ h => h) (Or.inl ⟨by rfl, ?hy14⟩) (by assumption) ?rest14
      case hy14 => (intro w' hSw; dsimp only [List.getElem_toArray, List.getElem_cons_zero, List.getElem_cons_succ] at hSw ⊢; go_simp; try (with_reducible rfl))
      try simp only [Act.put, List.getElem_toArray, List.getElem_cons_zero, List.getElem_cons_succ, List.setIfInBounds_toArray, List.set_cons_zero, List.set_cons_succ]
      refine wpAnyH_ready (rs := [9]) (by kernel_rfl) (by simp) ?_
      refine AllReadyH.cons rfl (fun KK hK => ?_) AllReadyH.nil
      have xr := G8_16.out.atBox 3 rfl
      have d0 := xr.c1
      have g0 := xr.frozen 0
      have G8_17 := hide (G8_16.out.setBoxT 3 rfl 0 (.slice a5 X.length c5))
      dsimp only [List.getElem_toArray, List.getElem_cons_zero, List.getElem_cons_succ]
      go_simp
      clear xr d0 g0 hHeld G8_16
      refine hK.out _ _ (⟨(G8_17.out.atBox 5 rfl).c1, (G8_17.out.atBox 4 rfl).c1⟩) (fun hHeld => ?_)
      clear hK KK
      try simp only [Act.put, List.getElem_toArray, List.getElem_cons_zero, List.getElem_cons_succ, List.setIfInBounds_toArray, List.set_cons_zero, List.set_cons_succ]
      refine wpAnyH_ready (rs := [10]) (by kernel_rfl) (by simp) ?_
      refine AllReadyH.cons rfl (fun KK hK => ?_) AllReadyH.nil
      dsimp only [List.getElem_toArray, List.getElem_cons_zero, List.getElem_cons_succ]
      go_simp
      refine hK.out _ _ (⟨(G8_17.out.atBox 5 rfl).c1, (G8_17.out.atBox 4 rfl).c1⟩) (fun hHeld => ?_)
      clear hK KK
      try simp only [Act.put, List.getElem_toArray, List.getElem_cons_zero, List.getElem_cons_succ, List.setIfInBounds_toArray, List.set_cons_zero, List.set_cons_succ]
      refine wpAnyH_done (by kernel_rfl) ?_ _
      refine NoPanic.normal ?_
      clear hHeld
      go_wp2_with fail
      go_meet
      exact ⟨_, _, _, rfl, rfl, Hand.joinF4 G8_17.out (TBols.wf _ _) (TBols.wf _ _) (TBols.wf _ _) (TBox.wf _ _ _) (TVaF.st _ _ _) (fun lo hi w' z0 z1 z2 z3 => ⟨z3, z0⟩)⟩
  case rest =>
  obtain ⟨gW, aW, cW, rfl, rfl, hhW⟩ := hcut
  have A3 := hide hhW
  clear hhW A2
  generalize wc = w3 at *
  have caA0 := (A3.out.atBox 2 rfl).c1
  go_wp2_with fail
  refine (toFilter_calls f fs _ (RF.out.below A3.out.below) SZ.out).mono ?_
  rintro e w4 ⟨vx, rfl, o, q⟩
  obtain ⟨ax, cx, rfl⟩ := row_slice o
  have ltx := q.size
  (try simp only [World.size_alloc] at ltx)
  have A4 := hide ((A3.out.add q (TBols.st _ _) ⟨o, row_top o⟩).box #[.slice ax fs.length cx] 46)
  clear A3 caA0 q o
  have caB0 := (A4.out.atBox 3 rfl).c1
  go_wp2_with fail
  refine (toFilter_calls f' gs _ (RG.out.below A4.out.below) SY.out).mono ?_
  rintro e w5 ⟨vy, rfl, o, q⟩
  obtain ⟨ay, cy, rfl⟩ := row_slice o
  have lty := q.size
  (try simp only [World.size_alloc] at lty)
  have A5 := hide ((A4.out.add q (TBols.st _ _) ⟨o, row_top o⟩).box #[.slice ay gs.length cy] 46)
  clear A4 caB0 q o
  have cbx0 := (A5.out.atBox 2 rfl).c1
  have cby0 := (A5.out.atBox 0 rfl).c1
  obtain ⟨lox, hix, dx⟩ := A5.out.get 3 rfl
  have Dx := hide (OwnZ.rd dx.1)
  clear dx
  obtain ⟨loy, hiy, dy⟩ := A5.out.get 1 rfl
  have Dy := hide (OwnZ.rd dy.1)
  clear dy
  go_wp2_with fail
  refine (C2.out _ _ _ Dx.out Dy.out).mono ?_
  rintro e w6 ⟨vg, rfl, o, q⟩
  obtain ⟨ag, cg, rfl⟩ := row_slice o
  have ltg := q.size
  (try simp only [World.size_alloc] at ltg)
  have A6 := hide ((A5.out.add q (TBols.st _ _) ⟨o, row_top o⟩).box #[.slice ag X.length cg] 46)
  clear A5 cbx0 cby0 Dx lox hix Dy loy hiy q o
  have cbg0 := (A6.out.atBox 0 rfl).c1
  have cW0 := (A6.out.varF 6 rfl).1.c1
  obtain ⟨log, hig, dg⟩ := A6.out.get 1 rfl
  have Dg := hide (OwnZ.rd dg.1)
  clear dg
  obtain ⟨loW, hiW, dW⟩ := (A6.out.varF 6 rfl).2
  have DW := hide (OwnZ.rd dW.1)
  clear dW
  go_wp2_with fail
  refine (eqFilter_same _ _ X _ Dg.out DW.out).mono ?_
  rintro e w7 ⟨rfl, q⟩
  have A7 := hide (A6.out.step q)
  clear A6 cbg0 cW0 Dg log hig DW loW hiW q
  go_wp2
  obtain ⟨lo, hi, dd⟩ := A7.out.get 5 rfl
  have D5 := hide (OwnZ.rd dd.1)
  clear dd
  have F : Hid (∀ w', Below w7.heap.size w7 w' → w'.cell? ⟨w.heap.size, 0, none⟩ = some f ∧ w'.cell? ⟨w4.heap.size, 0, none⟩ = some (.slice ax fs.length cx)) :=
    fun w' hb => ⟨((A7.out.step hb).atBox 8 rfl).c1, ((A7.out.step hb).atBox 4 rfl).c1⟩
  go_region_held3 (fun w' => w'.cell? ⟨w.heap.size, 0, none⟩ = some f ∧ w'.cell? ⟨w4.heap.size, 0, none⟩ = some (.slice ax fs.length cx)) (first | exact F.out _ (Below.refl _ _).drew | exact F.out _ B2.out | exact F.out _ B1.out)
    ((first | (go_at_call 31; refine (eqFilter_same _ _ fs _ (D5.out.below B1.out) D6.out).mono ?_; rintro e' wr15 ⟨rfl, b7⟩; have B2 := hide (B1.out.trans (b7.mono B1.out.size)); clear b7) | (go_at_call 36; refine (toFilter_calls f fs _ (RF.out.below (A7.out.step (Below.refl _ _).drew).below) SZ.out).mono ?_; rintro e' wr14 ⟨p3, rfl, d6, b6⟩; have D6 := hide (OwnZ.rd d6); have B1 := hide ((Below.refl w7.heap.size w7).drew.trans b6); clear b6 d6)))
  have A8 := hide (A7.out.step B2.out)
  clear A7 F B1 B2 D5 D6 lo hi
  go_wp2
  obtain ⟨lo, hi, dd⟩ := A8.out.get 3 rfl
  have D5 := hide (OwnZ.rd dd.1)
  clear dd
  have F : Hid (∀ w', Below wr15.heap.size wr15 w' → w'.cell? ⟨w.heap.size + 1, 0, none⟩ = some f' ∧ w'.cell? ⟨w5.heap.size, 0, none⟩ = some (.slice ay gs.length cy)) :=
    fun w' hb => ⟨((A8.out.step hb).atBox 7 rfl).c1, ((A8.out.step hb).atBox 2 rfl).c1⟩
  go_region_held3 (fun w' => w'.cell? ⟨w.heap.size + 1, 0, none⟩ = some f' ∧ w'.cell? ⟨w5.heap.size, 0, none⟩ = some (.slice ay gs.length cy)) (first | exact F.out _ (Below.refl _ _).drew | exact F.out _ B2.out | exact F.out _ B1.out)
    ((first | (go_at_call 31; refine (eqFilter_same _ _ gs _ (D5.out.below B1.out) D6.out).mono ?_; rintro e' wr17 ⟨rfl, b7⟩; have B2 := hide (B1.out.trans (b7.mono B1.out.size)); clear b7) | (go_at_call 36; refine (toFilter_calls f' gs _ (RG.out.below (A8.out.step (Below.refl _ _).drew).below) SY.out).mono ?_; rintro e' wr16 ⟨p3, rfl, d6, b6⟩; have D6 := hide (OwnZ.rd d6); have B1 := hide ((Below.refl wr15.heap.size wr15).drew.trans b6); clear b6 d6)))
  have A9 := hide (A8.out.step B2.out)
  clear A8 F B1 B2 D5 D6 lo hi
  have cbx0 := (A9.out.atBox 4 rfl).c1
  obtain ⟨lox, hix, dx, lw, hw, put⟩ := A9.out.open 5 rfl
  have PUT := hide put
  have HW := hide hw
  have Dx := hide dx.1
  have TDx := hide dx.2
  clear put lw hw dx
  go_wp2_with fail
  refine (markFilter_calls _ fs 1 _ _ _ Dx.out TDx.out HW.out (by omega) (by omega) SZ.out).mono ?_
  rintro e w10 ⟨rfl, o4, g4⟩
  have A10 := hide (PUT.out _ (TBols _ _) (TBols.st _ _) ⟨o4, TDx.out⟩ g4)
  clear A9 cbx0 lox hix PUT HW Dx TDx o4 g4
  have zb : fs.length ≤ 1048576 ∧ gs.length ≤ 1048576 := ⟨SZ.out, SY.out⟩
  obtain ⟨kk, hkk⟩ : ∃ kk : Int, kk = 1 + (fs.length : Int) := ⟨_, rfl⟩
  rw [← hkk]
  have kb : 0 ≤ kk ∧ kk ≤ 4000000 := by omega
  clear hkk
  have cby0 := (A10.out.atBox 2 rfl).c1
  obtain ⟨loy, hiy, dy, lw, hw, put⟩ := A10.out.open 3 rfl
  have PUT := hide put
  have HW := hide hw
  have Dy := hide dy.1
  have TDy := hide dy.2
  clear put lw hw dy
  go_wp2_with fail
  refine (markFilter_calls _ gs kk _ _ _ Dy.out TDy.out HW.out (by omega) (by omega) SY.out).mono ?_
  rintro e w11 ⟨rfl, o4, g4⟩
  have A11 := hide (PUT.out _ (TBols _ _) (TBols.st _ _) ⟨o4, TDy.out⟩ g4)
  clear A10 cby0 loy hiy PUT HW Dy TDy o4 g4
  have kn : ¬ (kk + (gs.length : Int) < 0) := by omega
  have cbg0 := (A11.out.atBox 0 rfl).c1
  have cW0 := (A11.out.varF 6 rfl).1.c1
  obtain ⟨log, hig, dg⟩ := A11.out.get 1 rfl
  have Dg := hide (OwnZ.rd dg.1)
  clear dg
  obtain ⟨loW, hiW, dW⟩ := (A11.out.varF 6 rfl).2
  have DW := hide (OwnZ.rd dW.1)
  clear dW
  go_wp2_with fail
  refine (eqFilter_same _ _ X _ Dg.out DW.out).mono ?_
  rintro e w12 ⟨rfl, q⟩
  have A12 := hide (A11.out.step q)
  clear A11 cbg0 cW0 Dg log hig DW loW hiW q
  have cbg0 := (A12.out.atBox 0 rfl).c1
  obtain ⟨log, hig, dg, lw, hw, put⟩ := A12.out.open 1 rfl
  have PUT := hide put
  have HW := hide hw
  have Dg := hide dg.1
  have TDg := hide dg.2
  clear put lw hw dg
  go_wp2_with fail
  refine (markFilter_calls _ X 1 _ _ _ Dg.out TDg.out HW.out (by omega) (by omega) XL).mono ?_
  rintro e w13 ⟨rfl, o4, g4⟩
  have A13 := hide (PUT.out _ (TBols _ _) (TBols.st _ _) ⟨o4, TDg.out⟩ g4)
  clear A12 cbg0 log hig PUT HW Dg TDg o4 g4
  have xn : ¬ ((1 : Int) + (X.length : Int) < 0) := by omega
  have cbg0 := (A13.out.atBox 0 rfl).c1
  obtain ⟨log, hig, dg⟩ := A13.out.get 1 rfl
  have Dg := hide (OwnZ.rd dg.1)
  clear dg
  go_wp2_with fail
  refine (heldFilter_calls _ X.length 1 _ Dg.out (by omega) (by omega) XL).mono ?_
  rintro e w14 ⟨rfl, q⟩
  have A14 := hide (A13.out.step q)
  clear A13 cbg0 Dg log hig q
  go_upto_region 31 with fail
  go_cut [15, 16] (fun s1 s2 wx => ∃ g av cv, s1 = .pointer (some ⟨g, 0, none⟩) ∧ s2 = .bool ok ∧ Hand w wx (TVaF g (.slice av X.length cv) X :: [TBox w6.heap.size #[.slice ag X.length cg] 46, TBols (.slice ag X.length cg) (marksZ 1 X.length), TBox w5.heap.size #[.slice ay gs.length cy] 46, TBols (.slice ay gs.length cy) (marksZ kk gs.length), TBox w4.heap.size #[.slice ax fs.length cx] 46, TBols (.slice ax fs.length cx) (marksZ 1 fs.length), TVaF gW (.slice aW X.length cW) X, TBox (w.heap.size + 1) #[f'] 51, TBox w.heap.size #[f] 51]))
  case first =>
    refine wp_region_noPanic ?_
    refine wp_region_held_drew (S := fun w' => w'.cell? ⟨w.heap.size, 0, none⟩ = some f ∧ w'.cell? ⟨w.heap.size + 1, 0, none⟩ = some f') (by kernel_rfl) (⟨((A14.out.step (Below.refl _ _).drew).atBox 8 rfl).c1, ((A14.out.step (Below.refl _ _).drew).atBox 7 rfl).c1⟩) (fun hHeld => ?_)
    have G31_0 := hide (A14.out.step (Below.refl _ _).drew)
    clear A14
    generalize World.drew _ = u31_0 at *
    refine wpAnyH_take (i := 0) (v := ?v15) rfl (by kernel_rfl) (by kernel_rfl) (by kernel_rfl) (fun _ _ _ h => h) (Or.inl ⟨by rfl, ?hy15⟩) (by assumption) ?rest15
    case hy15 => (intro w' hSw; dsimp only [List.getElem_toArray, List.getElem_cons_zero, List.getElem_cons_succ] at hSw ⊢; go_simp; try (with_reducible rfl))
    try simp only [Act.put, List.getElem_toArray, List.getElem_cons_zero, List.getElem_cons_succ, List.setIfInBounds_toArray, List.set_cons_zero, List.set_cons_succ]
    refine wpAnyH_take (i := 2) (v := ?v16) rfl (by kernel_rfl) (by kernel_rfl) (by kernel_rfl) (fun _ _ _ h => h) (Or.inl ⟨by rfl, ?hy16⟩) (by assumption) ?rest16
    case hy16 => (intro w' hSw; dsimp only [List.getElem_toArray, List.getElem_cons_zero, List.getElem_cons_succ] at hSw ⊢; go_simp; try (with_reducible rfl))
    try simp only [Act.put, List.getElem_toArray, List.getElem_cons_zero, List.getElem_cons_succ, List.setIfInBounds_toArray, List.set_cons_zero, List.set_cons_succ]
    refine wpAnyH_ready (rs := [1, 8]) (by kernel_rfl) (by simp) ?_
    refine AllReadyH.cons rfl (fun KK hK => ?_) (AllReadyH.cons rfl (fun KK hK => ?_) (AllReadyH.nil))
    · dsimp only [List.getElem_toArray, List.getElem_cons_zero, List.getElem_cons_succ]
      go_simp
      refine (toFilter_calls f fs _ (RF.out.below G31_0.out.below) SZ.out).mono ?_
      rintro e' u31_1 ⟨v2, rfl, o, q⟩
      obtain ⟨a2, c2, rfl⟩ := row_slice o
      have G31_1 := hide (G31_0.out.add q (TBols.st _ _) ⟨o, row_top o⟩)
      clear q o hHeld G31_0
      refine hK.out _ _ (⟨(G31_1.out.atBox 9 rfl).c1, (G31_1.out.atBox 8 rfl).c1⟩) (fun hHeld => ?_)
      clear hK KK
      try simp only [Act.put, List.getElem_toArray, List.getElem_cons_zero, List.getElem_cons_succ, List.setIfInBounds_toArray, List.set_cons_zero, List.set_cons_succ]
      refine wpAnyH_ready (rs := [3, 8]) (by kernel_rfl) (by simp) ?_
      refine AllReadyH.cons rfl (fun KK hK => ?_) (AllReadyH.cons rfl (fun KK hK => ?_) (AllReadyH.nil))
      · dsimp only [List.getElem_toArray, List.getElem_cons_zero, List.getElem_cons_succ]
        go_simp
        refine (toFilter_calls f' gs _ (RG.out.below G31_1.out.below) SY.out).mono ?_
        rintro e' u31_2 ⟨v4, rfl, o, q⟩
        obtain ⟨a4, c4, rfl⟩ := row_slice o
        have G31_2 := hide (G31_1.out.add q (TBols.st _ _) ⟨o, row_top o⟩)
        clear q o hHeld G31_1
        refine hK.out _ _ (⟨(G31_2.out.atBox 10 rfl).c1, (G31_2.out.atBox 9 rfl).c1⟩) (fun hHeld => ?_)
        clear hK KK
        try simp only [Act.put, List.getElem_toArray, List.getElem_cons_zero, List.getElem_cons_succ, List.setIfInBounds_toArray, List.set_cons_zero, List.set_cons_succ]
        refine wpAnyH_ready (rs := [4, 8]) (by kernel_rfl) (by simp) ?_
        refine AllReadyH.cons rfl (fun KK hK => ?_) (AllReadyH.cons rfl (fun KK hK => ?_) (AllReadyH.nil))
        · obtain ⟨lo1, hi1, e1⟩ := G31_2.out.get 1 rfl
          have E1 := hide (OwnZ.rd e1.1)
          obtain ⟨lo2, hi2, e2⟩ := G31_2.out.get 0 rfl
          have E2 := hide (OwnZ.rd e2.1)
          clear e1 e2
          dsimp only [List.getElem_toArray, List.getElem_cons_zero, List.getElem_cons_succ]
          go_simp
          refine (C2.out _ _ _ E1.out E2.out).mono ?_
          rintro e' u31_3 ⟨v5, rfl, o, q⟩
          obtain ⟨a5, c5, rfl⟩ := row_slice o
          have G31_3 := hide (G31_2.out.add q (TBols.st _ _) ⟨o, row_top o⟩)
          clear q o E1 E2 lo1 hi1 lo2 hi2 hHeld G31_2
          refine hK.out _ _ (⟨(G31_3.out.atBox 11 rfl).c1, (G31_3.out.atBox 10 rfl).c1⟩) (fun hHeld => ?_)
          clear hK KK
          try simp only [Act.put, List.getElem_toArray, List.getElem_cons_zero, List.getElem_cons_succ, List.setIfInBounds_toArray, List.set_cons_zero, List.set_cons_succ]
          refine wpAnyH_take (i := 5) (v := ?v17) rfl (by kernel_rfl) (by kernel_rfl) (by kernel_rfl) (fun _ _ _ h => h) (Or.inl ⟨by rfl, ?hy17⟩) (by assumption) ?rest17
          case hy17 => (intro w' hSw; dsimp only [List.getElem_toArray, List.getElem_cons_zero, List.getElem_cons_succ] at hSw ⊢; go_simp; try (with_reducible rfl))
          try simp only [Act.put, List.getElem_toArray, List.getElem_cons_zero, List.getElem_cons_succ, List.setIfInBounds_toArray, List.set_cons_zero, List.set_cons_succ]
          refine wpAnyH_take (i := 6) (v := ?v18) rfl (by kernel_rfl) (by kernel_rfl) (by kernel_rfl) (fun _ _ _ h => h) (Or.inl ⟨by rfl, ?hy18⟩) (by assumption) ?rest18
          case hy18 => (intro w' hSw; dsimp only [List.getElem_toArray, List.getElem_cons_zero, List.getElem_cons_succ] at hSw ⊢; go_simp; try (with_reducible rfl))
          try simp only [Act.put, List.getElem_toArray, List.getElem_cons_zero, List.getElem_cons_succ, List.setIfInBounds_toArray, List.set_cons_zero, List.set_cons_succ]
          refine wpAnyH_take (i := 7) (v := ?v19) rfl (by kernel_rfl) (by kernel_rfl) (by kernel_rfl) (fun _ _ _ h => h) (Or.inl ⟨by rfl, ?hy19⟩) (by assumption) ?rest19
          case hy19 => (intro w' hSw; dsimp only [List.getElem_toArray, List.getElem_cons_zero, List.getElem_cons_succ] at hSw ⊢; go_simp; try (with_reducible rfl))
          try simp only [Act.put, List.getElem_toArray, List.getElem_cons_zero, List.getElem_cons_succ, List.setIfInBounds_toArray, List.set_cons_zero, List.set_cons_succ]
          refine wpAnyH_ready (rs := [8]) (by kernel_rfl) (by simp) ?_
          refine AllReadyH.cons rfl (fun KK hK => ?_) (AllReadyH.nil)
          dsimp only [List.getElem_toArray, List.getElem_cons_zero, List.getElem_cons_succ]
          go_simp
          have G31_4 := hide (G31_3.out.box #[.slice none 0 0] 46)
          obtain ⟨g6, hg6⟩ : ∃ g6, g6 = u31_3.heap.size := ⟨_, rfl⟩
          rw [← hg6] at G31_4 ⊢
          clear hg6
          generalize u31_3.alloc (.cells #[.slice none 0 0] 46) = u31_4 at G31_4 ⊢
          clear hHeld G31_3
          refine hK.out _ _ (⟨(G31_4.out.atBox 12 rfl).c1, (G31_4.out.atBox 11 rfl).c1⟩) (fun hHeld => ?_)
          clear hK KK
          try simp only [Act.put, List.getElem_toArray, List.getElem_cons_zero, List.getElem_cons_succ, List.setIfInBounds_toArray, List.set_cons_zero, List.set_cons_succ]
          refine wpAnyH_ready (rs := [9]) (by kernel_rfl) (by simp) ?_
          refine AllReadyH.cons rfl (fun KK hK => ?_) AllReadyH.nil
          have xr := G31_4.out.atBox 0 rfl
          have d0 := xr.c1
          have g0 := xr.frozen 0
          have G31_5 := hide (G31_4.out.setBoxT 0 rfl 0 (.slice a5 X.length c5))
          dsimp only [List.getElem_toArray, List.getElem_cons_zero, List.getElem_cons_succ]
          go_simp
          clear xr d0 g0 hHeld G31_4
          refine hK.out _ _ (⟨(G31_5.out.atBox 12 rfl).c1, (G31_5.out.atBox 11 rfl).c1⟩) (fun hHeld => ?_)
          clear hK KK
          try simp only [Act.put, List.getElem_toArray, List.getElem_cons_zero, List.getElem_cons_succ, List.setIfInBounds_toArray, List.set_cons_zero, List.set_cons_succ]
          refine wpAnyH_ready (rs := [10]) (by kernel_rfl) (by simp) ?_
          refine AllReadyH.cons rfl (fun KK hK => ?_) AllReadyH.nil
          dsimp only [List.getElem_toArray, List.getElem_cons_zero, List.getElem_cons_succ]
          go_simp
          refine hK.out _ _ (⟨(G31_5.out.atBox 12 rfl).c1, (G31_5.out.atBox 11 rfl).c1⟩) (fun hHeld => ?_)
          clear hK KK
          try simp only [Act.put, List.getElem_toArray, List.getElem_cons_zero, List.getElem_cons_succ, List.setIfInBounds_toArray, List.set_cons_zero, List.set_cons_succ]
          refine wpAnyH_done (by kernel_rfl) ?_ _
          refine NoPanic.normal ?_
          clear hHeld
          go_wp2_with fail
          go_meet
          exact ⟨_, _, _, rfl, rfl, Hand.joinF4 G31_5.out (TBox.wf _ _ _) (TBols.wf _ _) (TBols.wf _ _) (TBols.wf _ _) (TVaF.st _ _ _) (fun lo hi w' z0 z1 z2 z3 => ⟨z0, z1⟩)⟩
        · dsimp only [List.getElem_toArray, List.getElem_cons_zero, List.getElem_cons_succ]
          go_simp
          have G31_6 := hide (G31_2.out.box #[.slice none 0 0] 46)
          obtain ⟨g6, hg6⟩ : ∃ g6, g6 = u31_2.heap.size := ⟨_, rfl⟩
          rw [← hg6] at G31_6 ⊢
          clear hg6
          generalize u31_2.alloc (.cells #[.slice none 0 0] 46) = u31_6 at G31_6 ⊢
          clear hHeld G31_2
          refine hK.out _ _ (⟨(G31_6.out.atBox 11 rfl).c1, (G31_6.out.atBox 10 rfl).c1⟩) (fun hHeld => ?_)
          clear hK KK
          try simp only [Act.put, List.getElem_toArray, List.getElem_cons_zero, List.getElem_cons_succ, List.setIfInBounds_toArray, List.set_cons_zero, List.set_cons_succ]
          refine wpAnyH_ready (rs := [4]) (by kernel_rfl) (by simp) ?_
          refine AllReadyH.cons rfl (fun KK hK => ?_) (AllReadyH.nil)
          obtain ⟨lo1, hi1, e1⟩ := G31_6.out.get 2 rfl
          have E1 := hide (OwnZ.rd e1.1)
          obtain ⟨lo2, hi2, e2⟩ := G31_6.out.get 1 rfl
          have E2 := hide (OwnZ.rd e2.1)
          clear e1 e2
          dsimp only [List.getElem_toArray, List.getElem_cons_zero, List.getElem_cons_succ]
          go_simp
          refine (C2.out _ _ _ E1.out E2.out).mono ?_
          rintro e' u31_7 ⟨v5, rfl, o, q⟩
          obtain ⟨a5, c5, rfl⟩ := row_slice o
          have G31_7 := hide (G31_6.out.add q (TBols.st _ _) ⟨o, row_top o⟩)
          clear q o E1 E2 lo1 hi1 lo2 hi2 hHeld G31_6
          refine hK.out _ _ (⟨(G31_7.out.atBox 12 rfl).c1, (G31_7.out.atBox 11 rfl).c1⟩) (fun hHeld => ?_)
          clear hK KK
          try simp only [Act.put, List.getElem_toArray, List.getElem_cons_zero, List.getElem_cons_succ, List.setIfInBounds_toArray, List.set_cons_zero, List.set_cons_succ]
          refine wpAnyH_take (i := 5) (v := ?v20) rfl (by kernel_rfl) (by kernel_rfl) (by kernel_rfl) (fun _ _ _ h => h) (Or.inl ⟨by rfl, ?hy20⟩) (by assumption) ?rest20
          case hy20 => (intro w' hSw; dsimp only [List.getElem_toArray, List.getElem_cons_zero, List.getElem_cons_succ] at hSw ⊢; go_simp; try (with_reducible rfl))
          try simp only [Act.put, List.getElem_toArray, List.getElem_cons_zero, List.getElem_cons_succ, List.setIfInBounds_toArray, List.set_cons_zero, List.set_cons_succ]
          refine wpAnyH_take (i := 6) (v := ?v21) rfl (by kernel_rfl) (by kernel_rfl) (by kernel_rfl) (fun _ _ _ h => h) (Or.inl ⟨by rfl, ?hy21⟩) (by assumption) ?rest21
          case hy21 => (intro w' hSw; dsimp only [List.getElem_toArray, List.getElem_cons_zero, List.getElem_cons_succ] at hSw ⊢; go_simp; try (with_reducible rfl))
          try simp only [Act.put, List.getElem_toArray, List.getElem_cons_zero, List.getElem_cons_succ, List.setIfInBounds_toArray, List.set_cons_zero, List.set_cons_succ]
          refine wpAnyH_take (i := 7) (v := ?v22) rfl (by kernel_rfl) (by kernel_rfl) (by kernel_rfl) (fun _ _ _ h => h) (Or.inl ⟨by rfl, ?hy22⟩) (by assumption) ?rest22
          case hy22 => (intro w' hSw; dsimp only [List.getElem_toArray, List.getElem_cons_zero, List.getElem_cons_succ] at hSw ⊢; go_simp; try (with_reducible rfl))
          try simp only [Act.put, List.getElem_toArray, List.getElem_cons_zero, List.getElem_cons_succ, List.setIfInBounds_toArray, List.set_cons_zero, List.set_cons_succ]
          refine wpAnyH_ready (rs := [9]) (by kernel_rfl) (by simp) ?_
          refine AllReadyH.cons rfl (fun KK hK => ?_) AllReadyH.nil
          have xr := G31_7.out.atBox 1 rfl
          have d0 := xr.c1
          have g0 := xr.frozen 0
          have G31_8 := hide (G31_7.out.setBoxT 1 rfl 0 (.slice a5 X.length c5))
          dsimp only [List.getElem_toArray, List.getElem_cons_zero, List.getElem_cons_succ]
          go_simp
          clear xr d0 g0 hHeld G31_7
          refine hK.out _ _ (⟨(G31_8.out.atBox 12 rfl).c1, (G31_8.out.atBox 11 rfl).c1⟩) (fun hHeld => ?_)
          clear hK KK
          try simp only [Act.put, List.getElem_toArray, List.getElem_cons_zero, List.getElem_cons_succ, List.setIfInBounds_toArray, List.set_cons_zero, List.set_cons_succ]
          refine wpAnyH_ready (rs := [10]) (by kernel_rfl) (by simp) ?_
          refine AllReadyH.cons rfl (fun KK hK => ?_) AllReadyH.nil
          dsimp only [List.getElem_toArray, List.getElem_cons_zero, List.getElem_cons_succ]
          go_simp
          refine hK.out _ _ (⟨(G31_8.out.atBox 12 rfl).c1, (G31_8.out.atBox 11 rfl).c1⟩) (fun hHeld => ?_)
          clear hK KK
          try simp only [Act.put, List.getElem_toArray, List.getElem_cons_zero, List.getElem_cons_succ, List.setIfInBounds_toArray, List.set_cons_zero, List.set_cons_succ]
          refine wpAnyH_done (by kernel_rfl) ?_ _
          refine NoPanic.normal ?_
          clear hHeld
          go_wp2_with fail
          go_meet
          exact ⟨_, _, _, rfl, rfl, Hand.joinF4 G31_8.out (TBols.wf _ _) (TBox.wf _ _ _) (TBols.wf _ _) (TBols.wf _ _) (TVaF.st _ _ _) (fun lo hi w' z0 z1 z2 z3 => ⟨z1, z0⟩)⟩
      · dsimp only [List.getElem_toArray, List.getElem_cons_zero, List.getElem_cons_succ]
        go_simp
        have G31_9 := hide (G31_1.out.box #[.slice none 0 0] 46)
        obtain ⟨g6, hg6⟩ : ∃ g6, g6 = u31_1.heap.size := ⟨_, rfl⟩
        rw [← hg6] at G31_9 ⊢
        clear hg6
        generalize u31_1.alloc (.cells #[.slice none 0 0] 46) = u31_9 at G31_9 ⊢
        clear hHeld G31_1
        refine hK.out _ _ (⟨(G31_9.out.atBox 10 rfl).c1, (G31_9.out.atBox 9 rfl).c1⟩) (fun hHeld => ?_)
        clear hK KK
        try simp only [Act.put, List.getElem_toArray, List.getElem_cons_zero, List.getElem_cons_succ, List.setIfInBounds_toArray, List.set_cons_zero, List.set_cons_succ]
        refine wpAnyH_ready (rs := [3]) (by kernel_rfl) (by simp) ?_
        refine AllReadyH.cons rfl (fun KK hK => ?_) (AllReadyH.nil)
        dsimp only [List.getElem_toArray, List.getElem_cons_zero, List.getElem_cons_succ]
        go_simp
        refine (toFilter_calls f' gs _ (RG.out.below G31_9.out.below) SY.out).mono ?_
        rintro e' u31_10 ⟨v4, rfl, o, q⟩
        obtain ⟨a4, c4, rfl⟩ := row_slice o
        have G31_10 := hide (G31_9.out.add q (TBols.st _ _) ⟨o, row_top o⟩)
        clear q o hHeld G31_9
        refine hK.out _ _ (⟨(G31_10.out.atBox 11 rfl).c1, (G31_10.out.atBox 10 rfl).c1⟩) (fun hHeld => ?_)
        clear hK KK
        try simp only [Act.put, List.getElem_toArray, List.getElem_cons_zero, List.getElem_cons_succ, List.setIfInBounds_toArray, List.set_cons_zero, List.set_cons_succ]
        refine wpAnyH_ready (rs := [4]) (by kernel_rfl) (by simp) ?_
        refine AllReadyH.cons rfl (fun KK hK => ?_) (AllReadyH.nil)
        obtain ⟨lo1, hi1, e1⟩ := G31_10.out.get 2 rfl
        have E1 := hide (OwnZ.rd e1.1)
        obtain ⟨lo2, hi2, e2⟩ := G31_10.out.get 0 rfl
        have E2 := hide (OwnZ.rd e2.1)
        clear e1 e2
        dsimp only [List.getElem_toArray, List.getElem_cons_zero, List.getElem_cons_succ]
        go_simp
        refine (C2.out _ _ _ E1.out E2.out).mono ?_
        rintro e' u31_11 ⟨v5, rfl, o, q⟩
        obtain ⟨a5, c5, rfl⟩ := row_slice o
        have G31_11 := hide (G31_10.out.add q (TBols.st _ _) ⟨o, row_top o⟩)
        clear q o E1 E2 lo1 hi1 lo2 hi2 hHeld G31_10
        refine hK.out _ _ (⟨(G31_11.out.atBox 12 rfl).c1, (G31_11.out.atBox 11 rfl).c1⟩) (fun hHeld => ?_)
        clear hK KK
        try simp only [Act.put, List.getElem_toArray, List.getElem_cons_zero, List.getElem_cons_succ, List.setIfInBounds_toArray, List.set_cons_zero, List.set_cons_succ]
        refine wpAnyH_take (i := 5) (v := ?v23) rfl (by kernel_rfl) (by kernel_rfl) (by kernel_rfl) (fun _ _ _ h => h) (Or.inl ⟨by rfl, ?hy23⟩) (by assumption) ?rest23
        case hy23 => (intro w' hSw; dsimp only [List.getElem_toArray, List.getElem_cons_zero, List.getElem_cons_succ] at hSw ⊢; go_simp; try (with_reducible rfl))
        try simp only [Act.put, List.getElem_toArray, List.getElem_cons_zero, List.getElem_cons_succ, List.setIfInBounds_toArray, List.set_cons_zero, List.set_cons_succ]
        refine wpAnyH_take (i := 6) (v := ?v24) rfl (by kernel_rfl) (by kernel_rfl) (by kernel_rfl) (fun _ _ _ h => h) (Or.inl ⟨by rfl, ?hy24⟩) (by assumption) ?rest24
        case hy24 => (intro w' hSw; dsimp only [List.getElem_toArray, List.getElem_cons_zero, List.getElem_cons_succ] at hSw ⊢; go_simp; try (with_reducible rfl))
        try simp only [Act.put, List.getElem_toArray, List.getElem_cons_zero, List.getElem_cons_succ, List.setIfInBounds_toArray, List.set_cons_zero, List.set_cons_succ]
        refine wpAnyH_take (i := 7) (v := ?v25) rfl (by kernel_rfl) (by kernel_rfl) (by kernel_rfl) (fun _ _ _ h => h) (Or.inl ⟨by rfl, ?hy25⟩) (by assumption) ?rest25
        case hy25 => (intro w' hSw; dsimp only [List.getElem_toArray, List.getElem_cons_zero, List.getElem_cons_succ] at hSw ⊢; go_simp; try (with_reducible rfl))
        try simp only [Act.put, List.getElem_toArray, List.getElem_cons_zero, List.getElem_cons_succ, List.setIfInBounds_toArray, List.set_cons_zero, List.set_cons_succ]
        refine wpAnyH_ready (rs := [9]) (by kernel_rfl) (by simp) ?_
        refine AllReadyH.cons rfl (fun KK hK => ?_) AllReadyH.nil
        have xr := G31_11.out.atBox 2 rfl
        have d0 := xr.c1
        have g0 := xr.frozen 0
        have G31_12 := hide (G31_11.out.setBoxT 2 rfl 0 (.slice a5 X.length c5))
        dsimp only [List.getElem_toArray, List.getElem_cons_zero, List.getElem_cons_succ]
        go_simp
        clear xr d0 g0 hHeld G31_11
        refine hK.out _ _ (⟨(G31_12.out.atBox 12 rfl).c1, (G31_12.out.atBox 11 rfl).c1⟩) (fun hHeld => ?_)
        clear hK KK
        try simp only [Act.put, List.getElem_toArray, List.getElem_cons_zero, List.getElem_cons_succ, List.setIfInBounds_toArray, List.set_cons_zero, List.set_cons_succ]
        refine wpAnyH_ready (rs := [10]) (by kernel_rfl) (by simp) ?_
        refine AllReadyH.cons rfl (fun KK hK => ?_) AllReadyH.nil
        dsimp only [List.getElem_toArray, List.getElem_cons_zero, List.getElem_cons_succ]
        go_simp
        refine hK.out _ _ (⟨(G31_12.out.atBox 12 rfl).c1, (G31_12.out.atBox 11 rfl).c1⟩) (fun hHeld => ?_)
        clear hK KK
        try simp only [Act.put, List.getElem_toArray, List.getElem_cons_zero, List.getElem_cons_succ, List.setIfInBounds_toArray, List.set_cons_zero, List.set_cons_succ]
        refine wpAnyH_done (by kernel_rfl) ?_ _
        refine NoPanic.normal ?_
        clear hHeld
        go_wp2_with fail
        go_meet
        exact ⟨_, _, _, rfl, rfl, Hand.joinF4 G31_12.out (TBols.wf _ _) (TBols.wf _ _) (TBox.wf _ _ _) (TBols.wf _ _) (TVaF.st _ _ _) (fun lo hi w' z0 z1 z2 z3 => ⟨z2, z0⟩)⟩
    · dsimp only [List.getElem_toArray, List.getElem_cons_zero, List.getElem_cons_succ]
      go_simp
      have G31_13 := hide (G31_0.out.box #[.slice none 0 0] 46)
      obtain ⟨g6, hg6⟩ : ∃ g6, g6 = u31_0.heap.size := ⟨_, rfl⟩
      rw [← hg6] at G31_13 ⊢
      clear hg6
      generalize u31_0.alloc (.cells #[.slice none 0 0] 46) = u31_13 at G31_13 ⊢
      clear hHeld G31_0
      refine hK.out _ _ (⟨(G31_13.out.atBox 9 rfl).c1, (G31_13.out.atBox 8 rfl).c1⟩) (fun hHeld => ?_)
      clear hK KK
      try simp only [Act.put, List.getElem_toArray, List.getElem_cons_zero, List.getElem_cons_succ, List.setIfInBounds_toArray, List.set_cons_zero, List.set_cons_succ]
      refine wpAnyH_ready (rs := [1]) (by kernel_rfl) (by simp) ?_
      refine AllReadyH.cons rfl (fun KK hK => ?_) (AllReadyH.nil)
      dsimp only [List.getElem_toArray, List.getElem_cons_zero, List.getElem_cons_succ]
      go_simp
      refine (toFilter_calls f fs _ (RF.out.below G31_13.out.below) SZ.out).mono ?_
      rintro e' u31_14 ⟨v2, rfl, o, q⟩
      obtain ⟨a2, c2, rfl⟩ := row_slice o
      have G31_14 := hide (G31_13.out.add q (TBols.st _ _) ⟨o, row_top o⟩)
      clear q o hHeld G31_13
      refine hK.out _ _ (⟨(G31_14.out.atBox 10 rfl).c1, (G31_14.out.atBox 9 rfl).c1⟩) (fun hHeld => ?_)
      clear hK KK
      try simp only [Act.put, List.getElem_toArray, List.getElem_cons_zero, List.getElem_cons_succ, List.setIfInBounds_toArray, List.set_cons_zero, List.set_cons_succ]
      refine wpAnyH_ready (rs := [3]) (by kernel_rfl) (by simp) ?_
      refine AllReadyH.cons rfl (fun KK hK => ?_) (AllReadyH.nil)
      dsimp only [List.getElem_toArray, List.getElem_cons_zero, List.getElem_cons_succ]
      go_simp
      refine (toFilter_calls f' gs _ (RG.out.below G31_14.out.below) SY.out).mono ?_
      rintro e' u31_15 ⟨v4, rfl, o, q⟩
      obtain ⟨a4, c4, rfl⟩ := row_slice o
      have G31_15 := hide (G31_14.out.add q (TBols.st _ _) ⟨o, row_top o⟩)
      clear q o hHeld G31_14
      refine hK.out _ _ (⟨(G31_15.out.atBox 11 rfl).c1, (G31_15.out.atBox 10 rfl).c1⟩) (fun hHeld => ?_)
      clear hK KK
      try simp only [Act.put, List.getElem_toArray, List.getElem_cons_zero, List.getElem_cons_succ, List.setIfInBounds_toArray, List.set_cons_zero, List.set_cons_succ]
      refine wpAnyH_ready (rs := [4]) (by kernel_rfl) (by simp) ?_
      refine AllReadyH.cons rfl (fun KK hK => ?_) (AllReadyH.nil)
      obtain ⟨lo1, hi1, e1⟩ := G31_15.out.get 1 rfl
      have E1 := hide (OwnZ.rd e1.1)
      obtain ⟨lo2, hi2, e2⟩ := G31_15.out.get 0 rfl
      have E2 := hide (OwnZ.rd e2.1)
      clear e1 e2
      dsimp only [List.getElem_toArray, List.getElem_cons_zero, List.getElem_cons_succ]
      go_simp
      refine (C2.out _ _ _ E1.out E2.out).mono ?_
      rintro e' u31_16 ⟨v5, rfl, o, q⟩
      obtain ⟨a5, c5, rfl⟩ := row_slice o
      have G31_16 := hide (G31_15.out.add q (TBols.st _ _) ⟨o, row_top o⟩)
      clear q o E1 E2 lo1 hi1 lo2 hi2 hHeld G31_15
      refine hK.out _ _ (⟨(G31_16.out.atBox 12 rfl).c1, (G31_16.out.atBox 11 rfl).c1⟩) (fun hHeld => ?_)
      clear hK KK
      try simp only [Act.put, List.getElem_toArray, List.getElem_cons_zero, List.getElem_cons_succ, List.setIfInBounds_toArray, List.set_cons_zero, List.set_cons_succ]
      refine wpAnyH_take (i := 5) (v := ?v26) rfl (by kernel_rfl) (by kernel_rfl) (by kernel_rfl) (fun _ _ _ h => h) (Or.inl ⟨by rfl, ?hy26⟩) (by assumption) ?rest26
      case hy26 => (intro w' hSw; dsimp only [List.getElem_toArray, List.getElem_cons_zero, List.getElem_cons_succ] at hSw ⊢; go_simp; try (with_reducible rfl))
      try simp only [Act.put, List.getElem_toArray, List.getElem_cons_zero, List.getElem_cons_succ, List.setIfInBounds_toArray, List.set_cons_zero, List.set_cons_succ]
      refine wpAnyH_take (i := 6) (v := ?v27) rfl (by kernel_rfl) (by kernel_rfl) (by kernel_rfl) (fun _ _ _ h => h) (Or.inl ⟨by rfl, ?hy27⟩) (by assumption) ?rest27
      case hy27 => (intro w' hSw; dsimp only [List.getElem_toArray, List.getElem_cons_zero, List.getElem_cons_succ] at hSw ⊢; go_simp; try (with_reducible rfl))
      try simp only [Act.put, List.getElem_toArray, List.getElem_cons_zero, List.getElem_cons_succ, List.setIfInBounds_toArray, List.set_cons_zero, List.set_cons_succ]
      refine wpAnyH_take (i := 7) (v := ?v28) rfl (by kernel_rfl) (by kernel_rfl) (by kernel_rfl) (fun _ _ _ h => h) (Or.inl ⟨by rfl, ?hy28⟩) (by assumption) ?rest28
      case hy28 => (intro w' hSw; dsimp only [List.getElem_toArray, List.getElem_cons_zero, List.getElem_cons_succ] at hSw ⊢; go_simp; try (with_reducible rfl))
      try simp only [Act.put, List.getElem_toArray, List.getElem_cons_zero, List.getElem_cons_succ, List.setIfInBounds_toArray, List.set_cons_zero, List.set_cons_succ]
      refine wpAnyH_ready (rs := [9]) (by kernel_rfl) (by simp) ?_
      refine AllReadyH.cons rfl (fun KK hK => ?_) AllReadyH.nil
      have xr := G31_16.out.atBox 3 rfl
      have d0 := xr.c1
      have g0 := xr.frozen 0
      have G31_17 := hide (G31_16.out.setBoxT 3 rfl 0 (.slice a5 X.length c5))
      dsimp only [List.getElem_toArray, List.getElem_cons_zero, List.getElem_cons_succ]
      go_simp
      clear xr d0 g0 hHeld G31_16
      refine hK.out _ _ (⟨(G31_17.out.atBox 12 rfl).c1, (G31_17.out.atBox 11 rfl).c1⟩) (fun hHeld => ?_)
      clear hK KK
      try simp only [Act.put, List.getElem_toArray, List.getElem_cons_zero, List.getElem_cons_succ, List.setIfInBounds_toArray, List.set_cons_zero, List.set_cons_succ]
      refine wpAnyH_ready (rs := [10]) (by kernel_rfl) (by simp) ?_
      refine AllReadyH.cons rfl (fun KK hK => ?_) AllReadyH.nil
      dsimp only [List.getElem_toArray, List.getElem_cons_zero, List.getElem_cons_succ]
      go_simp
      refine hK.out _ _ (⟨(G31_17.out.atBox 12 rfl).c1, (G31_17.out.atBox 11 rfl).c1⟩) (fun hHeld => ?_)
      clear hK KK
      try simp only [Act.put, List.getElem_toArray, List.getElem_cons_zero, List.getElem_cons_succ, List.setIfInBounds_toArray, List.set_cons_zero, List.set_cons_succ]
      refine wpAnyH_done (by kernel_rfl) ?_ _
      refine NoPanic.normal ?_
      clear hHeld
      go_wp2_with fail
      go_meet
      exact ⟨_, _, _, rfl, rfl, Hand.joinF4 G31_17.out (TBols.wf _ _) (TBols.wf _ _) (TBols.wf _ _) (TBox.wf _ _ _) (TVaF.st _ _ _) (fun lo hi w' z0 z1 z2 z3 => ⟨z3, z0⟩)⟩
  case rest =>
  obtain ⟨gh, ah, ch, rfl, rfl, hhh⟩ := hcut
  have A15 := hide hhh
  clear hhh A14
  generalize wc = w15 at *
  have ch0 := (A15.out.varF 0 rfl).1.c1
  have cW0 := (A15.out.varF 7 rfl).1.c1
  obtain ⟨loh, hih, dh⟩ := (A15.out.varF 0 rfl).2
  have Dh := hide (OwnZ.rd dh.1)
  clear dh
  obtain ⟨loW, hiW, dW⟩ := (A15.out.varF 7 rfl).2
  have DW := hide (OwnZ.rd dW.1)
  clear dW
  go_wp2_with fail
  refine (eqFilter_same _ _ X _ Dh.out DW.out).mono ?_
  rintro e w16 ⟨rfl, q⟩
  have A16 := hide (A15.out.step q)
  clear A15 ch0 cW0 Dh loh hih DW loW hiW q
  have cbg0 := (A16.out.atBox 1 rfl).c1
  obtain ⟨log, hig, dg⟩ := A16.out.get 2 rfl
  have Dg := hide (OwnZ.rd dg.1)
  clear dg
  go_wp2_with fail
  refine (heldFilter_calls _ X.length 1 _ Dg.out (by omega) (by omega) XL).mono ?_
  rintro e w17 ⟨rfl, q⟩
  have A17 := hide (A16.out.step q)
  clear A16 cbg0 Dg log hig q
  go_wp2
  go_ret
  exact ⟨rfl, A17.out.below⟩
end Go.Proofs.Ytehjfjplajimfaa

/-
  The model's copy of a disk, call by call. The contract says what it asks.
-/
import Derived.Test.YtbgadbokejaomaaGreatDoorRewriteAtB9
namespace Go.Proofs.YtbgadbokejaomaaGreatDoor
open Go.RowKit
set_option linter.unusedVariables false

theorem own_apart {v u : Value} {hi lo : Nat} (h1 : ∀ k, v.ownBlock = some k → k < hi) (h2 : ∀ k, u.ownBlock = some k → lo ≤ k) (h : hi ≤ lo) : v.ownBlock = none ∨ v.ownBlock ≠ u.ownBlock := by
  cases hv : v.ownBlock with
  | none => exact .inl rfl
  | some x =>
    right
    intro e
    have := h1 x hv
    have := h2 x e.symm
    omega

set_option linter.unusedSimpArgs false in
set_option maxRecDepth 100000 in
set_option maxHeartbeats 6400000 in
theorem l7Own_calls (p h b : Value) (P H : List ByteArray) (B : List Bool) (w : World) (hp : RdT w p P) (hh : RdT w h H) (hb : RdZ w b B) (hP : 0 < P.length ∧ P.length ≤ 24) (hH : 0 < H.length ∧ H.length ≤ 24) (hB : 0 < B.length ∧ B.length ≤ 24) :
    Calls Tryz.prog 60 #[.agg #[p, h, b]] w fun e w' => ∃ p' h' b', e = .returned (.agg #[p', h', b']) ∧ DskV w' w.heap.size w'.heap.size p' h' b' P H B ∧ Below w.heap.size w w' := by
  have RP := hide hp
  have RH := hide hh
  have RB := hide hb
  have SP := hide hp.small
  have SH := hide hh.small
  obtain ⟨wa, ea⟩ : ∃ wa, wa = w.alloc (.cells #[p, h, b] 26) := ⟨_, rfl⟩
  obtain ⟨W0, eb⟩ : ∃ wb, wb = wa.alloc (.cells nil3 26) := ⟨_, rfl⟩
  have sa : wa.heap.size = w.heap.size + 1 := by rw [ea]; simp
  have sb : W0.heap.size = w.heap.size + 1 + 1 := by rw [eb, World.size_alloc, sa]
  have ba : Below w.heap.size w wa := by rw [ea]; exact below_box _ _
  have bb : Below wa.heap.size wa W0 := by rw [eb]; exact below_box _ _
  have xa : BoxAt wa w.heap.size #[p, h, b] 26 := by rw [ea]; exact BoxAt.new _ _ _
  have xb : BoxAt W0 (w.heap.size + 1) nil3 26 := by rw [eb, ← sa]; exact BoxAt.new _ _ _
  have EW : Hid ((w.alloc (.cells #[p, h, b] 26)).alloc (.cells nil3 26) = W0) := by show _ = _; rw [eb, ea]
  have BZ0 := hide (ba.trans (bb.mono (by omega)))
  have XR0 := hide xb
  have XB0 := hide (xa.below bb)
  have VS0 := hide sb
  have F0 : Hid (∀ W, Below W0.heap.size W0 W → (W.cell? ⟨w.heap.size, 0, none⟩ = some p ∧ W.cell? ⟨w.heap.size, 1, none⟩ = some h ∧ W.cell? ⟨w.heap.size, 2, none⟩ = some b)) := fun W hW => (XB0.out.below hW).c3
  clear hp hh hb ea eb sa sb ba bb xa xb
  go_enter Tryz.func60, Tryz.ntmps60
  go_wp2
  rw [EW.out]
  refine wp_region_noPanic ?_
  refine wp_region_held_drew (S := fun w' => w'.cell? ⟨w.heap.size, 0, none⟩ = some p ∧ w'.cell? ⟨w.heap.size, 1, none⟩ = some h ∧ w'.cell? ⟨w.heap.size, 2, none⟩ = some b) (by kernel_rfl) (F0.out _ (Below.refl _ _).drew) (fun hHeld => ?_)
  have BZ := hide (BZ0.out.drew)
  have XR := hide (XR0.out.below (Below.refl _ _).drew)
  have XB := hide (XB0.out.below (Below.refl _ _).drew)
  have VS : Hid (W0.drew.heap.size = w.heap.size + 1 + 1) := VS0.out
  have F : Hid (∀ W, Below W0.drew.heap.size W0.drew W → (W.cell? ⟨w.heap.size, 0, none⟩ = some p ∧ W.cell? ⟨w.heap.size, 1, none⟩ = some h ∧ W.cell? ⟨w.heap.size, 2, none⟩ = some b)) := fun W hW => (XB.out.below hW).c3
  clear BZ0 XR0 XB0 VS0 F0 EW
  generalize W0.drew = V0 at *
  have BVV0 := hide (Below.refl V0.heap.size V0)
  refine wpAnyH_take (i := 1) (v := ?v1) rfl (by kernel_rfl) (by kernel_rfl) (by kernel_rfl) (fun _ _ _ h => h) (Or.inl ⟨by rfl, ?hy1⟩) (by assumption) ?rest1
  case hy1 => (intro w' hSw; dsimp only [List.getElem_toArray, List.getElem_cons_zero, List.getElem_cons_succ] at hSw ⊢; go_simp; try (with_reducible rfl))
  try simp only [Act.put, List.getElem_toArray, List.getElem_cons_zero, List.getElem_cons_succ, List.setIfInBounds_toArray, List.set_cons_zero, List.set_cons_succ]
  refine wpAnyH_take (i := 2) (v := ?v2) rfl (by kernel_rfl) (by kernel_rfl) (by kernel_rfl) (fun _ _ _ h => h) (Or.inl ⟨by rfl, ?hy2⟩) (by assumption) ?rest2
  case hy2 => (intro w' hSw; dsimp only [List.getElem_toArray, List.getElem_cons_zero, List.getElem_cons_succ] at hSw ⊢; go_simp; try (with_reducible rfl))
  try simp only [Act.put, List.getElem_toArray, List.getElem_cons_zero, List.getElem_cons_succ, List.setIfInBounds_toArray, List.set_cons_zero, List.set_cons_succ]
  refine wpAnyH_take (i := 5) (v := ?v3) rfl (by kernel_rfl) (by kernel_rfl) (by kernel_rfl) (fun _ _ _ h => h) (Or.inl ⟨by rfl, ?hy3⟩) (by assumption) ?rest3
  case hy3 => (intro w' hSw; dsimp only [List.getElem_toArray, List.getElem_cons_zero, List.getElem_cons_succ] at hSw ⊢; go_simp; try (with_reducible rfl))
  try simp only [Act.put, List.getElem_toArray, List.getElem_cons_zero, List.getElem_cons_succ, List.setIfInBounds_toArray, List.set_cons_zero, List.set_cons_succ]
  refine wpAnyH_take (i := 6) (v := ?v4) rfl (by kernel_rfl) (by kernel_rfl) (by kernel_rfl) (fun _ _ _ h => h) (Or.inl ⟨by rfl, ?hy4⟩) (by assumption) ?rest4
  case hy4 => (intro w' hSw; dsimp only [List.getElem_toArray, List.getElem_cons_zero, List.getElem_cons_succ] at hSw ⊢; go_simp; try (with_reducible rfl))
  try simp only [Act.put, List.getElem_toArray, List.getElem_cons_zero, List.getElem_cons_succ, List.setIfInBounds_toArray, List.set_cons_zero, List.set_cons_succ]
  refine wpAnyH_take (i := 9) (v := ?v5) rfl (by kernel_rfl) (by kernel_rfl) (by kernel_rfl) (fun _ _ _ h => h) (Or.inl ⟨by rfl, ?hy5⟩) (by assumption) ?rest5
  case hy5 => (intro w' hSw; dsimp only [List.getElem_toArray, List.getElem_cons_zero, List.getElem_cons_succ] at hSw ⊢; go_simp; try (with_reducible rfl))
  try simp only [Act.put, List.getElem_toArray, List.getElem_cons_zero, List.getElem_cons_succ, List.setIfInBounds_toArray, List.set_cons_zero, List.set_cons_succ]
  refine wpAnyH_take (i := 10) (v := ?v6) rfl (by kernel_rfl) (by kernel_rfl) (by kernel_rfl) (fun _ _ _ h => h) (Or.inl ⟨by rfl, ?hy6⟩) (by assumption) ?rest6
  case hy6 => (intro w' hSw; dsimp only [List.getElem_toArray, List.getElem_cons_zero, List.getElem_cons_succ] at hSw ⊢; go_simp; try (with_reducible rfl))
  try simp only [Act.put, List.getElem_toArray, List.getElem_cons_zero, List.getElem_cons_succ, List.setIfInBounds_toArray, List.set_cons_zero, List.set_cons_succ]
  refine wpAnyH_ready (rs := [0, 4, 8]) (by kernel_rfl) (by simp) ?_
  refine AllReadyH.cons rfl (fun K hK => ?_) (AllReadyH.cons rfl (fun K hK => ?_) (AllReadyH.cons rfl (fun K hK => ?_) (AllReadyH.nil)))
  · dsimp only [List.getElem_toArray, List.getElem_cons_zero, List.getElem_cons_succ]
    go_simp
    have bb := below_box V0 (.cells #[] 9)
    generalize V0.alloc (.cells #[] 9) = u1 at bb ⊢
    have BVu1 := hide (BVV0.out.trans (bb.mono BVV0.out.size))
    have szu1 := bb.size
    clear bb hHeld
    refine hK.out _ _ (F.out _ BVu1.out) (fun hHeld => ?_)
    clear hK K
    try simp only [Act.put, List.getElem_toArray, List.getElem_cons_zero, List.getElem_cons_succ, List.setIfInBounds_toArray, List.set_cons_zero, List.set_cons_succ]
    refine wpAnyH_ready (rs := [3, 4, 8]) (by kernel_rfl) (by simp) ?_
    refine AllReadyH.cons rfl (fun K hK => ?_) (AllReadyH.cons rfl (fun K hK => ?_) (AllReadyH.cons rfl (fun K hK => ?_) (AllReadyH.nil)))
    · refine step_app_txt (by rfl) (.tmp 3) (.tmp 5) (by rfl) V0.heap.size (by rfl) _ (by rfl) P (RP.out.below (BZ.out.trans (BVu1.out.mono BZ.out.size))) hP.1 hP.2 ?_
      intro v1 u2 o bb
      have T1 := hide (row_top o)
      have L1 := hide (row_low o)
      obtain ⟨a1, c1, rfl⟩ := row_slice o
      have BVu2 := hide (BVu1.out.trans (bb.mono BVu1.out.size))
      have szu2 := bb.size
      have O1 := hide o
      clear bb hHeld o
      refine hK.out _ _ (F.out _ BVu2.out) (fun hHeld => ?_)
      clear hK K
      try simp only [Act.put, List.getElem_toArray, List.getElem_cons_zero, List.getElem_cons_succ, List.setIfInBounds_toArray, List.set_cons_zero, List.set_cons_succ]
      refine wpAnyH_ready (rs := [4, 8]) (by kernel_rfl) (by simp) ?_
      refine AllReadyH.cons rfl (fun K hK => ?_) (AllReadyH.cons rfl (fun K hK => ?_) (AllReadyH.nil))
      · dsimp only [List.getElem_toArray, List.getElem_cons_zero, List.getElem_cons_succ]
        go_simp
        have bb := below_box u2 (.cells #[] 9)
        generalize u2.alloc (.cells #[] 9) = u3 at bb ⊢
        have BVu3 := hide (BVu2.out.trans (bb.mono BVu2.out.size))
        have szu3 := bb.size
        have O1 := hide (ownsRow_below O1.out bb)
        clear bb hHeld
        refine hK.out _ _ (F.out _ BVu3.out) (fun hHeld => ?_)
        clear hK K
        try simp only [Act.put, List.getElem_toArray, List.getElem_cons_zero, List.getElem_cons_succ, List.setIfInBounds_toArray, List.set_cons_zero, List.set_cons_succ]
        refine wpAnyH_ready (rs := [7, 8]) (by kernel_rfl) (by simp) ?_
        refine AllReadyH.cons rfl (fun K hK => ?_) (AllReadyH.cons rfl (fun K hK => ?_) (AllReadyH.nil))
        · refine step_app_txt (by rfl) (.tmp 7) (.tmp 9) (by rfl) u2.heap.size (by rfl) _ (by rfl) H (RH.out.below (BZ.out.trans (BVu3.out.mono BZ.out.size))) hH.1 hH.2 ?_
          intro v2 u4 o bb
          have T2 := hide (row_top o)
          have L2 := hide (row_low o)
          obtain ⟨a2, c2, rfl⟩ := row_slice o
          have BVu4 := hide (BVu3.out.trans (bb.mono BVu3.out.size))
          have szu4 := bb.size
          have O1 := hide (ownsRow_below O1.out bb)
          have O2 := hide o
          clear bb hHeld o
          refine hK.out _ _ (F.out _ BVu4.out) (fun hHeld => ?_)
          clear hK K
          try simp only [Act.put, List.getElem_toArray, List.getElem_cons_zero, List.getElem_cons_succ, List.setIfInBounds_toArray, List.set_cons_zero, List.set_cons_succ]
          refine wpAnyH_ready (rs := [8]) (by kernel_rfl) (by simp) ?_
          refine AllReadyH.cons rfl (fun K hK => ?_) (AllReadyH.nil)
          · dsimp only [List.getElem_toArray, List.getElem_cons_zero, List.getElem_cons_succ]
            go_simp
            have bb := below_box u4 (.cells #[] 4)
            generalize u4.alloc (.cells #[] 4) = u5 at bb ⊢
            have BVu5 := hide (BVu4.out.trans (bb.mono BVu4.out.size))
            have szu5 := bb.size
            have O1 := hide (ownsRow_below O1.out bb)
            have O2 := hide (ownsRow_below O2.out bb)
            clear bb hHeld
            refine hK.out _ _ (F.out _ BVu5.out) (fun hHeld => ?_)
            clear hK K
            try simp only [Act.put, List.getElem_toArray, List.getElem_cons_zero, List.getElem_cons_succ, List.setIfInBounds_toArray, List.set_cons_zero, List.set_cons_succ]
            refine wpAnyH_ready (rs := [11]) (by kernel_rfl) (by simp) ?_
            refine AllReadyH.cons rfl (fun K hK => ?_) (AllReadyH.nil)
            · refine step_app_bol (by rfl) (.tmp 11) (.tmp 13) (by rfl) u4.heap.size (by rfl) _ (by rfl) B (RB.out.below (BZ.out.trans (BVu5.out.mono BZ.out.size))) hB.1 hB.2 ?_
              intro v3 u6 o bb
              have T3 := hide (row_top o)
              have L3 := hide (row_low o)
              obtain ⟨a3, c3, rfl⟩ := row_slice o
              have BVu6 := hide (BVu5.out.trans (bb.mono BVu5.out.size))
              have szu6 := bb.size
              have O1 := hide (ownsRow_below O1.out bb)
              have O2 := hide (ownsRow_below O2.out bb)
              have O3 := hide o
              clear bb hHeld o
              refine hK.out _ _ (F.out _ BVu6.out) (fun hHeld => ?_)
              clear hK K
              try simp only [Act.put, List.getElem_toArray, List.getElem_cons_zero, List.getElem_cons_succ, List.setIfInBounds_toArray, List.set_cons_zero, List.set_cons_succ]
              refine wpAnyH_take (i := 12) (v := ?v7) rfl (by kernel_rfl) (by kernel_rfl) (by kernel_rfl) (fun _ _ _ h => h) (Or.inl ⟨by rfl, ?hy7⟩) (by assumption) ?rest7
              case hy7 => (intro w' hSw; dsimp only [List.getElem_toArray, List.getElem_cons_zero, List.getElem_cons_succ] at hSw ⊢; go_simp; try (with_reducible rfl))
              try simp only [Act.put, List.getElem_toArray, List.getElem_cons_zero, List.getElem_cons_succ, List.setIfInBounds_toArray, List.set_cons_zero, List.set_cons_succ]
              refine wpAnyH_ready (rs := [13]) (by kernel_rfl) (by simp) ?_
              refine AllReadyH.cons rfl (fun K hK => ?_) AllReadyH.nil
              have xr := hide (XR.out.below BVu6.out)
              have xb := hide (XB.out.below BVu6.out)
              obtain ⟨d0, d1, d2⟩ := xr.out.c3
              have g0 := xr.out.frozen 0
              have g1 := xr.out.frozen 1
              have g2 := xr.out.frozen 2
              dsimp only [List.getElem_toArray, List.getElem_cons_zero, List.getElem_cons_succ]
              go_simp
              clear d0 d1 d2 g0 g1 g2 hHeld
              have C6 := Chg.store3 (lo := w.heap.size + 1) (hi := w.heap.size + 1 + 1) u6 (w.heap.size + 1) (.slice a1 P.length c1) (.slice a2 H.length c2) (.slice a3 B.length c3) (Nat.le_refl _) (by omega)
              have XF := hide (xr.out.store3 (.slice a1 P.length c1) (.slice a2 H.length c2) (.slice a3 B.length c3))
              have CC := hide C6
              have s6 := C6.size
              have cb := (xb.out.chg C6 (.inl (by omega))).c3
              clear C6
              refine hK.out _ _ cb (fun hHeld => ?_)
              clear hK K cb hHeld
              try simp only [Act.put, List.getElem_toArray, List.getElem_cons_zero, List.getElem_cons_succ, List.setIfInBounds_toArray, List.set_cons_zero, List.set_cons_succ]
              refine wpAnyH_done (by kernel_rfl) ?_ _
              refine NoPanic.normal ?_
              go_wp2
              refine bodyPost_ret (res_dsk rfl _ _ (w.heap.size + 1) _ _ _ (0, 0) rfl XF.out) rfl ⟨_, _, _, rfl, ?_, (BZ.out.trans (BVu6.out.mono BZ.out.size)).trans (CC.out.below (by omega) (by have := BVu6.out.size; have := VS.out; omega))⟩
              have VS2 := VS.out
              have q1 := BVu6.out.size
              have dd : DskV u6 (w.heap.size + 1 + 1) u6.heap.size (.slice a1 P.length c1) (.slice a2 H.length c2) (.slice a3 B.length c3) P H B := ⟨ownsRow_mono O1.out (by omega), ownsRow_mono O2.out (by omega), ownsRow_mono O3.out (by omega), fun k hk => by have := T1.out k hk; omega, fun k hk => by have := T2.out k hk; omega, fun k hk => by have := T3.out k hk; omega, own_apart T1.out L2.out (by omega), SP.out, SH.out⟩
              exact (dd.chg CC.out (.inr (Nat.le_refl _))).wider (by omega) s6
        · dsimp only [List.getElem_toArray, List.getElem_cons_zero, List.getElem_cons_succ]
          go_simp
          have bb := below_box u3 (.cells #[] 4)
          generalize u3.alloc (.cells #[] 4) = u7 at bb ⊢
          have BVu7 := hide (BVu3.out.trans (bb.mono BVu3.out.size))
          have szu7 := bb.size
          have O1 := hide (ownsRow_below O1.out bb)
          clear bb hHeld
          refine hK.out _ _ (F.out _ BVu7.out) (fun hHeld => ?_)
          clear hK K
          try simp only [Act.put, List.getElem_toArray, List.getElem_cons_zero, List.getElem_cons_succ, List.setIfInBounds_toArray, List.set_cons_zero, List.set_cons_succ]
          refine wpAnyH_ready (rs := [7]) (by kernel_rfl) (by simp) ?_
          refine AllReadyH.cons rfl (fun K hK => ?_) (AllReadyH.nil)
          · refine step_app_txt (by rfl) (.tmp 7) (.tmp 9) (by rfl) u2.heap.size (by rfl) _ (by rfl) H (RH.out.below (BZ.out.trans (BVu7.out.mono BZ.out.size))) hH.1 hH.2 ?_
            intro v2 u8 o bb
            have T2 := hide (row_top o)
            have L2 := hide (row_low o)
            obtain ⟨a2, c2, rfl⟩ := row_slice o
            have BVu8 := hide (BVu7.out.trans (bb.mono BVu7.out.size))
            have szu8 := bb.size
            have O1 := hide (ownsRow_below O1.out bb)
            have O2 := hide o
            clear bb hHeld o
            refine hK.out _ _ (F.out _ BVu8.out) (fun hHeld => ?_)
            clear hK K
            try simp only [Act.put, List.getElem_toArray, List.getElem_cons_zero, List.getElem_cons_succ, List.setIfInBounds_toArray, List.set_cons_zero, List.set_cons_succ]
            refine wpAnyH_ready (rs := [11]) (by kernel_rfl) (by simp) ?_
            refine AllReadyH.cons rfl (fun K hK => ?_) (AllReadyH.nil)
            · refine step_app_bol (by rfl) (.tmp 11) (.tmp 13) (by rfl) u3.heap.size (by rfl) _ (by rfl) B (RB.out.below (BZ.out.trans (BVu8.out.mono BZ.out.size))) hB.1 hB.2 ?_
              intro v3 u9 o bb
              have T3 := hide (row_top o)
              have L3 := hide (row_low o)
              obtain ⟨a3, c3, rfl⟩ := row_slice o
              have BVu9 := hide (BVu8.out.trans (bb.mono BVu8.out.size))
              have szu9 := bb.size
              have O1 := hide (ownsRow_below O1.out bb)
              have O2 := hide (ownsRow_below O2.out bb)
              have O3 := hide o
              clear bb hHeld o
              refine hK.out _ _ (F.out _ BVu9.out) (fun hHeld => ?_)
              clear hK K
              try simp only [Act.put, List.getElem_toArray, List.getElem_cons_zero, List.getElem_cons_succ, List.setIfInBounds_toArray, List.set_cons_zero, List.set_cons_succ]
              refine wpAnyH_take (i := 12) (v := ?v8) rfl (by kernel_rfl) (by kernel_rfl) (by kernel_rfl) (fun _ _ _ h => h) (Or.inl ⟨by rfl, ?hy8⟩) (by assumption) ?rest8
              case hy8 => (intro w' hSw; dsimp only [List.getElem_toArray, List.getElem_cons_zero, List.getElem_cons_succ] at hSw ⊢; go_simp; try (with_reducible rfl))
              try simp only [Act.put, List.getElem_toArray, List.getElem_cons_zero, List.getElem_cons_succ, List.setIfInBounds_toArray, List.set_cons_zero, List.set_cons_succ]
              refine wpAnyH_ready (rs := [13]) (by kernel_rfl) (by simp) ?_
              refine AllReadyH.cons rfl (fun K hK => ?_) AllReadyH.nil
              have xr := hide (XR.out.below BVu9.out)
              have xb := hide (XB.out.below BVu9.out)
              obtain ⟨d0, d1, d2⟩ := xr.out.c3
              have g0 := xr.out.frozen 0
              have g1 := xr.out.frozen 1
              have g2 := xr.out.frozen 2
              dsimp only [List.getElem_toArray, List.getElem_cons_zero, List.getElem_cons_succ]
              go_simp
              clear d0 d1 d2 g0 g1 g2 hHeld
              have C6 := Chg.store3 (lo := w.heap.size + 1) (hi := w.heap.size + 1 + 1) u9 (w.heap.size + 1) (.slice a1 P.length c1) (.slice a2 H.length c2) (.slice a3 B.length c3) (Nat.le_refl _) (by omega)
              have XF := hide (xr.out.store3 (.slice a1 P.length c1) (.slice a2 H.length c2) (.slice a3 B.length c3))
              have CC := hide C6
              have s6 := C6.size
              have cb := (xb.out.chg C6 (.inl (by omega))).c3
              clear C6
              refine hK.out _ _ cb (fun hHeld => ?_)
              clear hK K cb hHeld
              try simp only [Act.put, List.getElem_toArray, List.getElem_cons_zero, List.getElem_cons_succ, List.setIfInBounds_toArray, List.set_cons_zero, List.set_cons_succ]
              refine wpAnyH_done (by kernel_rfl) ?_ _
              refine NoPanic.normal ?_
              go_wp2
              refine bodyPost_ret (res_dsk rfl _ _ (w.heap.size + 1) _ _ _ (0, 0) rfl XF.out) rfl ⟨_, _, _, rfl, ?_, (BZ.out.trans (BVu9.out.mono BZ.out.size)).trans (CC.out.below (by omega) (by have := BVu9.out.size; have := VS.out; omega))⟩
              have VS2 := VS.out
              have q1 := BVu9.out.size
              have dd : DskV u9 (w.heap.size + 1 + 1) u9.heap.size (.slice a1 P.length c1) (.slice a2 H.length c2) (.slice a3 B.length c3) P H B := ⟨ownsRow_mono O1.out (by omega), ownsRow_mono O2.out (by omega), ownsRow_mono O3.out (by omega), fun k hk => by have := T1.out k hk; omega, fun k hk => by have := T2.out k hk; omega, fun k hk => by have := T3.out k hk; omega, own_apart T1.out L2.out (by omega), SP.out, SH.out⟩
              exact (dd.chg CC.out (.inr (Nat.le_refl _))).wider (by omega) s6
      · dsimp only [List.getElem_toArray, List.getElem_cons_zero, List.getElem_cons_succ]
        go_simp
        have bb := below_box u2 (.cells #[] 4)
        generalize u2.alloc (.cells #[] 4) = u10 at bb ⊢
        have BVu10 := hide (BVu2.out.trans (bb.mono BVu2.out.size))
        have szu10 := bb.size
        have O1 := hide (ownsRow_below O1.out bb)
        clear bb hHeld
        refine hK.out _ _ (F.out _ BVu10.out) (fun hHeld => ?_)
        clear hK K
        try simp only [Act.put, List.getElem_toArray, List.getElem_cons_zero, List.getElem_cons_succ, List.setIfInBounds_toArray, List.set_cons_zero, List.set_cons_succ]
        refine wpAnyH_ready (rs := [4]) (by kernel_rfl) (by simp) ?_
        refine AllReadyH.cons rfl (fun K hK => ?_) (AllReadyH.nil)
        · dsimp only [List.getElem_toArray, List.getElem_cons_zero, List.getElem_cons_succ]
          go_simp
          have bb := below_box u10 (.cells #[] 9)
          generalize u10.alloc (.cells #[] 9) = u11 at bb ⊢
          have BVu11 := hide (BVu10.out.trans (bb.mono BVu10.out.size))
          have szu11 := bb.size
          have O1 := hide (ownsRow_below O1.out bb)
          clear bb hHeld
          refine hK.out _ _ (F.out _ BVu11.out) (fun hHeld => ?_)
          clear hK K
          try simp only [Act.put, List.getElem_toArray, List.getElem_cons_zero, List.getElem_cons_succ, List.setIfInBounds_toArray, List.set_cons_zero, List.set_cons_succ]
          refine wpAnyH_ready (rs := [7]) (by kernel_rfl) (by simp) ?_
          refine AllReadyH.cons rfl (fun K hK => ?_) (AllReadyH.nil)
          · refine step_app_txt (by rfl) (.tmp 7) (.tmp 9) (by rfl) u10.heap.size (by rfl) _ (by rfl) H (RH.out.below (BZ.out.trans (BVu11.out.mono BZ.out.size))) hH.1 hH.2 ?_
            intro v2 u12 o bb
            have T2 := hide (row_top o)
            have L2 := hide (row_low o)
            obtain ⟨a2, c2, rfl⟩ := row_slice o
            have BVu12 := hide (BVu11.out.trans (bb.mono BVu11.out.size))
            have szu12 := bb.size
            have O1 := hide (ownsRow_below O1.out bb)
            have O2 := hide o
            clear bb hHeld o
            refine hK.out _ _ (F.out _ BVu12.out) (fun hHeld => ?_)
            clear hK K
            try simp only [Act.put, List.getElem_toArray, List.getElem_cons_zero, List.getElem_cons_succ, List.setIfInBounds_toArray, List.set_cons_zero, List.set_cons_succ]
            refine wpAnyH_ready (rs := [11]) (by kernel_rfl) (by simp) ?_
            refine AllReadyH.cons rfl (fun K hK => ?_) (AllReadyH.nil)
            · refine step_app_bol (by rfl) (.tmp 11) (.tmp 13) (by rfl) u2.heap.size (by rfl) _ (by rfl) B (RB.out.below (BZ.out.trans (BVu12.out.mono BZ.out.size))) hB.1 hB.2 ?_
              intro v3 u13 o bb
              have T3 := hide (row_top o)
              have L3 := hide (row_low o)
              obtain ⟨a3, c3, rfl⟩ := row_slice o
              have BVu13 := hide (BVu12.out.trans (bb.mono BVu12.out.size))
              have szu13 := bb.size
              have O1 := hide (ownsRow_below O1.out bb)
              have O2 := hide (ownsRow_below O2.out bb)
              have O3 := hide o
              clear bb hHeld o
              refine hK.out _ _ (F.out _ BVu13.out) (fun hHeld => ?_)
              clear hK K
              try simp only [Act.put, List.getElem_toArray, List.getElem_cons_zero, List.getElem_cons_succ, List.setIfInBounds_toArray, List.set_cons_zero, List.set_cons_succ]
              refine wpAnyH_take (i := 12) (v := ?v9) rfl (by kernel_rfl) (by kernel_rfl) (by kernel_rfl) (fun _ _ _ h => h) (Or.inl ⟨by rfl, ?hy9⟩) (by assumption) ?rest9
              case hy9 => (intro w' hSw; dsimp only [List.getElem_toArray, List.getElem_cons_zero, List.getElem_cons_succ] at hSw ⊢; go_simp; try (with_reducible rfl))
              try simp only [Act.put, List.getElem_toArray, List.getElem_cons_zero, List.getElem_cons_succ, List.setIfInBounds_toArray, List.set_cons_zero, List.set_cons_succ]
              refine wpAnyH_ready (rs := [13]) (by kernel_rfl) (by simp) ?_
              refine AllReadyH.cons rfl (fun K hK => ?_) AllReadyH.nil
              have xr := hide (XR.out.below BVu13.out)
              have xb := hide (XB.out.below BVu13.out)
              obtain ⟨d0, d1, d2⟩ := xr.out.c3
              have g0 := xr.out.frozen 0
              have g1 := xr.out.frozen 1
              have g2 := xr.out.frozen 2
              dsimp only [List.getElem_toArray, List.getElem_cons_zero, List.getElem_cons_succ]
              go_simp
              clear d0 d1 d2 g0 g1 g2 hHeld
              have C6 := Chg.store3 (lo := w.heap.size + 1) (hi := w.heap.size + 1 + 1) u13 (w.heap.size + 1) (.slice a1 P.length c1) (.slice a2 H.length c2) (.slice a3 B.length c3) (Nat.le_refl _) (by omega)
              have XF := hide (xr.out.store3 (.slice a1 P.length c1) (.slice a2 H.length c2) (.slice a3 B.length c3))
              have CC := hide C6
              have s6 := C6.size
              have cb := (xb.out.chg C6 (.inl (by omega))).c3
              clear C6
              refine hK.out _ _ cb (fun hHeld => ?_)
              clear hK K cb hHeld
              try simp only [Act.put, List.getElem_toArray, List.getElem_cons_zero, List.getElem_cons_succ, List.setIfInBounds_toArray, List.set_cons_zero, List.set_cons_succ]
              refine wpAnyH_done (by kernel_rfl) ?_ _
              refine NoPanic.normal ?_
              go_wp2
              refine bodyPost_ret (res_dsk rfl _ _ (w.heap.size + 1) _ _ _ (0, 0) rfl XF.out) rfl ⟨_, _, _, rfl, ?_, (BZ.out.trans (BVu13.out.mono BZ.out.size)).trans (CC.out.below (by omega) (by have := BVu13.out.size; have := VS.out; omega))⟩
              have VS2 := VS.out
              have q1 := BVu13.out.size
              have dd : DskV u13 (w.heap.size + 1 + 1) u13.heap.size (.slice a1 P.length c1) (.slice a2 H.length c2) (.slice a3 B.length c3) P H B := ⟨ownsRow_mono O1.out (by omega), ownsRow_mono O2.out (by omega), ownsRow_mono O3.out (by omega), fun k hk => by have := T1.out k hk; omega, fun k hk => by have := T2.out k hk; omega, fun k hk => by have := T3.out k hk; omega, own_apart T1.out L2.out (by omega), SP.out, SH.out⟩
              exact (dd.chg CC.out (.inr (Nat.le_refl _))).wider (by omega) s6
    · dsimp only [List.getElem_toArray, List.getElem_cons_zero, List.getElem_cons_succ]
      go_simp
      have bb := below_box u1 (.cells #[] 9)
      generalize u1.alloc (.cells #[] 9) = u14 at bb ⊢
      have BVu14 := hide (BVu1.out.trans (bb.mono BVu1.out.size))
      have szu14 := bb.size
      clear bb hHeld
      refine hK.out _ _ (F.out _ BVu14.out) (fun hHeld => ?_)
      clear hK K
      try simp only [Act.put, List.getElem_toArray, List.getElem_cons_zero, List.getElem_cons_succ, List.setIfInBounds_toArray, List.set_cons_zero, List.set_cons_succ]
      refine wpAnyH_ready (rs := [3, 8]) (by kernel_rfl) (by simp) ?_
      refine AllReadyH.cons rfl (fun K hK => ?_) (AllReadyH.cons rfl (fun K hK => ?_) (AllReadyH.nil))
      · refine step_app_txt (by rfl) (.tmp 3) (.tmp 5) (by rfl) V0.heap.size (by rfl) _ (by rfl) P (RP.out.below (BZ.out.trans (BVu14.out.mono BZ.out.size))) hP.1 hP.2 ?_
        intro v1 u15 o bb
        have T1 := hide (row_top o)
        have L1 := hide (row_low o)
        obtain ⟨a1, c1, rfl⟩ := row_slice o
        have BVu15 := hide (BVu14.out.trans (bb.mono BVu14.out.size))
        have szu15 := bb.size
        have O1 := hide o
        clear bb hHeld o
        refine hK.out _ _ (F.out _ BVu15.out) (fun hHeld => ?_)
        clear hK K
        try simp only [Act.put, List.getElem_toArray, List.getElem_cons_zero, List.getElem_cons_succ, List.setIfInBounds_toArray, List.set_cons_zero, List.set_cons_succ]
        refine wpAnyH_ready (rs := [7, 8]) (by kernel_rfl) (by simp) ?_
        refine AllReadyH.cons rfl (fun K hK => ?_) (AllReadyH.cons rfl (fun K hK => ?_) (AllReadyH.nil))
        · refine step_app_txt (by rfl) (.tmp 7) (.tmp 9) (by rfl) u1.heap.size (by rfl) _ (by rfl) H (RH.out.below (BZ.out.trans (BVu15.out.mono BZ.out.size))) hH.1 hH.2 ?_
          intro v2 u16 o bb
          have T2 := hide (row_top o)
          have L2 := hide (row_low o)
          obtain ⟨a2, c2, rfl⟩ := row_slice o
          have BVu16 := hide (BVu15.out.trans (bb.mono BVu15.out.size))
          have szu16 := bb.size
          have O1 := hide (ownsRow_below O1.out bb)
          have O2 := hide o
          clear bb hHeld o
          refine hK.out _ _ (F.out _ BVu16.out) (fun hHeld => ?_)
          clear hK K
          try simp only [Act.put, List.getElem_toArray, List.getElem_cons_zero, List.getElem_cons_succ, List.setIfInBounds_toArray, List.set_cons_zero, List.set_cons_succ]
          refine wpAnyH_ready (rs := [8]) (by kernel_rfl) (by simp) ?_
          refine AllReadyH.cons rfl (fun K hK => ?_) (AllReadyH.nil)
          · dsimp only [List.getElem_toArray, List.getElem_cons_zero, List.getElem_cons_succ]
            go_simp
            have bb := below_box u16 (.cells #[] 4)
            generalize u16.alloc (.cells #[] 4) = u17 at bb ⊢
            have BVu17 := hide (BVu16.out.trans (bb.mono BVu16.out.size))
            have szu17 := bb.size
            have O1 := hide (ownsRow_below O1.out bb)
            have O2 := hide (ownsRow_below O2.out bb)
            clear bb hHeld
            refine hK.out _ _ (F.out _ BVu17.out) (fun hHeld => ?_)
            clear hK K
            try simp only [Act.put, List.getElem_toArray, List.getElem_cons_zero, List.getElem_cons_succ, List.setIfInBounds_toArray, List.set_cons_zero, List.set_cons_succ]
            refine wpAnyH_ready (rs := [11]) (by kernel_rfl) (by simp) ?_
            refine AllReadyH.cons rfl (fun K hK => ?_) (AllReadyH.nil)
            · refine step_app_bol (by rfl) (.tmp 11) (.tmp 13) (by rfl) u16.heap.size (by rfl) _ (by rfl) B (RB.out.below (BZ.out.trans (BVu17.out.mono BZ.out.size))) hB.1 hB.2 ?_
              intro v3 u18 o bb
              have T3 := hide (row_top o)
              have L3 := hide (row_low o)
              obtain ⟨a3, c3, rfl⟩ := row_slice o
              have BVu18 := hide (BVu17.out.trans (bb.mono BVu17.out.size))
              have szu18 := bb.size
              have O1 := hide (ownsRow_below O1.out bb)
              have O2 := hide (ownsRow_below O2.out bb)
              have O3 := hide o
              clear bb hHeld o
              refine hK.out _ _ (F.out _ BVu18.out) (fun hHeld => ?_)
              clear hK K
              try simp only [Act.put, List.getElem_toArray, List.getElem_cons_zero, List.getElem_cons_succ, List.setIfInBounds_toArray, List.set_cons_zero, List.set_cons_succ]
              refine wpAnyH_take (i := 12) (v := ?v10) rfl (by kernel_rfl) (by kernel_rfl) (by kernel_rfl) (fun _ _ _ h => h) (Or.inl ⟨by rfl, ?hy10⟩) (by assumption) ?rest10
              case hy10 => (intro w' hSw; dsimp only [List.getElem_toArray, List.getElem_cons_zero, List.getElem_cons_succ] at hSw ⊢; go_simp; try (with_reducible rfl))
              try simp only [Act.put, List.getElem_toArray, List.getElem_cons_zero, List.getElem_cons_succ, List.setIfInBounds_toArray, List.set_cons_zero, List.set_cons_succ]
              refine wpAnyH_ready (rs := [13]) (by kernel_rfl) (by simp) ?_
              refine AllReadyH.cons rfl (fun K hK => ?_) AllReadyH.nil
              have xr := hide (XR.out.below BVu18.out)
              have xb := hide (XB.out.below BVu18.out)
              obtain ⟨d0, d1, d2⟩ := xr.out.c3
              have g0 := xr.out.frozen 0
              have g1 := xr.out.frozen 1
              have g2 := xr.out.frozen 2
              dsimp only [List.getElem_toArray, List.getElem_cons_zero, List.getElem_cons_succ]
              go_simp
              clear d0 d1 d2 g0 g1 g2 hHeld
              have C6 := Chg.store3 (lo := w.heap.size + 1) (hi := w.heap.size + 1 + 1) u18 (w.heap.size + 1) (.slice a1 P.length c1) (.slice a2 H.length c2) (.slice a3 B.length c3) (Nat.le_refl _) (by omega)
              have XF := hide (xr.out.store3 (.slice a1 P.length c1) (.slice a2 H.length c2) (.slice a3 B.length c3))
              have CC := hide C6
              have s6 := C6.size
              have cb := (xb.out.chg C6 (.inl (by omega))).c3
              clear C6
              refine hK.out _ _ cb (fun hHeld => ?_)
              clear hK K cb hHeld
              try simp only [Act.put, List.getElem_toArray, List.getElem_cons_zero, List.getElem_cons_succ, List.setIfInBounds_toArray, List.set_cons_zero, List.set_cons_succ]
              refine wpAnyH_done (by kernel_rfl) ?_ _
              refine NoPanic.normal ?_
              go_wp2
              refine bodyPost_ret (res_dsk rfl _ _ (w.heap.size + 1) _ _ _ (0, 0) rfl XF.out) rfl ⟨_, _, _, rfl, ?_, (BZ.out.trans (BVu18.out.mono BZ.out.size)).trans (CC.out.below (by omega) (by have := BVu18.out.size; have := VS.out; omega))⟩
              have VS2 := VS.out
              have q1 := BVu18.out.size
              have dd : DskV u18 (w.heap.size + 1 + 1) u18.heap.size (.slice a1 P.length c1) (.slice a2 H.length c2) (.slice a3 B.length c3) P H B := ⟨ownsRow_mono O1.out (by omega), ownsRow_mono O2.out (by omega), ownsRow_mono O3.out (by omega), fun k hk => by have := T1.out k hk; omega, fun k hk => by have := T2.out k hk; omega, fun k hk => by have := T3.out k hk; omega, own_apart T1.out L2.out (by omega), SP.out, SH.out⟩
              exact (dd.chg CC.out (.inr (Nat.le_refl _))).wider (by omega) s6
        · dsimp only [List.getElem_toArray, List.getElem_cons_zero, List.getElem_cons_succ]
          go_simp
          have bb := below_box u15 (.cells #[] 4)
          generalize u15.alloc (.cells #[] 4) = u19 at bb ⊢
          have BVu19 := hide (BVu15.out.trans (bb.mono BVu15.out.size))
          have szu19 := bb.size
          have O1 := hide (ownsRow_below O1.out bb)
          clear bb hHeld
          refine hK.out _ _ (F.out _ BVu19.out) (fun hHeld => ?_)
          clear hK K
          try simp only [Act.put, List.getElem_toArray, List.getElem_cons_zero, List.getElem_cons_succ, List.setIfInBounds_toArray, List.set_cons_zero, List.set_cons_succ]
          refine wpAnyH_ready (rs := [7]) (by kernel_rfl) (by simp) ?_
          refine AllReadyH.cons rfl (fun K hK => ?_) (AllReadyH.nil)
          · refine step_app_txt (by rfl) (.tmp 7) (.tmp 9) (by rfl) u1.heap.size (by rfl) _ (by rfl) H (RH.out.below (BZ.out.trans (BVu19.out.mono BZ.out.size))) hH.1 hH.2 ?_
            intro v2 u20 o bb
            have T2 := hide (row_top o)
            have L2 := hide (row_low o)
            obtain ⟨a2, c2, rfl⟩ := row_slice o
            have BVu20 := hide (BVu19.out.trans (bb.mono BVu19.out.size))
            have szu20 := bb.size
            have O1 := hide (ownsRow_below O1.out bb)
            have O2 := hide o
            clear bb hHeld o
            refine hK.out _ _ (F.out _ BVu20.out) (fun hHeld => ?_)
            clear hK K
            try simp only [Act.put, List.getElem_toArray, List.getElem_cons_zero, List.getElem_cons_succ, List.setIfInBounds_toArray, List.set_cons_zero, List.set_cons_succ]
            refine wpAnyH_ready (rs := [11]) (by kernel_rfl) (by simp) ?_
            refine AllReadyH.cons rfl (fun K hK => ?_) (AllReadyH.nil)
            · refine step_app_bol (by rfl) (.tmp 11) (.tmp 13) (by rfl) u15.heap.size (by rfl) _ (by rfl) B (RB.out.below (BZ.out.trans (BVu20.out.mono BZ.out.size))) hB.1 hB.2 ?_
              intro v3 u21 o bb
              have T3 := hide (row_top o)
              have L3 := hide (row_low o)
              obtain ⟨a3, c3, rfl⟩ := row_slice o
              have BVu21 := hide (BVu20.out.trans (bb.mono BVu20.out.size))
              have szu21 := bb.size
              have O1 := hide (ownsRow_below O1.out bb)
              have O2 := hide (ownsRow_below O2.out bb)
              have O3 := hide o
              clear bb hHeld o
              refine hK.out _ _ (F.out _ BVu21.out) (fun hHeld => ?_)
              clear hK K
              try simp only [Act.put, List.getElem_toArray, List.getElem_cons_zero, List.getElem_cons_succ, List.setIfInBounds_toArray, List.set_cons_zero, List.set_cons_succ]
              refine wpAnyH_take (i := 12) (v := ?v11) rfl (by kernel_rfl) (by kernel_rfl) (by kernel_rfl) (fun _ _ _ h => h) (Or.inl ⟨by rfl, ?hy11⟩) (by assumption) ?rest11
              case hy11 => (intro w' hSw; dsimp only [List.getElem_toArray, List.getElem_cons_zero, List.getElem_cons_succ] at hSw ⊢; go_simp; try (with_reducible rfl))
              try simp only [Act.put, List.getElem_toArray, List.getElem_cons_zero, List.getElem_cons_succ, List.setIfInBounds_toArray, List.set_cons_zero, List.set_cons_succ]
              refine wpAnyH_ready (rs := [13]) (by kernel_rfl) (by simp) ?_
              refine AllReadyH.cons rfl (fun K hK => ?_) AllReadyH.nil
              have xr := hide (XR.out.below BVu21.out)
              have xb := hide (XB.out.below BVu21.out)
              obtain ⟨d0, d1, d2⟩ := xr.out.c3
              have g0 := xr.out.frozen 0
              have g1 := xr.out.frozen 1
              have g2 := xr.out.frozen 2
              dsimp only [List.getElem_toArray, List.getElem_cons_zero, List.getElem_cons_succ]
              go_simp
              clear d0 d1 d2 g0 g1 g2 hHeld
              have C6 := Chg.store3 (lo := w.heap.size + 1) (hi := w.heap.size + 1 + 1) u21 (w.heap.size + 1) (.slice a1 P.length c1) (.slice a2 H.length c2) (.slice a3 B.length c3) (Nat.le_refl _) (by omega)
              have XF := hide (xr.out.store3 (.slice a1 P.length c1) (.slice a2 H.length c2) (.slice a3 B.length c3))
              have CC := hide C6
              have s6 := C6.size
              have cb := (xb.out.chg C6 (.inl (by omega))).c3
              clear C6
              refine hK.out _ _ cb (fun hHeld => ?_)
              clear hK K cb hHeld
              try simp only [Act.put, List.getElem_toArray, List.getElem_cons_zero, List.getElem_cons_succ, List.setIfInBounds_toArray, List.set_cons_zero, List.set_cons_succ]
              refine wpAnyH_done (by kernel_rfl) ?_ _
              refine NoPanic.normal ?_
              go_wp2
              refine bodyPost_ret (res_dsk rfl _ _ (w.heap.size + 1) _ _ _ (0, 0) rfl XF.out) rfl ⟨_, _, _, rfl, ?_, (BZ.out.trans (BVu21.out.mono BZ.out.size)).trans (CC.out.below (by omega) (by have := BVu21.out.size; have := VS.out; omega))⟩
              have VS2 := VS.out
              have q1 := BVu21.out.size
              have dd : DskV u21 (w.heap.size + 1 + 1) u21.heap.size (.slice a1 P.length c1) (.slice a2 H.length c2) (.slice a3 B.length c3) P H B := ⟨ownsRow_mono O1.out (by omega), ownsRow_mono O2.out (by omega), ownsRow_mono O3.out (by omega), fun k hk => by have := T1.out k hk; omega, fun k hk => by have := T2.out k hk; omega, fun k hk => by have := T3.out k hk; omega, own_apart T1.out L2.out (by omega), SP.out, SH.out⟩
              exact (dd.chg CC.out (.inr (Nat.le_refl _))).wider (by omega) s6
      · dsimp only [List.getElem_toArray, List.getElem_cons_zero, List.getElem_cons_succ]
        go_simp
        have bb := below_box u14 (.cells #[] 4)
        generalize u14.alloc (.cells #[] 4) = u22 at bb ⊢
        have BVu22 := hide (BVu14.out.trans (bb.mono BVu14.out.size))
        have szu22 := bb.size
        clear bb hHeld
        refine hK.out _ _ (F.out _ BVu22.out) (fun hHeld => ?_)
        clear hK K
        try simp only [Act.put, List.getElem_toArray, List.getElem_cons_zero, List.getElem_cons_succ, List.setIfInBounds_toArray, List.set_cons_zero, List.set_cons_succ]
        refine wpAnyH_ready (rs := [3]) (by kernel_rfl) (by simp) ?_
        refine AllReadyH.cons rfl (fun K hK => ?_) (AllReadyH.nil)
        · refine step_app_txt (by rfl) (.tmp 3) (.tmp 5) (by rfl) V0.heap.size (by rfl) _ (by rfl) P (RP.out.below (BZ.out.trans (BVu22.out.mono BZ.out.size))) hP.1 hP.2 ?_
          intro v1 u23 o bb
          have T1 := hide (row_top o)
          have L1 := hide (row_low o)
          obtain ⟨a1, c1, rfl⟩ := row_slice o
          have BVu23 := hide (BVu22.out.trans (bb.mono BVu22.out.size))
          have szu23 := bb.size
          have O1 := hide o
          clear bb hHeld o
          refine hK.out _ _ (F.out _ BVu23.out) (fun hHeld => ?_)
          clear hK K
          try simp only [Act.put, List.getElem_toArray, List.getElem_cons_zero, List.getElem_cons_succ, List.setIfInBounds_toArray, List.set_cons_zero, List.set_cons_succ]
          refine wpAnyH_ready (rs := [7]) (by kernel_rfl) (by simp) ?_
          refine AllReadyH.cons rfl (fun K hK => ?_) (AllReadyH.nil)
          · refine step_app_txt (by rfl) (.tmp 7) (.tmp 9) (by rfl) u1.heap.size (by rfl) _ (by rfl) H (RH.out.below (BZ.out.trans (BVu23.out.mono BZ.out.size))) hH.1 hH.2 ?_
            intro v2 u24 o bb
            have T2 := hide (row_top o)
            have L2 := hide (row_low o)
            obtain ⟨a2, c2, rfl⟩ := row_slice o
            have BVu24 := hide (BVu23.out.trans (bb.mono BVu23.out.size))
            have szu24 := bb.size
            have O1 := hide (ownsRow_below O1.out bb)
            have O2 := hide o
            clear bb hHeld o
            refine hK.out _ _ (F.out _ BVu24.out) (fun hHeld => ?_)
            clear hK K
            try simp only [Act.put, List.getElem_toArray, List.getElem_cons_zero, List.getElem_cons_succ, List.setIfInBounds_toArray, List.set_cons_zero, List.set_cons_succ]
            refine wpAnyH_ready (rs := [11]) (by kernel_rfl) (by simp) ?_
            refine AllReadyH.cons rfl (fun K hK => ?_) (AllReadyH.nil)
            · refine step_app_bol (by rfl) (.tmp 11) (.tmp 13) (by rfl) u14.heap.size (by rfl) _ (by rfl) B (RB.out.below (BZ.out.trans (BVu24.out.mono BZ.out.size))) hB.1 hB.2 ?_
              intro v3 u25 o bb
              have T3 := hide (row_top o)
              have L3 := hide (row_low o)
              obtain ⟨a3, c3, rfl⟩ := row_slice o
              have BVu25 := hide (BVu24.out.trans (bb.mono BVu24.out.size))
              have szu25 := bb.size
              have O1 := hide (ownsRow_below O1.out bb)
              have O2 := hide (ownsRow_below O2.out bb)
              have O3 := hide o
              clear bb hHeld o
              refine hK.out _ _ (F.out _ BVu25.out) (fun hHeld => ?_)
              clear hK K
              try simp only [Act.put, List.getElem_toArray, List.getElem_cons_zero, List.getElem_cons_succ, List.setIfInBounds_toArray, List.set_cons_zero, List.set_cons_succ]
              refine wpAnyH_take (i := 12) (v := ?v12) rfl (by kernel_rfl) (by kernel_rfl) (by kernel_rfl) (fun _ _ _ h => h) (Or.inl ⟨by rfl, ?hy12⟩) (by assumption) ?rest12
              case hy12 => (intro w' hSw; dsimp only [List.getElem_toArray, List.getElem_cons_zero, List.getElem_cons_succ] at hSw ⊢; go_simp; try (with_reducible rfl))
              try simp only [Act.put, List.getElem_toArray, List.getElem_cons_zero, List.getElem_cons_succ, List.setIfInBounds_toArray, List.set_cons_zero, List.set_cons_succ]
              refine wpAnyH_ready (rs := [13]) (by kernel_rfl) (by simp) ?_
              refine AllReadyH.cons rfl (fun K hK => ?_) AllReadyH.nil
              have xr := hide (XR.out.below BVu25.out)
              have xb := hide (XB.out.below BVu25.out)
              obtain ⟨d0, d1, d2⟩ := xr.out.c3
              have g0 := xr.out.frozen 0
              have g1 := xr.out.frozen 1
              have g2 := xr.out.frozen 2
              dsimp only [List.getElem_toArray, List.getElem_cons_zero, List.getElem_cons_succ]
              go_simp
              clear d0 d1 d2 g0 g1 g2 hHeld
              have C6 := Chg.store3 (lo := w.heap.size + 1) (hi := w.heap.size + 1 + 1) u25 (w.heap.size + 1) (.slice a1 P.length c1) (.slice a2 H.length c2) (.slice a3 B.length c3) (Nat.le_refl _) (by omega)
              have XF := hide (xr.out.store3 (.slice a1 P.length c1) (.slice a2 H.length c2) (.slice a3 B.length c3))
              have CC := hide C6
              have s6 := C6.size
              have cb := (xb.out.chg C6 (.inl (by omega))).c3
              clear C6
              refine hK.out _ _ cb (fun hHeld => ?_)
              clear hK K cb hHeld
              try simp only [Act.put, List.getElem_toArray, List.getElem_cons_zero, List.getElem_cons_succ, List.setIfInBounds_toArray, List.set_cons_zero, List.set_cons_succ]
              refine wpAnyH_done (by kernel_rfl) ?_ _
              refine NoPanic.normal ?_
              go_wp2
              refine bodyPost_ret (res_dsk rfl _ _ (w.heap.size + 1) _ _ _ (0, 0) rfl XF.out) rfl ⟨_, _, _, rfl, ?_, (BZ.out.trans (BVu25.out.mono BZ.out.size)).trans (CC.out.below (by omega) (by have := BVu25.out.size; have := VS.out; omega))⟩
              have VS2 := VS.out
              have q1 := BVu25.out.size
              have dd : DskV u25 (w.heap.size + 1 + 1) u25.heap.size (.slice a1 P.length c1) (.slice a2 H.length c2) (.slice a3 B.length c3) P H B := ⟨ownsRow_mono O1.out (by omega), ownsRow_mono O2.out (by omega), ownsRow_mono O3.out (by omega), fun k hk => by have := T1.out k hk; omega, fun k hk => by have := T2.out k hk; omega, fun k hk => by have := T3.out k hk; omega, own_apart T1.out L2.out (by omega), SP.out, SH.out⟩
              exact (dd.chg CC.out (.inr (Nat.le_refl _))).wider (by omega) s6
    · dsimp only [List.getElem_toArray, List.getElem_cons_zero, List.getElem_cons_succ]
      go_simp
      have bb := below_box u1 (.cells #[] 4)
      generalize u1.alloc (.cells #[] 4) = u26 at bb ⊢
      have BVu26 := hide (BVu1.out.trans (bb.mono BVu1.out.size))
      have szu26 := bb.size
      clear bb hHeld
      refine hK.out _ _ (F.out _ BVu26.out) (fun hHeld => ?_)
      clear hK K
      try simp only [Act.put, List.getElem_toArray, List.getElem_cons_zero, List.getElem_cons_succ, List.setIfInBounds_toArray, List.set_cons_zero, List.set_cons_succ]
      refine wpAnyH_ready (rs := [3, 4]) (by kernel_rfl) (by simp) ?_
      refine AllReadyH.cons rfl (fun K hK => ?_) (AllReadyH.cons rfl (fun K hK => ?_) (AllReadyH.nil))
      · refine step_app_txt (by rfl) (.tmp 3) (.tmp 5) (by rfl) V0.heap.size (by rfl) _ (by rfl) P (RP.out.below (BZ.out.trans (BVu26.out.mono BZ.out.size))) hP.1 hP.2 ?_
        intro v1 u27 o bb
        have T1 := hide (row_top o)
        have L1 := hide (row_low o)
        obtain ⟨a1, c1, rfl⟩ := row_slice o
        have BVu27 := hide (BVu26.out.trans (bb.mono BVu26.out.size))
        have szu27 := bb.size
        have O1 := hide o
        clear bb hHeld o
        refine hK.out _ _ (F.out _ BVu27.out) (fun hHeld => ?_)
        clear hK K
        try simp only [Act.put, List.getElem_toArray, List.getElem_cons_zero, List.getElem_cons_succ, List.setIfInBounds_toArray, List.set_cons_zero, List.set_cons_succ]
        refine wpAnyH_ready (rs := [4]) (by kernel_rfl) (by simp) ?_
        refine AllReadyH.cons rfl (fun K hK => ?_) (AllReadyH.nil)
        · dsimp only [List.getElem_toArray, List.getElem_cons_zero, List.getElem_cons_succ]
          go_simp
          have bb := below_box u27 (.cells #[] 9)
          generalize u27.alloc (.cells #[] 9) = u28 at bb ⊢
          have BVu28 := hide (BVu27.out.trans (bb.mono BVu27.out.size))
          have szu28 := bb.size
          have O1 := hide (ownsRow_below O1.out bb)
          clear bb hHeld
          refine hK.out _ _ (F.out _ BVu28.out) (fun hHeld => ?_)
          clear hK K
          try simp only [Act.put, List.getElem_toArray, List.getElem_cons_zero, List.getElem_cons_succ, List.setIfInBounds_toArray, List.set_cons_zero, List.set_cons_succ]
          refine wpAnyH_ready (rs := [7]) (by kernel_rfl) (by simp) ?_
          refine AllReadyH.cons rfl (fun K hK => ?_) (AllReadyH.nil)
          · refine step_app_txt (by rfl) (.tmp 7) (.tmp 9) (by rfl) u27.heap.size (by rfl) _ (by rfl) H (RH.out.below (BZ.out.trans (BVu28.out.mono BZ.out.size))) hH.1 hH.2 ?_
            intro v2 u29 o bb
            have T2 := hide (row_top o)
            have L2 := hide (row_low o)
            obtain ⟨a2, c2, rfl⟩ := row_slice o
            have BVu29 := hide (BVu28.out.trans (bb.mono BVu28.out.size))
            have szu29 := bb.size
            have O1 := hide (ownsRow_below O1.out bb)
            have O2 := hide o
            clear bb hHeld o
            refine hK.out _ _ (F.out _ BVu29.out) (fun hHeld => ?_)
            clear hK K
            try simp only [Act.put, List.getElem_toArray, List.getElem_cons_zero, List.getElem_cons_succ, List.setIfInBounds_toArray, List.set_cons_zero, List.set_cons_succ]
            refine wpAnyH_ready (rs := [11]) (by kernel_rfl) (by simp) ?_
            refine AllReadyH.cons rfl (fun K hK => ?_) (AllReadyH.nil)
            · refine step_app_bol (by rfl) (.tmp 11) (.tmp 13) (by rfl) u1.heap.size (by rfl) _ (by rfl) B (RB.out.below (BZ.out.trans (BVu29.out.mono BZ.out.size))) hB.1 hB.2 ?_
              intro v3 u30 o bb
              have T3 := hide (row_top o)
              have L3 := hide (row_low o)
              obtain ⟨a3, c3, rfl⟩ := row_slice o
              have BVu30 := hide (BVu29.out.trans (bb.mono BVu29.out.size))
              have szu30 := bb.size
              have O1 := hide (ownsRow_below O1.out bb)
              have O2 := hide (ownsRow_below O2.out bb)
              have O3 := hide o
              clear bb hHeld o
              refine hK.out _ _ (F.out _ BVu30.out) (fun hHeld => ?_)
              clear hK K
              try simp only [Act.put, List.getElem_toArray, List.getElem_cons_zero, List.getElem_cons_succ, List.setIfInBounds_toArray, List.set_cons_zero, List.set_cons_succ]
              refine wpAnyH_take (i := 12) (v := ?v13) rfl (by kernel_rfl) (by kernel_rfl) (by kernel_rfl) (fun _ _ _ h => h) (Or.inl ⟨by rfl, ?hy13⟩) (by assumption) ?rest13
              case hy13 => (intro w' hSw; dsimp only [List.getElem_toArray, List.getElem_cons_zero, List.getElem_cons_succ] at hSw ⊢; go_simp; try (with_reducible rfl))
              try simp only [Act.put, List.getElem_toArray, List.getElem_cons_zero, List.getElem_cons_succ, List.setIfInBounds_toArray, List.set_cons_zero, List.set_cons_succ]
              refine wpAnyH_ready (rs := [13]) (by kernel_rfl) (by simp) ?_
              refine AllReadyH.cons rfl (fun K hK => ?_) AllReadyH.nil
              have xr := hide (XR.out.below BVu30.out)
              have xb := hide (XB.out.below BVu30.out)
              obtain ⟨d0, d1, d2⟩ := xr.out.c3
              have g0 := xr.out.frozen 0
              have g1 := xr.out.frozen 1
              have g2 := xr.out.frozen 2
              dsimp only [List.getElem_toArray, List.getElem_cons_zero, List.getElem_cons_succ]
              go_simp
              clear d0 d1 d2 g0 g1 g2 hHeld
              have C6 := Chg.store3 (lo := w.heap.size + 1) (hi := w.heap.size + 1 + 1) u30 (w.heap.size + 1) (.slice a1 P.length c1) (.slice a2 H.length c2) (.slice a3 B.length c3) (Nat.le_refl _) (by omega)
              have XF := hide (xr.out.store3 (.slice a1 P.length c1) (.slice a2 H.length c2) (.slice a3 B.length c3))
              have CC := hide C6
              have s6 := C6.size
              have cb := (xb.out.chg C6 (.inl (by omega))).c3
              clear C6
              refine hK.out _ _ cb (fun hHeld => ?_)
              clear hK K cb hHeld
              try simp only [Act.put, List.getElem_toArray, List.getElem_cons_zero, List.getElem_cons_succ, List.setIfInBounds_toArray, List.set_cons_zero, List.set_cons_succ]
              refine wpAnyH_done (by kernel_rfl) ?_ _
              refine NoPanic.normal ?_
              go_wp2
              refine bodyPost_ret (res_dsk rfl _ _ (w.heap.size + 1) _ _ _ (0, 0) rfl XF.out) rfl ⟨_, _, _, rfl, ?_, (BZ.out.trans (BVu30.out.mono BZ.out.size)).trans (CC.out.below (by omega) (by have := BVu30.out.size; have := VS.out; omega))⟩
              have VS2 := VS.out
              have q1 := BVu30.out.size
              have dd : DskV u30 (w.heap.size + 1 + 1) u30.heap.size (.slice a1 P.length c1) (.slice a2 H.length c2) (.slice a3 B.length c3) P H B := ⟨ownsRow_mono O1.out (by omega), ownsRow_mono O2.out (by omega), ownsRow_mono O3.out (by omega), fun k hk => by have := T1.out k hk; omega, fun k hk => by have := T2.out k hk; omega, fun k hk => by have := T3.out k hk; omega, own_apart T1.out L2.out (by omega), SP.out, SH.out⟩
              exact (dd.chg CC.out (.inr (Nat.le_refl _))).wider (by omega) s6
      · dsimp only [List.getElem_toArray, List.getElem_cons_zero, List.getElem_cons_succ]
        go_simp
        have bb := below_box u26 (.cells #[] 9)
        generalize u26.alloc (.cells #[] 9) = u31 at bb ⊢
        have BVu31 := hide (BVu26.out.trans (bb.mono BVu26.out.size))
        have szu31 := bb.size
        clear bb hHeld
        refine hK.out _ _ (F.out _ BVu31.out) (fun hHeld => ?_)
        clear hK K
        try simp only [Act.put, List.getElem_toArray, List.getElem_cons_zero, List.getElem_cons_succ, List.setIfInBounds_toArray, List.set_cons_zero, List.set_cons_succ]
        refine wpAnyH_ready (rs := [3]) (by kernel_rfl) (by simp) ?_
        refine AllReadyH.cons rfl (fun K hK => ?_) (AllReadyH.nil)
        · refine step_app_txt (by rfl) (.tmp 3) (.tmp 5) (by rfl) V0.heap.size (by rfl) _ (by rfl) P (RP.out.below (BZ.out.trans (BVu31.out.mono BZ.out.size))) hP.1 hP.2 ?_
          intro v1 u32 o bb
          have T1 := hide (row_top o)
          have L1 := hide (row_low o)
          obtain ⟨a1, c1, rfl⟩ := row_slice o
          have BVu32 := hide (BVu31.out.trans (bb.mono BVu31.out.size))
          have szu32 := bb.size
          have O1 := hide o
          clear bb hHeld o
          refine hK.out _ _ (F.out _ BVu32.out) (fun hHeld => ?_)
          clear hK K
          try simp only [Act.put, List.getElem_toArray, List.getElem_cons_zero, List.getElem_cons_succ, List.setIfInBounds_toArray, List.set_cons_zero, List.set_cons_succ]
          refine wpAnyH_ready (rs := [7]) (by kernel_rfl) (by simp) ?_
          refine AllReadyH.cons rfl (fun K hK => ?_) (AllReadyH.nil)
          · refine step_app_txt (by rfl) (.tmp 7) (.tmp 9) (by rfl) u26.heap.size (by rfl) _ (by rfl) H (RH.out.below (BZ.out.trans (BVu32.out.mono BZ.out.size))) hH.1 hH.2 ?_
            intro v2 u33 o bb
            have T2 := hide (row_top o)
            have L2 := hide (row_low o)
            obtain ⟨a2, c2, rfl⟩ := row_slice o
            have BVu33 := hide (BVu32.out.trans (bb.mono BVu32.out.size))
            have szu33 := bb.size
            have O1 := hide (ownsRow_below O1.out bb)
            have O2 := hide o
            clear bb hHeld o
            refine hK.out _ _ (F.out _ BVu33.out) (fun hHeld => ?_)
            clear hK K
            try simp only [Act.put, List.getElem_toArray, List.getElem_cons_zero, List.getElem_cons_succ, List.setIfInBounds_toArray, List.set_cons_zero, List.set_cons_succ]
            refine wpAnyH_ready (rs := [11]) (by kernel_rfl) (by simp) ?_
            refine AllReadyH.cons rfl (fun K hK => ?_) (AllReadyH.nil)
            · refine step_app_bol (by rfl) (.tmp 11) (.tmp 13) (by rfl) u1.heap.size (by rfl) _ (by rfl) B (RB.out.below (BZ.out.trans (BVu33.out.mono BZ.out.size))) hB.1 hB.2 ?_
              intro v3 u34 o bb
              have T3 := hide (row_top o)
              have L3 := hide (row_low o)
              obtain ⟨a3, c3, rfl⟩ := row_slice o
              have BVu34 := hide (BVu33.out.trans (bb.mono BVu33.out.size))
              have szu34 := bb.size
              have O1 := hide (ownsRow_below O1.out bb)
              have O2 := hide (ownsRow_below O2.out bb)
              have O3 := hide o
              clear bb hHeld o
              refine hK.out _ _ (F.out _ BVu34.out) (fun hHeld => ?_)
              clear hK K
              try simp only [Act.put, List.getElem_toArray, List.getElem_cons_zero, List.getElem_cons_succ, List.setIfInBounds_toArray, List.set_cons_zero, List.set_cons_succ]
              refine wpAnyH_take (i := 12) (v := ?v14) rfl (by kernel_rfl) (by kernel_rfl) (by kernel_rfl) (fun _ _ _ h => h) (Or.inl ⟨by rfl, ?hy14⟩) (by assumption) ?rest14
              case hy14 => (intro w' hSw; dsimp only [List.getElem_toArray, List.getElem_cons_zero, List.getElem_cons_succ] at hSw ⊢; go_simp; try (with_reducible rfl))
              try simp only [Act.put, List.getElem_toArray, List.getElem_cons_zero, List.getElem_cons_succ, List.setIfInBounds_toArray, List.set_cons_zero, List.set_cons_succ]
              refine wpAnyH_ready (rs := [13]) (by kernel_rfl) (by simp) ?_
              refine AllReadyH.cons rfl (fun K hK => ?_) AllReadyH.nil
              have xr := hide (XR.out.below BVu34.out)
              have xb := hide (XB.out.below BVu34.out)
              obtain ⟨d0, d1, d2⟩ := xr.out.c3
              have g0 := xr.out.frozen 0
              have g1 := xr.out.frozen 1
              have g2 := xr.out.frozen 2
              dsimp only [List.getElem_toArray, List.getElem_cons_zero, List.getElem_cons_succ]
              go_simp
              clear d0 d1 d2 g0 g1 g2 hHeld
              have C6 := Chg.store3 (lo := w.heap.size + 1) (hi := w.heap.size + 1 + 1) u34 (w.heap.size + 1) (.slice a1 P.length c1) (.slice a2 H.length c2) (.slice a3 B.length c3) (Nat.le_refl _) (by omega)
              have XF := hide (xr.out.store3 (.slice a1 P.length c1) (.slice a2 H.length c2) (.slice a3 B.length c3))
              have CC := hide C6
              have s6 := C6.size
              have cb := (xb.out.chg C6 (.inl (by omega))).c3
              clear C6
              refine hK.out _ _ cb (fun hHeld => ?_)
              clear hK K cb hHeld
              try simp only [Act.put, List.getElem_toArray, List.getElem_cons_zero, List.getElem_cons_succ, List.setIfInBounds_toArray, List.set_cons_zero, List.set_cons_succ]
              refine wpAnyH_done (by kernel_rfl) ?_ _
              refine NoPanic.normal ?_
              go_wp2
              refine bodyPost_ret (res_dsk rfl _ _ (w.heap.size + 1) _ _ _ (0, 0) rfl XF.out) rfl ⟨_, _, _, rfl, ?_, (BZ.out.trans (BVu34.out.mono BZ.out.size)).trans (CC.out.below (by omega) (by have := BVu34.out.size; have := VS.out; omega))⟩
              have VS2 := VS.out
              have q1 := BVu34.out.size
              have dd : DskV u34 (w.heap.size + 1 + 1) u34.heap.size (.slice a1 P.length c1) (.slice a2 H.length c2) (.slice a3 B.length c3) P H B := ⟨ownsRow_mono O1.out (by omega), ownsRow_mono O2.out (by omega), ownsRow_mono O3.out (by omega), fun k hk => by have := T1.out k hk; omega, fun k hk => by have := T2.out k hk; omega, fun k hk => by have := T3.out k hk; omega, own_apart T1.out L2.out (by omega), SP.out, SH.out⟩
              exact (dd.chg CC.out (.inr (Nat.le_refl _))).wider (by omega) s6
  · dsimp only [List.getElem_toArray, List.getElem_cons_zero, List.getElem_cons_succ]
    go_simp
    have bb := below_box V0 (.cells #[] 9)
    generalize V0.alloc (.cells #[] 9) = u35 at bb ⊢
    have BVu35 := hide (BVV0.out.trans (bb.mono BVV0.out.size))
    have szu35 := bb.size
    clear bb hHeld
    refine hK.out _ _ (F.out _ BVu35.out) (fun hHeld => ?_)
    clear hK K
    try simp only [Act.put, List.getElem_toArray, List.getElem_cons_zero, List.getElem_cons_succ, List.setIfInBounds_toArray, List.set_cons_zero, List.set_cons_succ]
    refine wpAnyH_ready (rs := [0, 8]) (by kernel_rfl) (by simp) ?_
    refine AllReadyH.cons rfl (fun K hK => ?_) (AllReadyH.cons rfl (fun K hK => ?_) (AllReadyH.nil))
    · dsimp only [List.getElem_toArray, List.getElem_cons_zero, List.getElem_cons_succ]
      go_simp
      have bb := below_box u35 (.cells #[] 9)
      generalize u35.alloc (.cells #[] 9) = u36 at bb ⊢
      have BVu36 := hide (BVu35.out.trans (bb.mono BVu35.out.size))
      have szu36 := bb.size
      clear bb hHeld
      refine hK.out _ _ (F.out _ BVu36.out) (fun hHeld => ?_)
      clear hK K
      try simp only [Act.put, List.getElem_toArray, List.getElem_cons_zero, List.getElem_cons_succ, List.setIfInBounds_toArray, List.set_cons_zero, List.set_cons_succ]
      refine wpAnyH_ready (rs := [3, 8]) (by kernel_rfl) (by simp) ?_
      refine AllReadyH.cons rfl (fun K hK => ?_) (AllReadyH.cons rfl (fun K hK => ?_) (AllReadyH.nil))
      · refine step_app_txt (by rfl) (.tmp 3) (.tmp 5) (by rfl) u35.heap.size (by rfl) _ (by rfl) P (RP.out.below (BZ.out.trans (BVu36.out.mono BZ.out.size))) hP.1 hP.2 ?_
        intro v1 u37 o bb
        have T1 := hide (row_top o)
        have L1 := hide (row_low o)
        obtain ⟨a1, c1, rfl⟩ := row_slice o
        have BVu37 := hide (BVu36.out.trans (bb.mono BVu36.out.size))
        have szu37 := bb.size
        have O1 := hide o
        clear bb hHeld o
        refine hK.out _ _ (F.out _ BVu37.out) (fun hHeld => ?_)
        clear hK K
        try simp only [Act.put, List.getElem_toArray, List.getElem_cons_zero, List.getElem_cons_succ, List.setIfInBounds_toArray, List.set_cons_zero, List.set_cons_succ]
        refine wpAnyH_ready (rs := [7, 8]) (by kernel_rfl) (by simp) ?_
        refine AllReadyH.cons rfl (fun K hK => ?_) (AllReadyH.cons rfl (fun K hK => ?_) (AllReadyH.nil))
        · refine step_app_txt (by rfl) (.tmp 7) (.tmp 9) (by rfl) V0.heap.size (by rfl) _ (by rfl) H (RH.out.below (BZ.out.trans (BVu37.out.mono BZ.out.size))) hH.1 hH.2 ?_
          intro v2 u38 o bb
          have T2 := hide (row_top o)
          have L2 := hide (row_low o)
          obtain ⟨a2, c2, rfl⟩ := row_slice o
          have BVu38 := hide (BVu37.out.trans (bb.mono BVu37.out.size))
          have szu38 := bb.size
          have O1 := hide (ownsRow_below O1.out bb)
          have O2 := hide o
          clear bb hHeld o
          refine hK.out _ _ (F.out _ BVu38.out) (fun hHeld => ?_)
          clear hK K
          try simp only [Act.put, List.getElem_toArray, List.getElem_cons_zero, List.getElem_cons_succ, List.setIfInBounds_toArray, List.set_cons_zero, List.set_cons_succ]
          refine wpAnyH_ready (rs := [8]) (by kernel_rfl) (by simp) ?_
          refine AllReadyH.cons rfl (fun K hK => ?_) (AllReadyH.nil)
          · dsimp only [List.getElem_toArray, List.getElem_cons_zero, List.getElem_cons_succ]
            go_simp
            have bb := below_box u38 (.cells #[] 4)
            generalize u38.alloc (.cells #[] 4) = u39 at bb ⊢
            have BVu39 := hide (BVu38.out.trans (bb.mono BVu38.out.size))
            have szu39 := bb.size
            have O1 := hide (ownsRow_below O1.out bb)
            have O2 := hide (ownsRow_below O2.out bb)
            clear bb hHeld
            refine hK.out _ _ (F.out _ BVu39.out) (fun hHeld => ?_)
            clear hK K
            try simp only [Act.put, List.getElem_toArray, List.getElem_cons_zero, List.getElem_cons_succ, List.setIfInBounds_toArray, List.set_cons_zero, List.set_cons_succ]
            refine wpAnyH_ready (rs := [11]) (by kernel_rfl) (by simp) ?_
            refine AllReadyH.cons rfl (fun K hK => ?_) (AllReadyH.nil)
            · refine step_app_bol (by rfl) (.tmp 11) (.tmp 13) (by rfl) u38.heap.size (by rfl) _ (by rfl) B (RB.out.below (BZ.out.trans (BVu39.out.mono BZ.out.size))) hB.1 hB.2 ?_
              intro v3 u40 o bb
              have T3 := hide (row_top o)
              have L3 := hide (row_low o)
              obtain ⟨a3, c3, rfl⟩ := row_slice o
              have BVu40 := hide (BVu39.out.trans (bb.mono BVu39.out.size))
              have szu40 := bb.size
              have O1 := hide (ownsRow_below O1.out bb)
              have O2 := hide (ownsRow_below O2.out bb)
              have O3 := hide o
              clear bb hHeld o
              refine hK.out _ _ (F.out _ BVu40.out) (fun hHeld => ?_)
              clear hK K
              try simp only [Act.put, List.getElem_toArray, List.getElem_cons_zero, List.getElem_cons_succ, List.setIfInBounds_toArray, List.set_cons_zero, List.set_cons_succ]
              refine wpAnyH_take (i := 12) (v := ?v15) rfl (by kernel_rfl) (by kernel_rfl) (by kernel_rfl) (fun _ _ _ h => h) (Or.inl ⟨by rfl, ?hy15⟩) (by assumption) ?rest15
              case hy15 => (intro w' hSw; dsimp only [List.getElem_toArray, List.getElem_cons_zero, List.getElem_cons_succ] at hSw ⊢; go_simp; try (with_reducible rfl))
              try simp only [Act.put, List.getElem_toArray, List.getElem_cons_zero, List.getElem_cons_succ, List.setIfInBounds_toArray, List.set_cons_zero, List.set_cons_succ]
              refine wpAnyH_ready (rs := [13]) (by kernel_rfl) (by simp) ?_
              refine AllReadyH.cons rfl (fun K hK => ?_) AllReadyH.nil
              have xr := hide (XR.out.below BVu40.out)
              have xb := hide (XB.out.below BVu40.out)
              obtain ⟨d0, d1, d2⟩ := xr.out.c3
              have g0 := xr.out.frozen 0
              have g1 := xr.out.frozen 1
              have g2 := xr.out.frozen 2
              dsimp only [List.getElem_toArray, List.getElem_cons_zero, List.getElem_cons_succ]
              go_simp
              clear d0 d1 d2 g0 g1 g2 hHeld
              have C6 := Chg.store3 (lo := w.heap.size + 1) (hi := w.heap.size + 1 + 1) u40 (w.heap.size + 1) (.slice a1 P.length c1) (.slice a2 H.length c2) (.slice a3 B.length c3) (Nat.le_refl _) (by omega)
              have XF := hide (xr.out.store3 (.slice a1 P.length c1) (.slice a2 H.length c2) (.slice a3 B.length c3))
              have CC := hide C6
              have s6 := C6.size
              have cb := (xb.out.chg C6 (.inl (by omega))).c3
              clear C6
              refine hK.out _ _ cb (fun hHeld => ?_)
              clear hK K cb hHeld
              try simp only [Act.put, List.getElem_toArray, List.getElem_cons_zero, List.getElem_cons_succ, List.setIfInBounds_toArray, List.set_cons_zero, List.set_cons_succ]
              refine wpAnyH_done (by kernel_rfl) ?_ _
              refine NoPanic.normal ?_
              go_wp2
              refine bodyPost_ret (res_dsk rfl _ _ (w.heap.size + 1) _ _ _ (0, 0) rfl XF.out) rfl ⟨_, _, _, rfl, ?_, (BZ.out.trans (BVu40.out.mono BZ.out.size)).trans (CC.out.below (by omega) (by have := BVu40.out.size; have := VS.out; omega))⟩
              have VS2 := VS.out
              have q1 := BVu40.out.size
              have dd : DskV u40 (w.heap.size + 1 + 1) u40.heap.size (.slice a1 P.length c1) (.slice a2 H.length c2) (.slice a3 B.length c3) P H B := ⟨ownsRow_mono O1.out (by omega), ownsRow_mono O2.out (by omega), ownsRow_mono O3.out (by omega), fun k hk => by have := T1.out k hk; omega, fun k hk => by have := T2.out k hk; omega, fun k hk => by have := T3.out k hk; omega, own_apart T1.out L2.out (by omega), SP.out, SH.out⟩
              exact (dd.chg CC.out (.inr (Nat.le_refl _))).wider (by omega) s6
        · dsimp only [List.getElem_toArray, List.getElem_cons_zero, List.getElem_cons_succ]
          go_simp
          have bb := below_box u37 (.cells #[] 4)
          generalize u37.alloc (.cells #[] 4) = u41 at bb ⊢
          have BVu41 := hide (BVu37.out.trans (bb.mono BVu37.out.size))
          have szu41 := bb.size
          have O1 := hide (ownsRow_below O1.out bb)
          clear bb hHeld
          refine hK.out _ _ (F.out _ BVu41.out) (fun hHeld => ?_)
          clear hK K
          try simp only [Act.put, List.getElem_toArray, List.getElem_cons_zero, List.getElem_cons_succ, List.setIfInBounds_toArray, List.set_cons_zero, List.set_cons_succ]
          refine wpAnyH_ready (rs := [7]) (by kernel_rfl) (by simp) ?_
          refine AllReadyH.cons rfl (fun K hK => ?_) (AllReadyH.nil)
          · refine step_app_txt (by rfl) (.tmp 7) (.tmp 9) (by rfl) V0.heap.size (by rfl) _ (by rfl) H (RH.out.below (BZ.out.trans (BVu41.out.mono BZ.out.size))) hH.1 hH.2 ?_
            intro v2 u42 o bb
            have T2 := hide (row_top o)
            have L2 := hide (row_low o)
            obtain ⟨a2, c2, rfl⟩ := row_slice o
            have BVu42 := hide (BVu41.out.trans (bb.mono BVu41.out.size))
            have szu42 := bb.size
            have O1 := hide (ownsRow_below O1.out bb)
            have O2 := hide o
            clear bb hHeld o
            refine hK.out _ _ (F.out _ BVu42.out) (fun hHeld => ?_)
            clear hK K
            try simp only [Act.put, List.getElem_toArray, List.getElem_cons_zero, List.getElem_cons_succ, List.setIfInBounds_toArray, List.set_cons_zero, List.set_cons_succ]
            refine wpAnyH_ready (rs := [11]) (by kernel_rfl) (by simp) ?_
            refine AllReadyH.cons rfl (fun K hK => ?_) (AllReadyH.nil)
            · refine step_app_bol (by rfl) (.tmp 11) (.tmp 13) (by rfl) u37.heap.size (by rfl) _ (by rfl) B (RB.out.below (BZ.out.trans (BVu42.out.mono BZ.out.size))) hB.1 hB.2 ?_
              intro v3 u43 o bb
              have T3 := hide (row_top o)
              have L3 := hide (row_low o)
              obtain ⟨a3, c3, rfl⟩ := row_slice o
              have BVu43 := hide (BVu42.out.trans (bb.mono BVu42.out.size))
              have szu43 := bb.size
              have O1 := hide (ownsRow_below O1.out bb)
              have O2 := hide (ownsRow_below O2.out bb)
              have O3 := hide o
              clear bb hHeld o
              refine hK.out _ _ (F.out _ BVu43.out) (fun hHeld => ?_)
              clear hK K
              try simp only [Act.put, List.getElem_toArray, List.getElem_cons_zero, List.getElem_cons_succ, List.setIfInBounds_toArray, List.set_cons_zero, List.set_cons_succ]
              refine wpAnyH_take (i := 12) (v := ?v16) rfl (by kernel_rfl) (by kernel_rfl) (by kernel_rfl) (fun _ _ _ h => h) (Or.inl ⟨by rfl, ?hy16⟩) (by assumption) ?rest16
              case hy16 => (intro w' hSw; dsimp only [List.getElem_toArray, List.getElem_cons_zero, List.getElem_cons_succ] at hSw ⊢; go_simp; try (with_reducible rfl))
              try simp only [Act.put, List.getElem_toArray, List.getElem_cons_zero, List.getElem_cons_succ, List.setIfInBounds_toArray, List.set_cons_zero, List.set_cons_succ]
              refine wpAnyH_ready (rs := [13]) (by kernel_rfl) (by simp) ?_
              refine AllReadyH.cons rfl (fun K hK => ?_) AllReadyH.nil
              have xr := hide (XR.out.below BVu43.out)
              have xb := hide (XB.out.below BVu43.out)
              obtain ⟨d0, d1, d2⟩ := xr.out.c3
              have g0 := xr.out.frozen 0
              have g1 := xr.out.frozen 1
              have g2 := xr.out.frozen 2
              dsimp only [List.getElem_toArray, List.getElem_cons_zero, List.getElem_cons_succ]
              go_simp
              clear d0 d1 d2 g0 g1 g2 hHeld
              have C6 := Chg.store3 (lo := w.heap.size + 1) (hi := w.heap.size + 1 + 1) u43 (w.heap.size + 1) (.slice a1 P.length c1) (.slice a2 H.length c2) (.slice a3 B.length c3) (Nat.le_refl _) (by omega)
              have XF := hide (xr.out.store3 (.slice a1 P.length c1) (.slice a2 H.length c2) (.slice a3 B.length c3))
              have CC := hide C6
              have s6 := C6.size
              have cb := (xb.out.chg C6 (.inl (by omega))).c3
              clear C6
              refine hK.out _ _ cb (fun hHeld => ?_)
              clear hK K cb hHeld
              try simp only [Act.put, List.getElem_toArray, List.getElem_cons_zero, List.getElem_cons_succ, List.setIfInBounds_toArray, List.set_cons_zero, List.set_cons_succ]
              refine wpAnyH_done (by kernel_rfl) ?_ _
              refine NoPanic.normal ?_
              go_wp2
              refine bodyPost_ret (res_dsk rfl _ _ (w.heap.size + 1) _ _ _ (0, 0) rfl XF.out) rfl ⟨_, _, _, rfl, ?_, (BZ.out.trans (BVu43.out.mono BZ.out.size)).trans (CC.out.below (by omega) (by have := BVu43.out.size; have := VS.out; omega))⟩
              have VS2 := VS.out
              have q1 := BVu43.out.size
              have dd : DskV u43 (w.heap.size + 1 + 1) u43.heap.size (.slice a1 P.length c1) (.slice a2 H.length c2) (.slice a3 B.length c3) P H B := ⟨ownsRow_mono O1.out (by omega), ownsRow_mono O2.out (by omega), ownsRow_mono O3.out (by omega), fun k hk => by have := T1.out k hk; omega, fun k hk => by have := T2.out k hk; omega, fun k hk => by have := T3.out k hk; omega, own_apart T1.out L2.out (by omega), SP.out, SH.out⟩
              exact (dd.chg CC.out (.inr (Nat.le_refl _))).wider (by omega) s6
      · dsimp only [List.getElem_toArray, List.getElem_cons_zero, List.getElem_cons_succ]
        go_simp
        have bb := below_box u36 (.cells #[] 4)
        generalize u36.alloc (.cells #[] 4) = u44 at bb ⊢
        have BVu44 := hide (BVu36.out.trans (bb.mono BVu36.out.size))
        have szu44 := bb.size
        clear bb hHeld
        refine hK.out _ _ (F.out _ BVu44.out) (fun hHeld => ?_)
        clear hK K
        try simp only [Act.put, List.getElem_toArray, List.getElem_cons_zero, List.getElem_cons_succ, List.setIfInBounds_toArray, List.set_cons_zero, List.set_cons_succ]
        refine wpAnyH_ready (rs := [3]) (by kernel_rfl) (by simp) ?_
        refine AllReadyH.cons rfl (fun K hK => ?_) (AllReadyH.nil)
        · refine step_app_txt (by rfl) (.tmp 3) (.tmp 5) (by rfl) u35.heap.size (by rfl) _ (by rfl) P (RP.out.below (BZ.out.trans (BVu44.out.mono BZ.out.size))) hP.1 hP.2 ?_
          intro v1 u45 o bb
          have T1 := hide (row_top o)
          have L1 := hide (row_low o)
          obtain ⟨a1, c1, rfl⟩ := row_slice o
          have BVu45 := hide (BVu44.out.trans (bb.mono BVu44.out.size))
          have szu45 := bb.size
          have O1 := hide o
          clear bb hHeld o
          refine hK.out _ _ (F.out _ BVu45.out) (fun hHeld => ?_)
          clear hK K
          try simp only [Act.put, List.getElem_toArray, List.getElem_cons_zero, List.getElem_cons_succ, List.setIfInBounds_toArray, List.set_cons_zero, List.set_cons_succ]
          refine wpAnyH_ready (rs := [7]) (by kernel_rfl) (by simp) ?_
          refine AllReadyH.cons rfl (fun K hK => ?_) (AllReadyH.nil)
          · refine step_app_txt (by rfl) (.tmp 7) (.tmp 9) (by rfl) V0.heap.size (by rfl) _ (by rfl) H (RH.out.below (BZ.out.trans (BVu45.out.mono BZ.out.size))) hH.1 hH.2 ?_
            intro v2 u46 o bb
            have T2 := hide (row_top o)
            have L2 := hide (row_low o)
            obtain ⟨a2, c2, rfl⟩ := row_slice o
            have BVu46 := hide (BVu45.out.trans (bb.mono BVu45.out.size))
            have szu46 := bb.size
            have O1 := hide (ownsRow_below O1.out bb)
            have O2 := hide o
            clear bb hHeld o
            refine hK.out _ _ (F.out _ BVu46.out) (fun hHeld => ?_)
            clear hK K
            try simp only [Act.put, List.getElem_toArray, List.getElem_cons_zero, List.getElem_cons_succ, List.setIfInBounds_toArray, List.set_cons_zero, List.set_cons_succ]
            refine wpAnyH_ready (rs := [11]) (by kernel_rfl) (by simp) ?_
            refine AllReadyH.cons rfl (fun K hK => ?_) (AllReadyH.nil)
            · refine step_app_bol (by rfl) (.tmp 11) (.tmp 13) (by rfl) u36.heap.size (by rfl) _ (by rfl) B (RB.out.below (BZ.out.trans (BVu46.out.mono BZ.out.size))) hB.1 hB.2 ?_
              intro v3 u47 o bb
              have T3 := hide (row_top o)
              have L3 := hide (row_low o)
              obtain ⟨a3, c3, rfl⟩ := row_slice o
              have BVu47 := hide (BVu46.out.trans (bb.mono BVu46.out.size))
              have szu47 := bb.size
              have O1 := hide (ownsRow_below O1.out bb)
              have O2 := hide (ownsRow_below O2.out bb)
              have O3 := hide o
              clear bb hHeld o
              refine hK.out _ _ (F.out _ BVu47.out) (fun hHeld => ?_)
              clear hK K
              try simp only [Act.put, List.getElem_toArray, List.getElem_cons_zero, List.getElem_cons_succ, List.setIfInBounds_toArray, List.set_cons_zero, List.set_cons_succ]
              refine wpAnyH_take (i := 12) (v := ?v17) rfl (by kernel_rfl) (by kernel_rfl) (by kernel_rfl) (fun _ _ _ h => h) (Or.inl ⟨by rfl, ?hy17⟩) (by assumption) ?rest17
              case hy17 => (intro w' hSw; dsimp only [List.getElem_toArray, List.getElem_cons_zero, List.getElem_cons_succ] at hSw ⊢; go_simp; try (with_reducible rfl))
              try simp only [Act.put, List.getElem_toArray, List.getElem_cons_zero, List.getElem_cons_succ, List.setIfInBounds_toArray, List.set_cons_zero, List.set_cons_succ]
              refine wpAnyH_ready (rs := [13]) (by kernel_rfl) (by simp) ?_
              refine AllReadyH.cons rfl (fun K hK => ?_) AllReadyH.nil
              have xr := hide (XR.out.below BVu47.out)
              have xb := hide (XB.out.below BVu47.out)
              obtain ⟨d0, d1, d2⟩ := xr.out.c3
              have g0 := xr.out.frozen 0
              have g1 := xr.out.frozen 1
              have g2 := xr.out.frozen 2
              dsimp only [List.getElem_toArray, List.getElem_cons_zero, List.getElem_cons_succ]
              go_simp
              clear d0 d1 d2 g0 g1 g2 hHeld
              have C6 := Chg.store3 (lo := w.heap.size + 1) (hi := w.heap.size + 1 + 1) u47 (w.heap.size + 1) (.slice a1 P.length c1) (.slice a2 H.length c2) (.slice a3 B.length c3) (Nat.le_refl _) (by omega)
              have XF := hide (xr.out.store3 (.slice a1 P.length c1) (.slice a2 H.length c2) (.slice a3 B.length c3))
              have CC := hide C6
              have s6 := C6.size
              have cb := (xb.out.chg C6 (.inl (by omega))).c3
              clear C6
              refine hK.out _ _ cb (fun hHeld => ?_)
              clear hK K cb hHeld
              try simp only [Act.put, List.getElem_toArray, List.getElem_cons_zero, List.getElem_cons_succ, List.setIfInBounds_toArray, List.set_cons_zero, List.set_cons_succ]
              refine wpAnyH_done (by kernel_rfl) ?_ _
              refine NoPanic.normal ?_
              go_wp2
              refine bodyPost_ret (res_dsk rfl _ _ (w.heap.size + 1) _ _ _ (0, 0) rfl XF.out) rfl ⟨_, _, _, rfl, ?_, (BZ.out.trans (BVu47.out.mono BZ.out.size)).trans (CC.out.below (by omega) (by have := BVu47.out.size; have := VS.out; omega))⟩
              have VS2 := VS.out
              have q1 := BVu47.out.size
              have dd : DskV u47 (w.heap.size + 1 + 1) u47.heap.size (.slice a1 P.length c1) (.slice a2 H.length c2) (.slice a3 B.length c3) P H B := ⟨ownsRow_mono O1.out (by omega), ownsRow_mono O2.out (by omega), ownsRow_mono O3.out (by omega), fun k hk => by have := T1.out k hk; omega, fun k hk => by have := T2.out k hk; omega, fun k hk => by have := T3.out k hk; omega, own_apart T1.out L2.out (by omega), SP.out, SH.out⟩
              exact (dd.chg CC.out (.inr (Nat.le_refl _))).wider (by omega) s6
    · dsimp only [List.getElem_toArray, List.getElem_cons_zero, List.getElem_cons_succ]
      go_simp
      have bb := below_box u35 (.cells #[] 4)
      generalize u35.alloc (.cells #[] 4) = u48 at bb ⊢
      have BVu48 := hide (BVu35.out.trans (bb.mono BVu35.out.size))
      have szu48 := bb.size
      clear bb hHeld
      refine hK.out _ _ (F.out _ BVu48.out) (fun hHeld => ?_)
      clear hK K
      try simp only [Act.put, List.getElem_toArray, List.getElem_cons_zero, List.getElem_cons_succ, List.setIfInBounds_toArray, List.set_cons_zero, List.set_cons_succ]
      refine wpAnyH_ready (rs := [0]) (by kernel_rfl) (by simp) ?_
      refine AllReadyH.cons rfl (fun K hK => ?_) (AllReadyH.nil)
      · dsimp only [List.getElem_toArray, List.getElem_cons_zero, List.getElem_cons_succ]
        go_simp
        have bb := below_box u48 (.cells #[] 9)
        generalize u48.alloc (.cells #[] 9) = u49 at bb ⊢
        have BVu49 := hide (BVu48.out.trans (bb.mono BVu48.out.size))
        have szu49 := bb.size
        clear bb hHeld
        refine hK.out _ _ (F.out _ BVu49.out) (fun hHeld => ?_)
        clear hK K
        try simp only [Act.put, List.getElem_toArray, List.getElem_cons_zero, List.getElem_cons_succ, List.setIfInBounds_toArray, List.set_cons_zero, List.set_cons_succ]
        refine wpAnyH_ready (rs := [3]) (by kernel_rfl) (by simp) ?_
        refine AllReadyH.cons rfl (fun K hK => ?_) (AllReadyH.nil)
        · refine step_app_txt (by rfl) (.tmp 3) (.tmp 5) (by rfl) u48.heap.size (by rfl) _ (by rfl) P (RP.out.below (BZ.out.trans (BVu49.out.mono BZ.out.size))) hP.1 hP.2 ?_
          intro v1 u50 o bb
          have T1 := hide (row_top o)
          have L1 := hide (row_low o)
          obtain ⟨a1, c1, rfl⟩ := row_slice o
          have BVu50 := hide (BVu49.out.trans (bb.mono BVu49.out.size))
          have szu50 := bb.size
          have O1 := hide o
          clear bb hHeld o
          refine hK.out _ _ (F.out _ BVu50.out) (fun hHeld => ?_)
          clear hK K
          try simp only [Act.put, List.getElem_toArray, List.getElem_cons_zero, List.getElem_cons_succ, List.setIfInBounds_toArray, List.set_cons_zero, List.set_cons_succ]
          refine wpAnyH_ready (rs := [7]) (by kernel_rfl) (by simp) ?_
          refine AllReadyH.cons rfl (fun K hK => ?_) (AllReadyH.nil)
          · refine step_app_txt (by rfl) (.tmp 7) (.tmp 9) (by rfl) V0.heap.size (by rfl) _ (by rfl) H (RH.out.below (BZ.out.trans (BVu50.out.mono BZ.out.size))) hH.1 hH.2 ?_
            intro v2 u51 o bb
            have T2 := hide (row_top o)
            have L2 := hide (row_low o)
            obtain ⟨a2, c2, rfl⟩ := row_slice o
            have BVu51 := hide (BVu50.out.trans (bb.mono BVu50.out.size))
            have szu51 := bb.size
            have O1 := hide (ownsRow_below O1.out bb)
            have O2 := hide o
            clear bb hHeld o
            refine hK.out _ _ (F.out _ BVu51.out) (fun hHeld => ?_)
            clear hK K
            try simp only [Act.put, List.getElem_toArray, List.getElem_cons_zero, List.getElem_cons_succ, List.setIfInBounds_toArray, List.set_cons_zero, List.set_cons_succ]
            refine wpAnyH_ready (rs := [11]) (by kernel_rfl) (by simp) ?_
            refine AllReadyH.cons rfl (fun K hK => ?_) (AllReadyH.nil)
            · refine step_app_bol (by rfl) (.tmp 11) (.tmp 13) (by rfl) u35.heap.size (by rfl) _ (by rfl) B (RB.out.below (BZ.out.trans (BVu51.out.mono BZ.out.size))) hB.1 hB.2 ?_
              intro v3 u52 o bb
              have T3 := hide (row_top o)
              have L3 := hide (row_low o)
              obtain ⟨a3, c3, rfl⟩ := row_slice o
              have BVu52 := hide (BVu51.out.trans (bb.mono BVu51.out.size))
              have szu52 := bb.size
              have O1 := hide (ownsRow_below O1.out bb)
              have O2 := hide (ownsRow_below O2.out bb)
              have O3 := hide o
              clear bb hHeld o
              refine hK.out _ _ (F.out _ BVu52.out) (fun hHeld => ?_)
              clear hK K
              try simp only [Act.put, List.getElem_toArray, List.getElem_cons_zero, List.getElem_cons_succ, List.setIfInBounds_toArray, List.set_cons_zero, List.set_cons_succ]
              refine wpAnyH_take (i := 12) (v := ?v18) rfl (by kernel_rfl) (by kernel_rfl) (by kernel_rfl) (fun _ _ _ h => h) (Or.inl ⟨by rfl, ?hy18⟩) (by assumption) ?rest18
              case hy18 => (intro w' hSw; dsimp only [List.getElem_toArray, List.getElem_cons_zero, List.getElem_cons_succ] at hSw ⊢; go_simp; try (with_reducible rfl))
              try simp only [Act.put, List.getElem_toArray, List.getElem_cons_zero, List.getElem_cons_succ, List.setIfInBounds_toArray, List.set_cons_zero, List.set_cons_succ]
              refine wpAnyH_ready (rs := [13]) (by kernel_rfl) (by simp) ?_
              refine AllReadyH.cons rfl (fun K hK => ?_) AllReadyH.nil
              have xr := hide (XR.out.below BVu52.out)
              have xb := hide (XB.out.below BVu52.out)
              obtain ⟨d0, d1, d2⟩ := xr.out.c3
              have g0 := xr.out.frozen 0
              have g1 := xr.out.frozen 1
              have g2 := xr.out.frozen 2
              dsimp only [List.getElem_toArray, List.getElem_cons_zero, List.getElem_cons_succ]
              go_simp
              clear d0 d1 d2 g0 g1 g2 hHeld
              have C6 := Chg.store3 (lo := w.heap.size + 1) (hi := w.heap.size + 1 + 1) u52 (w.heap.size + 1) (.slice a1 P.length c1) (.slice a2 H.length c2) (.slice a3 B.length c3) (Nat.le_refl _) (by omega)
              have XF := hide (xr.out.store3 (.slice a1 P.length c1) (.slice a2 H.length c2) (.slice a3 B.length c3))
              have CC := hide C6
              have s6 := C6.size
              have cb := (xb.out.chg C6 (.inl (by omega))).c3
              clear C6
              refine hK.out _ _ cb (fun hHeld => ?_)
              clear hK K cb hHeld
              try simp only [Act.put, List.getElem_toArray, List.getElem_cons_zero, List.getElem_cons_succ, List.setIfInBounds_toArray, List.set_cons_zero, List.set_cons_succ]
              refine wpAnyH_done (by kernel_rfl) ?_ _
              refine NoPanic.normal ?_
              go_wp2
              refine bodyPost_ret (res_dsk rfl _ _ (w.heap.size + 1) _ _ _ (0, 0) rfl XF.out) rfl ⟨_, _, _, rfl, ?_, (BZ.out.trans (BVu52.out.mono BZ.out.size)).trans (CC.out.below (by omega) (by have := BVu52.out.size; have := VS.out; omega))⟩
              have VS2 := VS.out
              have q1 := BVu52.out.size
              have dd : DskV u52 (w.heap.size + 1 + 1) u52.heap.size (.slice a1 P.length c1) (.slice a2 H.length c2) (.slice a3 B.length c3) P H B := ⟨ownsRow_mono O1.out (by omega), ownsRow_mono O2.out (by omega), ownsRow_mono O3.out (by omega), fun k hk => by have := T1.out k hk; omega, fun k hk => by have := T2.out k hk; omega, fun k hk => by have := T3.out k hk; omega, own_apart T1.out L2.out (by omega), SP.out, SH.out⟩
              exact (dd.chg CC.out (.inr (Nat.le_refl _))).wider (by omega) s6
  · dsimp only [List.getElem_toArray, List.getElem_cons_zero, List.getElem_cons_succ]
    go_simp
    have bb := below_box V0 (.cells #[] 4)
    generalize V0.alloc (.cells #[] 4) = u53 at bb ⊢
    have BVu53 := hide (BVV0.out.trans (bb.mono BVV0.out.size))
    have szu53 := bb.size
    clear bb hHeld
    refine hK.out _ _ (F.out _ BVu53.out) (fun hHeld => ?_)
    clear hK K
    try simp only [Act.put, List.getElem_toArray, List.getElem_cons_zero, List.getElem_cons_succ, List.setIfInBounds_toArray, List.set_cons_zero, List.set_cons_succ]
    refine wpAnyH_ready (rs := [0, 4]) (by kernel_rfl) (by simp) ?_
    refine AllReadyH.cons rfl (fun K hK => ?_) (AllReadyH.cons rfl (fun K hK => ?_) (AllReadyH.nil))
    · dsimp only [List.getElem_toArray, List.getElem_cons_zero, List.getElem_cons_succ]
      go_simp
      have bb := below_box u53 (.cells #[] 9)
      generalize u53.alloc (.cells #[] 9) = u54 at bb ⊢
      have BVu54 := hide (BVu53.out.trans (bb.mono BVu53.out.size))
      have szu54 := bb.size
      clear bb hHeld
      refine hK.out _ _ (F.out _ BVu54.out) (fun hHeld => ?_)
      clear hK K
      try simp only [Act.put, List.getElem_toArray, List.getElem_cons_zero, List.getElem_cons_succ, List.setIfInBounds_toArray, List.set_cons_zero, List.set_cons_succ]
      refine wpAnyH_ready (rs := [3, 4]) (by kernel_rfl) (by simp) ?_
      refine AllReadyH.cons rfl (fun K hK => ?_) (AllReadyH.cons rfl (fun K hK => ?_) (AllReadyH.nil))
      · refine step_app_txt (by rfl) (.tmp 3) (.tmp 5) (by rfl) u53.heap.size (by rfl) _ (by rfl) P (RP.out.below (BZ.out.trans (BVu54.out.mono BZ.out.size))) hP.1 hP.2 ?_
        intro v1 u55 o bb
        have T1 := hide (row_top o)
        have L1 := hide (row_low o)
        obtain ⟨a1, c1, rfl⟩ := row_slice o
        have BVu55 := hide (BVu54.out.trans (bb.mono BVu54.out.size))
        have szu55 := bb.size
        have O1 := hide o
        clear bb hHeld o
        refine hK.out _ _ (F.out _ BVu55.out) (fun hHeld => ?_)
        clear hK K
        try simp only [Act.put, List.getElem_toArray, List.getElem_cons_zero, List.getElem_cons_succ, List.setIfInBounds_toArray, List.set_cons_zero, List.set_cons_succ]
        refine wpAnyH_ready (rs := [4]) (by kernel_rfl) (by simp) ?_
        refine AllReadyH.cons rfl (fun K hK => ?_) (AllReadyH.nil)
        · dsimp only [List.getElem_toArray, List.getElem_cons_zero, List.getElem_cons_succ]
          go_simp
          have bb := below_box u55 (.cells #[] 9)
          generalize u55.alloc (.cells #[] 9) = u56 at bb ⊢
          have BVu56 := hide (BVu55.out.trans (bb.mono BVu55.out.size))
          have szu56 := bb.size
          have O1 := hide (ownsRow_below O1.out bb)
          clear bb hHeld
          refine hK.out _ _ (F.out _ BVu56.out) (fun hHeld => ?_)
          clear hK K
          try simp only [Act.put, List.getElem_toArray, List.getElem_cons_zero, List.getElem_cons_succ, List.setIfInBounds_toArray, List.set_cons_zero, List.set_cons_succ]
          refine wpAnyH_ready (rs := [7]) (by kernel_rfl) (by simp) ?_
          refine AllReadyH.cons rfl (fun K hK => ?_) (AllReadyH.nil)
          · refine step_app_txt (by rfl) (.tmp 7) (.tmp 9) (by rfl) u55.heap.size (by rfl) _ (by rfl) H (RH.out.below (BZ.out.trans (BVu56.out.mono BZ.out.size))) hH.1 hH.2 ?_
            intro v2 u57 o bb
            have T2 := hide (row_top o)
            have L2 := hide (row_low o)
            obtain ⟨a2, c2, rfl⟩ := row_slice o
            have BVu57 := hide (BVu56.out.trans (bb.mono BVu56.out.size))
            have szu57 := bb.size
            have O1 := hide (ownsRow_below O1.out bb)
            have O2 := hide o
            clear bb hHeld o
            refine hK.out _ _ (F.out _ BVu57.out) (fun hHeld => ?_)
            clear hK K
            try simp only [Act.put, List.getElem_toArray, List.getElem_cons_zero, List.getElem_cons_succ, List.setIfInBounds_toArray, List.set_cons_zero, List.set_cons_succ]
            refine wpAnyH_ready (rs := [11]) (by kernel_rfl) (by simp) ?_
            refine AllReadyH.cons rfl (fun K hK => ?_) (AllReadyH.nil)
            · refine step_app_bol (by rfl) (.tmp 11) (.tmp 13) (by rfl) V0.heap.size (by rfl) _ (by rfl) B (RB.out.below (BZ.out.trans (BVu57.out.mono BZ.out.size))) hB.1 hB.2 ?_
              intro v3 u58 o bb
              have T3 := hide (row_top o)
              have L3 := hide (row_low o)
              obtain ⟨a3, c3, rfl⟩ := row_slice o
              have BVu58 := hide (BVu57.out.trans (bb.mono BVu57.out.size))
              have szu58 := bb.size
              have O1 := hide (ownsRow_below O1.out bb)
              have O2 := hide (ownsRow_below O2.out bb)
              have O3 := hide o
              clear bb hHeld o
              refine hK.out _ _ (F.out _ BVu58.out) (fun hHeld => ?_)
              clear hK K
              try simp only [Act.put, List.getElem_toArray, List.getElem_cons_zero, List.getElem_cons_succ, List.setIfInBounds_toArray, List.set_cons_zero, List.set_cons_succ]
              refine wpAnyH_take (i := 12) (v := ?v19) rfl (by kernel_rfl) (by kernel_rfl) (by kernel_rfl) (fun _ _ _ h => h) (Or.inl ⟨by rfl, ?hy19⟩) (by assumption) ?rest19
              case hy19 => (intro w' hSw; dsimp only [List.getElem_toArray, List.getElem_cons_zero, List.getElem_cons_succ] at hSw ⊢; go_simp; try (with_reducible rfl))
              try simp only [Act.put, List.getElem_toArray, List.getElem_cons_zero, List.getElem_cons_succ, List.setIfInBounds_toArray, List.set_cons_zero, List.set_cons_succ]
              refine wpAnyH_ready (rs := [13]) (by kernel_rfl) (by simp) ?_
              refine AllReadyH.cons rfl (fun K hK => ?_) AllReadyH.nil
              have xr := hide (XR.out.below BVu58.out)
              have xb := hide (XB.out.below BVu58.out)
              obtain ⟨d0, d1, d2⟩ := xr.out.c3
              have g0 := xr.out.frozen 0
              have g1 := xr.out.frozen 1
              have g2 := xr.out.frozen 2
              dsimp only [List.getElem_toArray, List.getElem_cons_zero, List.getElem_cons_succ]
              go_simp
              clear d0 d1 d2 g0 g1 g2 hHeld
              have C6 := Chg.store3 (lo := w.heap.size + 1) (hi := w.heap.size + 1 + 1) u58 (w.heap.size + 1) (.slice a1 P.length c1) (.slice a2 H.length c2) (.slice a3 B.length c3) (Nat.le_refl _) (by omega)
              have XF := hide (xr.out.store3 (.slice a1 P.length c1) (.slice a2 H.length c2) (.slice a3 B.length c3))
              have CC := hide C6
              have s6 := C6.size
              have cb := (xb.out.chg C6 (.inl (by omega))).c3
              clear C6
              refine hK.out _ _ cb (fun hHeld => ?_)
              clear hK K cb hHeld
              try simp only [Act.put, List.getElem_toArray, List.getElem_cons_zero, List.getElem_cons_succ, List.setIfInBounds_toArray, List.set_cons_zero, List.set_cons_succ]
              refine wpAnyH_done (by kernel_rfl) ?_ _
              refine NoPanic.normal ?_
              go_wp2
              refine bodyPost_ret (res_dsk rfl _ _ (w.heap.size + 1) _ _ _ (0, 0) rfl XF.out) rfl ⟨_, _, _, rfl, ?_, (BZ.out.trans (BVu58.out.mono BZ.out.size)).trans (CC.out.below (by omega) (by have := BVu58.out.size; have := VS.out; omega))⟩
              have VS2 := VS.out
              have q1 := BVu58.out.size
              have dd : DskV u58 (w.heap.size + 1 + 1) u58.heap.size (.slice a1 P.length c1) (.slice a2 H.length c2) (.slice a3 B.length c3) P H B := ⟨ownsRow_mono O1.out (by omega), ownsRow_mono O2.out (by omega), ownsRow_mono O3.out (by omega), fun k hk => by have := T1.out k hk; omega, fun k hk => by have := T2.out k hk; omega, fun k hk => by have := T3.out k hk; omega, own_apart T1.out L2.out (by omega), SP.out, SH.out⟩
              exact (dd.chg CC.out (.inr (Nat.le_refl _))).wider (by omega) s6
      · dsimp only [List.getElem_toArray, List.getElem_cons_zero, List.getElem_cons_succ]
        go_simp
        have bb := below_box u54 (.cells #[] 9)
        generalize u54.alloc (.cells #[] 9) = u59 at bb ⊢
        have BVu59 := hide (BVu54.out.trans (bb.mono BVu54.out.size))
        have szu59 := bb.size
        clear bb hHeld
        refine hK.out _ _ (F.out _ BVu59.out) (fun hHeld => ?_)
        clear hK K
        try simp only [Act.put, List.getElem_toArray, List.getElem_cons_zero, List.getElem_cons_succ, List.setIfInBounds_toArray, List.set_cons_zero, List.set_cons_succ]
        refine wpAnyH_ready (rs := [3]) (by kernel_rfl) (by simp) ?_
        refine AllReadyH.cons rfl (fun K hK => ?_) (AllReadyH.nil)
        · refine step_app_txt (by rfl) (.tmp 3) (.tmp 5) (by rfl) u53.heap.size (by rfl) _ (by rfl) P (RP.out.below (BZ.out.trans (BVu59.out.mono BZ.out.size))) hP.1 hP.2 ?_
          intro v1 u60 o bb
          have T1 := hide (row_top o)
          have L1 := hide (row_low o)
          obtain ⟨a1, c1, rfl⟩ := row_slice o
          have BVu60 := hide (BVu59.out.trans (bb.mono BVu59.out.size))
          have szu60 := bb.size
          have O1 := hide o
          clear bb hHeld o
          refine hK.out _ _ (F.out _ BVu60.out) (fun hHeld => ?_)
          clear hK K
          try simp only [Act.put, List.getElem_toArray, List.getElem_cons_zero, List.getElem_cons_succ, List.setIfInBounds_toArray, List.set_cons_zero, List.set_cons_succ]
          refine wpAnyH_ready (rs := [7]) (by kernel_rfl) (by simp) ?_
          refine AllReadyH.cons rfl (fun K hK => ?_) (AllReadyH.nil)
          · refine step_app_txt (by rfl) (.tmp 7) (.tmp 9) (by rfl) u54.heap.size (by rfl) _ (by rfl) H (RH.out.below (BZ.out.trans (BVu60.out.mono BZ.out.size))) hH.1 hH.2 ?_
            intro v2 u61 o bb
            have T2 := hide (row_top o)
            have L2 := hide (row_low o)
            obtain ⟨a2, c2, rfl⟩ := row_slice o
            have BVu61 := hide (BVu60.out.trans (bb.mono BVu60.out.size))
            have szu61 := bb.size
            have O1 := hide (ownsRow_below O1.out bb)
            have O2 := hide o
            clear bb hHeld o
            refine hK.out _ _ (F.out _ BVu61.out) (fun hHeld => ?_)
            clear hK K
            try simp only [Act.put, List.getElem_toArray, List.getElem_cons_zero, List.getElem_cons_succ, List.setIfInBounds_toArray, List.set_cons_zero, List.set_cons_succ]
            refine wpAnyH_ready (rs := [11]) (by kernel_rfl) (by simp) ?_
            refine AllReadyH.cons rfl (fun K hK => ?_) (AllReadyH.nil)
            · refine step_app_bol (by rfl) (.tmp 11) (.tmp 13) (by rfl) V0.heap.size (by rfl) _ (by rfl) B (RB.out.below (BZ.out.trans (BVu61.out.mono BZ.out.size))) hB.1 hB.2 ?_
              intro v3 u62 o bb
              have T3 := hide (row_top o)
              have L3 := hide (row_low o)
              obtain ⟨a3, c3, rfl⟩ := row_slice o
              have BVu62 := hide (BVu61.out.trans (bb.mono BVu61.out.size))
              have szu62 := bb.size
              have O1 := hide (ownsRow_below O1.out bb)
              have O2 := hide (ownsRow_below O2.out bb)
              have O3 := hide o
              clear bb hHeld o
              refine hK.out _ _ (F.out _ BVu62.out) (fun hHeld => ?_)
              clear hK K
              try simp only [Act.put, List.getElem_toArray, List.getElem_cons_zero, List.getElem_cons_succ, List.setIfInBounds_toArray, List.set_cons_zero, List.set_cons_succ]
              refine wpAnyH_take (i := 12) (v := ?v20) rfl (by kernel_rfl) (by kernel_rfl) (by kernel_rfl) (fun _ _ _ h => h) (Or.inl ⟨by rfl, ?hy20⟩) (by assumption) ?rest20
              case hy20 => (intro w' hSw; dsimp only [List.getElem_toArray, List.getElem_cons_zero, List.getElem_cons_succ] at hSw ⊢; go_simp; try (with_reducible rfl))
              try simp only [Act.put, List.getElem_toArray, List.getElem_cons_zero, List.getElem_cons_succ, List.setIfInBounds_toArray, List.set_cons_zero, List.set_cons_succ]
              refine wpAnyH_ready (rs := [13]) (by kernel_rfl) (by simp) ?_
              refine AllReadyH.cons rfl (fun K hK => ?_) AllReadyH.nil
              have xr := hide (XR.out.below BVu62.out)
              have xb := hide (XB.out.below BVu62.out)
              obtain ⟨d0, d1, d2⟩ := xr.out.c3
              have g0 := xr.out.frozen 0
              have g1 := xr.out.frozen 1
              have g2 := xr.out.frozen 2
              dsimp only [List.getElem_toArray, List.getElem_cons_zero, List.getElem_cons_succ]
              go_simp
              clear d0 d1 d2 g0 g1 g2 hHeld
              have C6 := Chg.store3 (lo := w.heap.size + 1) (hi := w.heap.size + 1 + 1) u62 (w.heap.size + 1) (.slice a1 P.length c1) (.slice a2 H.length c2) (.slice a3 B.length c3) (Nat.le_refl _) (by omega)
              have XF := hide (xr.out.store3 (.slice a1 P.length c1) (.slice a2 H.length c2) (.slice a3 B.length c3))
              have CC := hide C6
              have s6 := C6.size
              have cb := (xb.out.chg C6 (.inl (by omega))).c3
              clear C6
              refine hK.out _ _ cb (fun hHeld => ?_)
              clear hK K cb hHeld
              try simp only [Act.put, List.getElem_toArray, List.getElem_cons_zero, List.getElem_cons_succ, List.setIfInBounds_toArray, List.set_cons_zero, List.set_cons_succ]
              refine wpAnyH_done (by kernel_rfl) ?_ _
              refine NoPanic.normal ?_
              go_wp2
              refine bodyPost_ret (res_dsk rfl _ _ (w.heap.size + 1) _ _ _ (0, 0) rfl XF.out) rfl ⟨_, _, _, rfl, ?_, (BZ.out.trans (BVu62.out.mono BZ.out.size)).trans (CC.out.below (by omega) (by have := BVu62.out.size; have := VS.out; omega))⟩
              have VS2 := VS.out
              have q1 := BVu62.out.size
              have dd : DskV u62 (w.heap.size + 1 + 1) u62.heap.size (.slice a1 P.length c1) (.slice a2 H.length c2) (.slice a3 B.length c3) P H B := ⟨ownsRow_mono O1.out (by omega), ownsRow_mono O2.out (by omega), ownsRow_mono O3.out (by omega), fun k hk => by have := T1.out k hk; omega, fun k hk => by have := T2.out k hk; omega, fun k hk => by have := T3.out k hk; omega, own_apart T1.out L2.out (by omega), SP.out, SH.out⟩
              exact (dd.chg CC.out (.inr (Nat.le_refl _))).wider (by omega) s6
    · dsimp only [List.getElem_toArray, List.getElem_cons_zero, List.getElem_cons_succ]
      go_simp
      have bb := below_box u53 (.cells #[] 9)
      generalize u53.alloc (.cells #[] 9) = u63 at bb ⊢
      have BVu63 := hide (BVu53.out.trans (bb.mono BVu53.out.size))
      have szu63 := bb.size
      clear bb hHeld
      refine hK.out _ _ (F.out _ BVu63.out) (fun hHeld => ?_)
      clear hK K
      try simp only [Act.put, List.getElem_toArray, List.getElem_cons_zero, List.getElem_cons_succ, List.setIfInBounds_toArray, List.set_cons_zero, List.set_cons_succ]
      refine wpAnyH_ready (rs := [0]) (by kernel_rfl) (by simp) ?_
      refine AllReadyH.cons rfl (fun K hK => ?_) (AllReadyH.nil)
      · dsimp only [List.getElem_toArray, List.getElem_cons_zero, List.getElem_cons_succ]
        go_simp
        have bb := below_box u63 (.cells #[] 9)
        generalize u63.alloc (.cells #[] 9) = u64 at bb ⊢
        have BVu64 := hide (BVu63.out.trans (bb.mono BVu63.out.size))
        have szu64 := bb.size
        clear bb hHeld
        refine hK.out _ _ (F.out _ BVu64.out) (fun hHeld => ?_)
        clear hK K
        try simp only [Act.put, List.getElem_toArray, List.getElem_cons_zero, List.getElem_cons_succ, List.setIfInBounds_toArray, List.set_cons_zero, List.set_cons_succ]
        refine wpAnyH_ready (rs := [3]) (by kernel_rfl) (by simp) ?_
        refine AllReadyH.cons rfl (fun K hK => ?_) (AllReadyH.nil)
        · refine step_app_txt (by rfl) (.tmp 3) (.tmp 5) (by rfl) u63.heap.size (by rfl) _ (by rfl) P (RP.out.below (BZ.out.trans (BVu64.out.mono BZ.out.size))) hP.1 hP.2 ?_
          intro v1 u65 o bb
          have T1 := hide (row_top o)
          have L1 := hide (row_low o)
          obtain ⟨a1, c1, rfl⟩ := row_slice o
          have BVu65 := hide (BVu64.out.trans (bb.mono BVu64.out.size))
          have szu65 := bb.size
          have O1 := hide o
          clear bb hHeld o
          refine hK.out _ _ (F.out _ BVu65.out) (fun hHeld => ?_)
          clear hK K
          try simp only [Act.put, List.getElem_toArray, List.getElem_cons_zero, List.getElem_cons_succ, List.setIfInBounds_toArray, List.set_cons_zero, List.set_cons_succ]
          refine wpAnyH_ready (rs := [7]) (by kernel_rfl) (by simp) ?_
          refine AllReadyH.cons rfl (fun K hK => ?_) (AllReadyH.nil)
          · refine step_app_txt (by rfl) (.tmp 7) (.tmp 9) (by rfl) u53.heap.size (by rfl) _ (by rfl) H (RH.out.below (BZ.out.trans (BVu65.out.mono BZ.out.size))) hH.1 hH.2 ?_
            intro v2 u66 o bb
            have T2 := hide (row_top o)
            have L2 := hide (row_low o)
            obtain ⟨a2, c2, rfl⟩ := row_slice o
            have BVu66 := hide (BVu65.out.trans (bb.mono BVu65.out.size))
            have szu66 := bb.size
            have O1 := hide (ownsRow_below O1.out bb)
            have O2 := hide o
            clear bb hHeld o
            refine hK.out _ _ (F.out _ BVu66.out) (fun hHeld => ?_)
            clear hK K
            try simp only [Act.put, List.getElem_toArray, List.getElem_cons_zero, List.getElem_cons_succ, List.setIfInBounds_toArray, List.set_cons_zero, List.set_cons_succ]
            refine wpAnyH_ready (rs := [11]) (by kernel_rfl) (by simp) ?_
            refine AllReadyH.cons rfl (fun K hK => ?_) (AllReadyH.nil)
            · refine step_app_bol (by rfl) (.tmp 11) (.tmp 13) (by rfl) V0.heap.size (by rfl) _ (by rfl) B (RB.out.below (BZ.out.trans (BVu66.out.mono BZ.out.size))) hB.1 hB.2 ?_
              intro v3 u67 o bb
              have T3 := hide (row_top o)
              have L3 := hide (row_low o)
              obtain ⟨a3, c3, rfl⟩ := row_slice o
              have BVu67 := hide (BVu66.out.trans (bb.mono BVu66.out.size))
              have szu67 := bb.size
              have O1 := hide (ownsRow_below O1.out bb)
              have O2 := hide (ownsRow_below O2.out bb)
              have O3 := hide o
              clear bb hHeld o
              refine hK.out _ _ (F.out _ BVu67.out) (fun hHeld => ?_)
              clear hK K
              try simp only [Act.put, List.getElem_toArray, List.getElem_cons_zero, List.getElem_cons_succ, List.setIfInBounds_toArray, List.set_cons_zero, List.set_cons_succ]
              refine wpAnyH_take (i := 12) (v := ?v21) rfl (by kernel_rfl) (by kernel_rfl) (by kernel_rfl) (fun _ _ _ h => h) (Or.inl ⟨by rfl, ?hy21⟩) (by assumption) ?rest21
              case hy21 => (intro w' hSw; dsimp only [List.getElem_toArray, List.getElem_cons_zero, List.getElem_cons_succ] at hSw ⊢; go_simp; try (with_reducible rfl))
              try simp only [Act.put, List.getElem_toArray, List.getElem_cons_zero, List.getElem_cons_succ, List.setIfInBounds_toArray, List.set_cons_zero, List.set_cons_succ]
              refine wpAnyH_ready (rs := [13]) (by kernel_rfl) (by simp) ?_
              refine AllReadyH.cons rfl (fun K hK => ?_) AllReadyH.nil
              have xr := hide (XR.out.below BVu67.out)
              have xb := hide (XB.out.below BVu67.out)
              obtain ⟨d0, d1, d2⟩ := xr.out.c3
              have g0 := xr.out.frozen 0
              have g1 := xr.out.frozen 1
              have g2 := xr.out.frozen 2
              dsimp only [List.getElem_toArray, List.getElem_cons_zero, List.getElem_cons_succ]
              go_simp
              clear d0 d1 d2 g0 g1 g2 hHeld
              have C6 := Chg.store3 (lo := w.heap.size + 1) (hi := w.heap.size + 1 + 1) u67 (w.heap.size + 1) (.slice a1 P.length c1) (.slice a2 H.length c2) (.slice a3 B.length c3) (Nat.le_refl _) (by omega)
              have XF := hide (xr.out.store3 (.slice a1 P.length c1) (.slice a2 H.length c2) (.slice a3 B.length c3))
              have CC := hide C6
              have s6 := C6.size
              have cb := (xb.out.chg C6 (.inl (by omega))).c3
              clear C6
              refine hK.out _ _ cb (fun hHeld => ?_)
              clear hK K cb hHeld
              try simp only [Act.put, List.getElem_toArray, List.getElem_cons_zero, List.getElem_cons_succ, List.setIfInBounds_toArray, List.set_cons_zero, List.set_cons_succ]
              refine wpAnyH_done (by kernel_rfl) ?_ _
              refine NoPanic.normal ?_
              go_wp2
              refine bodyPost_ret (res_dsk rfl _ _ (w.heap.size + 1) _ _ _ (0, 0) rfl XF.out) rfl ⟨_, _, _, rfl, ?_, (BZ.out.trans (BVu67.out.mono BZ.out.size)).trans (CC.out.below (by omega) (by have := BVu67.out.size; have := VS.out; omega))⟩
              have VS2 := VS.out
              have q1 := BVu67.out.size
              have dd : DskV u67 (w.heap.size + 1 + 1) u67.heap.size (.slice a1 P.length c1) (.slice a2 H.length c2) (.slice a3 B.length c3) P H B := ⟨ownsRow_mono O1.out (by omega), ownsRow_mono O2.out (by omega), ownsRow_mono O3.out (by omega), fun k hk => by have := T1.out k hk; omega, fun k hk => by have := T2.out k hk; omega, fun k hk => by have := T3.out k hk; omega, own_apart T1.out L2.out (by omega), SP.out, SH.out⟩
              exact (dd.chg CC.out (.inr (Nat.le_refl _))).wider (by omega) s6
end Go.Proofs.YtbgadbokejaomaaGreatDoor

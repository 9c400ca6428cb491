/-
  Filters met: the model's function, call by call. Each contract says what it asks.
-/
import Derived.Test.YtehjfjplajimfaaFlh
namespace Go.Proofs.Ytehjfjplajimfaa
open Go.RowKit
set_option linter.unusedVariables false
set_option linter.unusedSimpArgs false
set_option maxRecDepth 100000 in
set_option maxHeartbeats 1600000 in
theorem sMeetFilters_calls (v v' : Value) (xs ys : List Bool) (ok : Bool) (w : World) (h : RdZ w v xs) (h' : RdZ w v' ys) (hok : ok = true ↔ (xs.length = 64 ∧ ys.length = 64)) :
    Calls Try.prog 47 #[.agg #[v], .agg #[v']] w fun e w' => ∃ v', e = .returned (.tuple #[.agg #[v'], .bool ok]) ∧ OwnZ w' w.heap.size v' (gX ok (anB xs ys 64)) ∧ Below w.heap.size w w' := by
  obtain ⟨a, c, rfl, hm⟩ := h.slv
  obtain ⟨a', c', rfl, hm'⟩ := h'.slv
  have A0 := hide (Hand.threeN w #[.slice a xs.length c] #[.slice a' ys.length c'] #[.slice none 0 0] 46 46 46)
  have R := hide h
  have R' := hide h'
  obtain ⟨gb, hgb⟩ := bol_ex (xs.length = 64)
  obtain ⟨kb, hkb⟩ := bol_ex (ys.length = 64)
  clear h h'
  cases gb with
  | false =>
    obtain rfl : ok = false := by cases ok with | false => rfl | true => exact absurd (hok.1 rfl).1 (nf hgb)
    rw [gX_false]
    have NG := hide (nf hgb)
    clear hgb hkb hok
    go_enter Try.func47, Try.ntmps47
    go_wp2_with fail
    refine (sGoodFilter_calls _ xs false _ (R.out.below A0.out.below) (bF NG.out)).mono ?_
    rintro e w1 ⟨rfl, b1⟩
    have A1 := hide (A0.out.step b1)
    clear b1 A0
    have z0 := (A1.out.atBox 0 rfl).c1
    have y0 := (A1.out.atBox 0 rfl).frozen 0
    have A9 := hide (A1.out.setBoxT 0 rfl 0 (.slice none 0 0))
    go_wp2
    exact bodyPost_ret (res_fi2 rfl _ _ (w.heap.size + 1 + 1) _ (0, 0) rfl (A9.out.atBox 0 rfl)) rfl ⟨_, rfl, World.ownsRow_nil _ _ _ _, A9.out.below⟩
  | true =>
    have HL := hide (hgb.1 rfl)
    cases kb with
    | false =>
      obtain rfl : ok = false := by cases ok with | false => rfl | true => exact absurd (hok.1 rfl).2 (nf hkb)
      rw [gX_false]
      have NK := hide (nf hkb)
      clear hgb hkb hok
      go_enter Try.func47, Try.ntmps47
      go_wp2_with fail
      refine (sGoodFilter_calls _ xs true _ (R.out.below A0.out.below) (bT HL.out)).mono ?_
      rintro e w1 ⟨rfl, b1⟩
      have A1 := hide (A0.out.step b1)
      clear b1 A0
      have c1 := (A1.out.atBox 1 rfl).c1
      go_wp2_with fail
      refine (sGoodFilter_calls _ ys false _ (R'.out.below A1.out.below) (bF NK.out)).mono ?_
      rintro e w2 ⟨rfl, b2⟩
      have A2 := hide (A1.out.step b2)
      clear b2 A1 c1
      have z0 := (A2.out.atBox 0 rfl).c1
      have y0 := (A2.out.atBox 0 rfl).frozen 0
      have A9 := hide (A2.out.setBoxT 0 rfl 0 (.slice none 0 0))
      go_wp2
      exact bodyPost_ret (res_fi2 rfl _ _ (w.heap.size + 1 + 1) _ (0, 0) rfl (A9.out.atBox 0 rfl)) rfl ⟨_, rfl, World.ownsRow_nil _ _ _ _, A9.out.below⟩
    | true =>
      obtain rfl : ok = true := hok.2 ⟨hgb.1 rfl, hkb.1 rfl⟩
      have HM := hide (hkb.1 rfl)
      rw [gX_true]
      clear hgb hkb hok
      go_enter Try.func47, Try.ntmps47
      go_wp2_with fail
      refine (sGoodFilter_calls _ xs true _ (R.out.below A0.out.below) (bT HL.out)).mono ?_
      rintro e w0 ⟨rfl, b1⟩
      have A0' := hide (A0.out.step b1)
      clear b1 A0
      have c1 := (A0'.out.atBox 1 rfl).c1
      go_wp2_with fail
      refine (sGoodFilter_calls _ ys true _ (R'.out.below A0'.out.below) (bT HM.out)).mono ?_
      rintro e w1 ⟨rfl, b2⟩
      have A1 := hide (A0'.out.step b2)
      clear b2 A0' c1
      have c0 := (A1.out.atBox 2 rfl).c1
      have c1 := (A1.out.atBox 1 rfl).c1
      go_wp2_with fail
      refine (sl13Own_calls _ xs _ (R.out.below A1.out.below) HL.out).mono ?_
      rintro e w2 ⟨v2, rfl, o2, b2⟩
      obtain ⟨g2, c2, rfl, hg2, _⟩ := o2.opn (by rw [HL.out]; omega)
      rw [HL.out]
      have o2' : w2.ownsRow w1.heap.size 4 1 (.slice (some ⟨g2, 0, none⟩) 64 c2) 64 (xs.map Value.bool) := by
        have := o2
        unfold OwnZ at this
        rwa [HL.out] at this
      have gt2 : g2 < w2.heap.size := row_top o2' g2 rfl
      have A2 := hide ((A1.out.step b2).box #[.slice (some ⟨g2, 0, none⟩) 64 c2] 46)
      have O2 := hide (ownsRow_below o2' (below_box w2 (.cells #[.slice (some ⟨g2, 0, none⟩) 64 c2] 46)))
      have lo1 : w.heap.size + 1 + 1 < w1.heap.size := (A1.out.atBox 0 rfl).lt
      have sz2 := b2.size
      clear o2 o2' b2 A1 c0 c1
      have c1 := (A2.out.atBox 2 rfl).c1
      have c9 := (A2.out.atBox 0 rfl).c1
      obtain ⟨ba, boff, bc, e0, bbl⟩ := R'.out.opn (by rw [HM.out]; omega)
      simp only [Value.slice.injEq] at e0
      obtain ⟨rfl, e0, rfl⟩ := e0
      clear e0
      have HM' : ys.length = 64 := HM.out
      rw [HM'] at c1 A2 R' ⊢
      have RY := hide (R'.out.below A2.out.below)
      clear HM'
      go_wp2
      generalize hW3 : w2.alloc (.cells #[.slice (some ⟨g2, 0, none⟩) 64 c2] 46) = w3 at *
      clear hW3
      go_loopw [23] (fun vi wr => ∃ j : Nat, j ≤ 64 ∧ vi = .int .i64 j ∧ wr.ownsRow w1.heap.size 4 1 (.slice (some ⟨g2, 0, none⟩) 64 c2) 64 ((anB xs ys j).map Value.bool) ∧ w3.grownBy wr (some g2)) (fun vi _ => 64 - (intOf vi).toNat)
      case atStart => exact ⟨0, Nat.zero_le _, rfl, by rw [anB_zero]; exact O2.out, World.grownBy.refl _ _⟩
      case round =>
        obtain ⟨j, hj, rfl, hown, hgr⟩ := hrel
        have XB := hide ((A2.out.atBox 0 rfl).kept hgr (by simp; omega))
        have X9 := XB.out.c1
        by_cases hlt : j < 64
        · have hlt' : (j : Int) < 64 := by omega
          have hcy := (rdZ_grown RY.out hgr (by simp; omega)).atv j (by rw [HM.out]; exact hlt)
          obtain ⟨b', off', e, hc2⟩ := hcy
          simp only [Option.some.injEq, Addr.mk.injEq, and_true] at e
          obtain ⟨rfl, rfl⟩ := e
          have hc3 : wr.frozen? ⟨g2, j, none⟩ = false := hown.frozenAt j
          have hc4 : wr.cell? ⟨g2, j, none⟩ = some (.bool ((anB xs ys j).getD j false)) := by
            rw [hown.cellAt j (by omega)]
            have hl := anB_len xs ys j
            rw [HL.out] at hl
            rw [List.getElem?_map, List.getElem?_eq_getElem (by omega), List.getD_eq_getElem?_getD, List.getElem?_eq_getElem (by omega)]
            rfl
          have ST : Hid ((anB xs ys j).set j ((anB xs ys j).getD j false && ys.getD j false) = anB xs ys (j + 1)) := anB_succ xs ys j (by rw [HL.out]; exact hlt)
          have HO := hide hown
          have G := hide hgr
          clear hown hgr
          generalize (anB xs ys j).getD j false = z at hc4 ST
          generalize ys.getD j false = y at hc2 ST
          cases z with
          | true =>
            have KK := hide (HO.out.stored j (.bool (true && y)))
            rw [← List.map_set, ST.out] at KK
            have KS := hide (show w3.grownBy _ (some g2) from grown_tr G.out KK.out.2)
            have XS := hide ((XB.out.other (g' := g2) (j := j) (x := .bool (true && y)) (by omega)).c1)
            go_wp2
            refine wp_region_noPanic ?_
            refine wp_region_held_drew (S := fun w' => w'.cell? ⟨w2.heap.size, 0, none⟩ = some (.slice (some ⟨g2, 0, none⟩) 64 c2)) (by kernel_rfl) (XB.out.c1) (fun hHeld => ?_)
            refine wpAnyH_take (i := 0) (v := ?v22) rfl (by kernel_rfl) (by kernel_rfl) (by kernel_rfl) (fun _ _ _ h => h) (Or.inl ⟨by rfl, ?hy22⟩) (by assumption) ?rest22
            case hy22 => (intro w' hSw; dsimp only [List.getElem_toArray, List.getElem_cons_zero, List.getElem_cons_succ] at hSw ⊢; go_simp; try (with_reducible rfl))
            try simp only [Act.put, List.getElem_toArray, List.getElem_cons_zero, List.getElem_cons_succ, List.setIfInBounds_toArray, List.set_cons_zero, List.set_cons_succ]
            refine wpAnyH_take (i := 1) (v := ?v23) rfl (by kernel_rfl) (by kernel_rfl) (by kernel_rfl) (fun _ _ _ h => h) (Or.inl ⟨by rfl, ?hy23⟩) (by assumption) ?rest23
            case hy23 => (intro w' hSw; dsimp only [List.getElem_toArray, List.getElem_cons_zero, List.getElem_cons_succ] at hSw ⊢; go_simp; try (with_reducible rfl))
            try simp only [Act.put, List.getElem_toArray, List.getElem_cons_zero, List.getElem_cons_succ, List.setIfInBounds_toArray, List.set_cons_zero, List.set_cons_succ]
            refine wpAnyH_take (i := 2) (v := ?v24) rfl (by kernel_rfl) (by kernel_rfl) (by kernel_rfl) (fun _ _ _ h => h) (Or.inl ⟨by rfl, ?hy24⟩) (by assumption) ?rest24
            case hy24 => (intro w' hSw; dsimp only [List.getElem_toArray, List.getElem_cons_zero, List.getElem_cons_succ] at hSw ⊢; go_simp; try (with_reducible rfl))
            try simp only [Act.put, List.getElem_toArray, List.getElem_cons_zero, List.getElem_cons_succ, List.setIfInBounds_toArray, List.set_cons_zero, List.set_cons_succ]
            refine wpAnyH_take (i := 3) (v := ?v25) rfl (by kernel_rfl) (by kernel_rfl) (by kernel_rfl) (fun _ _ _ h => h) (Or.inl ⟨by rfl, ?hy25⟩) (by assumption) ?rest25
            case hy25 => (intro w' hSw; dsimp only [List.getElem_toArray, List.getElem_cons_zero, List.getElem_cons_succ] at hSw ⊢; go_simp; try (with_reducible rfl))
            try simp only [Act.put, List.getElem_toArray, List.getElem_cons_zero, List.getElem_cons_succ, List.setIfInBounds_toArray, List.set_cons_zero, List.set_cons_succ]
            refine wpAnyH_take (i := 4) (v := ?v26) rfl (by kernel_rfl) (by kernel_rfl) (by kernel_rfl) (fun _ _ _ h => h) (Or.inl ⟨by rfl, ?hy26⟩) (by assumption) ?rest26
            case hy26 => (intro w' hSw; dsimp only [List.getElem_toArray, List.getElem_cons_zero, List.getElem_cons_succ] at hSw ⊢; go_simp; try (with_reducible rfl))
            try simp only [Act.put, List.getElem_toArray, List.getElem_cons_zero, List.getElem_cons_succ, List.setIfInBounds_toArray, List.set_cons_zero, List.set_cons_succ]
            refine wpAnyH_take (i := 5) (v := ?v27) rfl (by kernel_rfl) (by kernel_rfl) (by kernel_rfl) (fun _ _ _ h => h) (Or.inl ⟨by rfl, ?hy27⟩) (by assumption) ?rest27
            case hy27 => (intro w' hSw; dsimp only [List.getElem_toArray, List.getElem_cons_zero, List.getElem_cons_succ] at hSw ⊢; go_simp; try (with_reducible rfl))
            try simp only [Act.put, List.getElem_toArray, List.getElem_cons_zero, List.getElem_cons_succ, List.setIfInBounds_toArray, List.set_cons_zero, List.set_cons_succ]
            refine wpAnyH_take (i := 6) (v := ?v28) rfl (by kernel_rfl) (by kernel_rfl) (by kernel_rfl) (fun _ _ _ h => h) (Or.inl ⟨by rfl, ?hy28⟩) (by assumption) ?rest28
            case hy28 => (intro w' hSw; dsimp only [List.getElem_toArray, List.getElem_cons_zero, List.getElem_cons_succ] at hSw ⊢; go_simp; try (with_reducible rfl))
            try simp only [Act.put, List.getElem_toArray, List.getElem_cons_zero, List.getElem_cons_succ, List.setIfInBounds_toArray, List.set_cons_zero, List.set_cons_succ]
            refine wpAnyH_ready (rs := [7]) (by kernel_rfl) (by simp) ?_
            refine AllReadyH.cons rfl (fun K hK => ?_) AllReadyH.nil
            dsimp only [List.getElem_toArray, List.getElem_cons_zero, List.getElem_cons_succ]
            go_simp
            refine hK.out _ _ (XB.out.c1) (fun hHeld => ?_)
            clear hK K
            try simp only [Act.put, List.getElem_toArray, List.getElem_cons_zero, List.getElem_cons_succ, List.setIfInBounds_toArray, List.set_cons_zero, List.set_cons_succ]
            refine wpAnyH_take (i := 8) (v := ?v29) rfl (by kernel_rfl) (by kernel_rfl) (by kernel_rfl) (fun _ _ _ h => h) (Or.inl ⟨by rfl, ?hy29⟩) (by assumption) ?rest29
            case hy29 => (intro w' hSw; dsimp only [List.getElem_toArray, List.getElem_cons_zero, List.getElem_cons_succ] at hSw ⊢; go_simp; try (with_reducible rfl))
            try simp only [Act.put, List.getElem_toArray, List.getElem_cons_zero, List.getElem_cons_succ, List.setIfInBounds_toArray, List.set_cons_zero, List.set_cons_succ]
            refine wpAnyH_take (i := 9) (v := ?v30) rfl (by kernel_rfl) (by kernel_rfl) (by kernel_rfl) (fun _ _ _ h => h) (Or.inl ⟨by rfl, ?hy30⟩) (by assumption) ?rest30
            case hy30 => (intro w' hSw; dsimp only [List.getElem_toArray, List.getElem_cons_zero, List.getElem_cons_succ] at hSw ⊢; go_simp; try (with_reducible rfl))
            try simp only [Act.put, List.getElem_toArray, List.getElem_cons_zero, List.getElem_cons_succ, List.setIfInBounds_toArray, List.set_cons_zero, List.set_cons_succ]
            refine wpAnyH_take (i := 10) (v := ?v31) rfl (by kernel_rfl) (by kernel_rfl) (by kernel_rfl) (fun _ _ _ h => h) (Or.inl ⟨by rfl, ?hy31⟩) (by assumption) ?rest31
            case hy31 => (intro w' hSw; dsimp only [List.getElem_toArray, List.getElem_cons_zero, List.getElem_cons_succ] at hSw ⊢; go_simp; try (with_reducible rfl))
            try simp only [Act.put, List.getElem_toArray, List.getElem_cons_zero, List.getElem_cons_succ, List.setIfInBounds_toArray, List.set_cons_zero, List.set_cons_succ]
            refine wpAnyH_take (i := 11) (v := ?v32) rfl (by kernel_rfl) (by kernel_rfl) (by kernel_rfl) (fun _ _ _ h => h) (Or.inl ⟨by rfl, ?hy32⟩) (by assumption) ?rest32
            case hy32 => (intro w' hSw; dsimp only [List.getElem_toArray, List.getElem_cons_zero, List.getElem_cons_succ] at hSw ⊢; go_simp; try (with_reducible rfl))
            try simp only [Act.put, List.getElem_toArray, List.getElem_cons_zero, List.getElem_cons_succ, List.setIfInBounds_toArray, List.set_cons_zero, List.set_cons_succ]
            refine wpAnyH_ready (rs := [12]) (by kernel_rfl) (by simp) ?_
            refine AllReadyH.cons rfl (fun K hK => ?_) AllReadyH.nil
            dsimp only [List.getElem_toArray, List.getElem_cons_zero, List.getElem_cons_succ]
            go_simp
            refine hK.out _ _ (XS.out) (fun hHeld => ?_)
            clear hK K
            try simp only [Act.put, List.getElem_toArray, List.getElem_cons_zero, List.getElem_cons_succ, List.setIfInBounds_toArray, List.set_cons_zero, List.set_cons_succ]
            refine wpAnyH_done (by kernel_rfl) ?_ _
            refine NoPanic.normal ?_
            clear hHeld
            go_wp2
            go_roundw
            case rel => exact ⟨j + 1, by omega, by go_num, ownsRow_below KK.out.1 (Below.refl _ _).drew, grownBy_drewA KS.out⟩
            case measure => simp [intOf]; omega
          | false =>
            have KK := hide (HO.out.stored j (.bool (false && y)))
            rw [← List.map_set, ST.out] at KK
            have KS := hide (show w3.grownBy _ (some g2) from grown_tr G.out KK.out.2)
            have XS := hide ((XB.out.other (g' := g2) (j := j) (x := .bool (false && y)) (by omega)).c1)
            go_wp2
            refine wp_region_noPanic ?_
            refine wp_region_held_drew (S := fun w' => w'.cell? ⟨w2.heap.size, 0, none⟩ = some (.slice (some ⟨g2, 0, none⟩) 64 c2)) (by kernel_rfl) (XB.out.c1) (fun hHeld => ?_)
            refine wpAnyH_take (i := 0) (v := ?v33) rfl (by kernel_rfl) (by kernel_rfl) (by kernel_rfl) (fun _ _ _ h => h) (Or.inl ⟨by rfl, ?hy33⟩) (by assumption) ?rest33
            case hy33 => (intro w' hSw; dsimp only [List.getElem_toArray, List.getElem_cons_zero, List.getElem_cons_succ] at hSw ⊢; go_simp; try (with_reducible rfl))
            try simp only [Act.put, List.getElem_toArray, List.getElem_cons_zero, List.getElem_cons_succ, List.setIfInBounds_toArray, List.set_cons_zero, List.set_cons_succ]
            refine wpAnyH_take (i := 1) (v := ?v34) rfl (by kernel_rfl) (by kernel_rfl) (by kernel_rfl) (fun _ _ _ h => h) (Or.inl ⟨by rfl, ?hy34⟩) (by assumption) ?rest34
            case hy34 => (intro w' hSw; dsimp only [List.getElem_toArray, List.getElem_cons_zero, List.getElem_cons_succ] at hSw ⊢; go_simp; try (with_reducible rfl))
            try simp only [Act.put, List.getElem_toArray, List.getElem_cons_zero, List.getElem_cons_succ, List.setIfInBounds_toArray, List.set_cons_zero, List.set_cons_succ]
            refine wpAnyH_take (i := 2) (v := ?v35) rfl (by kernel_rfl) (by kernel_rfl) (by kernel_rfl) (fun _ _ _ h => h) (Or.inl ⟨by rfl, ?hy35⟩) (by assumption) ?rest35
            case hy35 => (intro w' hSw; dsimp only [List.getElem_toArray, List.getElem_cons_zero, List.getElem_cons_succ] at hSw ⊢; go_simp; try (with_reducible rfl))
            try simp only [Act.put, List.getElem_toArray, List.getElem_cons_zero, List.getElem_cons_succ, List.setIfInBounds_toArray, List.set_cons_zero, List.set_cons_succ]
            refine wpAnyH_take (i := 3) (v := ?v36) rfl (by kernel_rfl) (by kernel_rfl) (by kernel_rfl) (fun _ _ _ h => h) (Or.inl ⟨by rfl, ?hy36⟩) (by assumption) ?rest36
            case hy36 => (intro w' hSw; dsimp only [List.getElem_toArray, List.getElem_cons_zero, List.getElem_cons_succ] at hSw ⊢; go_simp; try (with_reducible rfl))
            try simp only [Act.put, List.getElem_toArray, List.getElem_cons_zero, List.getElem_cons_succ, List.setIfInBounds_toArray, List.set_cons_zero, List.set_cons_succ]
            refine wpAnyH_take (i := 4) (v := ?v37) rfl (by kernel_rfl) (by kernel_rfl) (by kernel_rfl) (fun _ _ _ h => h) (Or.inl ⟨by rfl, ?hy37⟩) (by assumption) ?rest37
            case hy37 => (intro w' hSw; dsimp only [List.getElem_toArray, List.getElem_cons_zero, List.getElem_cons_succ] at hSw ⊢; go_simp; try (with_reducible rfl))
            try simp only [Act.put, List.getElem_toArray, List.getElem_cons_zero, List.getElem_cons_succ, List.setIfInBounds_toArray, List.set_cons_zero, List.set_cons_succ]
            refine wpAnyH_take (i := 5) (v := ?v38) rfl (by kernel_rfl) (by kernel_rfl) (by kernel_rfl) (fun _ _ _ h => h) (Or.inl ⟨by rfl, ?hy38⟩) (by assumption) ?rest38
            case hy38 => (intro w' hSw; dsimp only [List.getElem_toArray, List.getElem_cons_zero, List.getElem_cons_succ] at hSw ⊢; go_simp; try (with_reducible rfl))
            try simp only [Act.put, List.getElem_toArray, List.getElem_cons_zero, List.getElem_cons_succ, List.setIfInBounds_toArray, List.set_cons_zero, List.set_cons_succ]
            refine wpAnyH_take (i := 6) (v := ?v39) rfl (by kernel_rfl) (by kernel_rfl) (by kernel_rfl) (fun _ _ _ h => h) (Or.inl ⟨by rfl, ?hy39⟩) (by assumption) ?rest39
            case hy39 => (intro w' hSw; dsimp only [List.getElem_toArray, List.getElem_cons_zero, List.getElem_cons_succ] at hSw ⊢; go_simp; try (with_reducible rfl))
            try simp only [Act.put, List.getElem_toArray, List.getElem_cons_zero, List.getElem_cons_succ, List.setIfInBounds_toArray, List.set_cons_zero, List.set_cons_succ]
            refine wpAnyH_ready (rs := [7]) (by kernel_rfl) (by simp) ?_
            refine AllReadyH.cons rfl (fun K hK => ?_) AllReadyH.nil
            dsimp only [List.getElem_toArray, List.getElem_cons_zero, List.getElem_cons_succ]
            go_simp
            refine hK.out _ _ (XB.out.c1) (fun hHeld => ?_)
            clear hK K
            try simp only [Act.put, List.getElem_toArray, List.getElem_cons_zero, List.getElem_cons_succ, List.setIfInBounds_toArray, List.set_cons_zero, List.set_cons_succ]
            refine wpAnyH_take (i := 8) (v := ?v40) rfl (by kernel_rfl) (by kernel_rfl) (by kernel_rfl) (fun _ _ _ h => h) (Or.inl ⟨by rfl, ?hy40⟩) (by assumption) ?rest40
            case hy40 => (intro w' hSw; dsimp only [List.getElem_toArray, List.getElem_cons_zero, List.getElem_cons_succ] at hSw ⊢; go_simp; try (with_reducible rfl))
            try simp only [Act.put, List.getElem_toArray, List.getElem_cons_zero, List.getElem_cons_succ, List.setIfInBounds_toArray, List.set_cons_zero, List.set_cons_succ]
            refine wpAnyH_take (i := 9) (v := undef) rfl (by kernel_rfl) (by kernel_rfl) (by kernel_rfl) (fun _ _ _ h => h) (Or.inr ⟨by rfl, rfl⟩) (by assumption) ?_
            try simp only [Act.put, List.getElem_toArray, List.getElem_cons_zero, List.getElem_cons_succ, List.setIfInBounds_toArray, List.set_cons_zero, List.set_cons_succ]
            refine wpAnyH_take (i := 10) (v := ?v41) rfl (by kernel_rfl) (by kernel_rfl) (by kernel_rfl) (fun _ _ _ h => h) (Or.inl ⟨by rfl, ?hy41⟩) (by assumption) ?rest41
            case hy41 => (intro w' hSw; dsimp only [List.getElem_toArray, List.getElem_cons_zero, List.getElem_cons_succ] at hSw ⊢; go_simp; try (with_reducible rfl))
            try simp only [Act.put, List.getElem_toArray, List.getElem_cons_zero, List.getElem_cons_succ, List.setIfInBounds_toArray, List.set_cons_zero, List.set_cons_succ]
            refine wpAnyH_take (i := 11) (v := ?v42) rfl (by kernel_rfl) (by kernel_rfl) (by kernel_rfl) (fun _ _ _ h => h) (Or.inl ⟨by rfl, ?hy42⟩) (by assumption) ?rest42
            case hy42 => (intro w' hSw; dsimp only [List.getElem_toArray, List.getElem_cons_zero, List.getElem_cons_succ] at hSw ⊢; go_simp; try (with_reducible rfl))
            try simp only [Act.put, List.getElem_toArray, List.getElem_cons_zero, List.getElem_cons_succ, List.setIfInBounds_toArray, List.set_cons_zero, List.set_cons_succ]
            refine wpAnyH_ready (rs := [12]) (by kernel_rfl) (by simp) ?_
            refine AllReadyH.cons rfl (fun K hK => ?_) AllReadyH.nil
            dsimp only [List.getElem_toArray, List.getElem_cons_zero, List.getElem_cons_succ]
            go_simp
            refine hK.out _ _ (XS.out) (fun hHeld => ?_)
            clear hK K
            try simp only [Act.put, List.getElem_toArray, List.getElem_cons_zero, List.getElem_cons_succ, List.setIfInBounds_toArray, List.set_cons_zero, List.set_cons_succ]
            refine wpAnyH_done (by kernel_rfl) ?_ _
            refine NoPanic.normal ?_
            clear hHeld
            go_wp2
            go_roundw
            case rel => exact ⟨j + 1, by omega, by go_num, ownsRow_below KK.out.1 (Below.refl _ _).drew, grownBy_drewA KS.out⟩
            case measure => simp [intOf]; omega
        · obtain rfl : j = 64 := by omega
          have X1 := (A2.out.atBox 1 rfl).kept hgr (by simp; omega)
          have z0 := X1.c1
          have y0 := X1.frozen 0
          have X2 := hide (X1.set 0 (.slice (some ⟨g2, 0, none⟩) 64 c2))
          have O9 := hide (World.ownsRow.kept hown (grown_setCell wr (w.heap.size + 1 + 1) 0 (.slice (some ⟨g2, 0, none⟩) 64 c2)) (by right; intro e; simp [Value.ownBlock] at e; omega))
          have B9 := hide ((A2.out.below.grown hgr A2.out.below.size (fun k hk => by simp only [Option.some.injEq] at hk; omega)).setCell (p := ⟨w.heap.size + 1 + 1, 0, none⟩) (by show _ ≤ w.heap.size + 1 + 1; omega) (.slice (some ⟨g2, 0, none⟩) 64 c2))
          clear hown hgr X1
          go_wp2
          refine bodyPost_ret (res_fi2 rfl _ _ (w.heap.size + 1 + 1) _ (0, 0) rfl X2.out) rfl ⟨_, rfl, ?_, B9.out⟩
          unfold OwnZ
          rw [anB_len, HL.out]
          exact ownsRow_mono O9.out (by omega)

end Go.Proofs.Ytehjfjplajimfaa

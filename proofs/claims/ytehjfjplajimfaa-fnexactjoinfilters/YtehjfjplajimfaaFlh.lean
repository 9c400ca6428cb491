/-
  Filters joined and met: the model's functions, call by call. Each contract says what it asks.
-/
import Derived.Test.YtehjfjplajimfaaFlg
namespace Go.Proofs.Ytehjfjplajimfaa
open Go.RowKit
set_option linter.unusedVariables false
set_option linter.unusedSimpArgs false
theorem grownBy_drewA {w w' : World} {row : Option Nat} (h : w.grownBy w' row) : w.grownBy w'.drew row := ⟨h.os, h.tape, h.output, h.size, h.block⟩
set_option maxRecDepth 100000 in
set_option maxHeartbeats 1600000 in
theorem sJoinFilters_calls (v v' : Value) (xs ys : List Bool) (ok : Bool) (w : World) (h : RdZ w v xs) (h' : RdZ w v' ys) (hok : ok = true ↔ (xs.length = 64 ∧ ys.length = 64)) :
    Calls Try.prog 45 #[.agg #[v], .agg #[v']] w fun e w' => ∃ v', e = .returned (.tuple #[.agg #[v'], .bool ok]) ∧ OwnZ w' w.heap.size v' (gX ok (orB xs ys 64)) ∧ Below w.heap.size w w' := by
  obtain ⟨a, c, rfl, hm⟩ := h.slv
  obtain ⟨a', c', rfl, hm'⟩ := h'.slv
  have A0 := hide (Hand.threeN w #[.slice a xs.length c] #[.slice a' ys.length c'] #[.slice none 0 0] 46 46 46)
  have R := hide h
  have R' := hide h'
  obtain ⟨gb, hgb⟩ := bol_ex (xs.length = 64)
  obtain ⟨kb, hkb⟩ := bol_ex (ys.length = 64)
  clear h h'
  cases gb with
  | false =>
    obtain rfl : ok = false := by cases ok with | false => rfl | true => exact absurd (hok.1 rfl).1 (nf hgb)
    rw [gX_false]
    have NG := hide (nf hgb)
    clear hgb hkb hok
    go_enter Try.func45, Try.ntmps45
    go_wp2_with fail
    refine (sGoodFilter_calls _ xs false _ (R.out.below A0.out.below) (bF NG.out)).mono ?_
    rintro e w1 ⟨rfl, b1⟩
    have A1 := hide (A0.out.step b1)
    clear b1 A0
    have z0 := (A1.out.atBox 0 rfl).c1
    have y0 := (A1.out.atBox 0 rfl).frozen 0
    have A9 := hide (A1.out.setBoxT 0 rfl 0 (.slice none 0 0))
    go_wp2
    exact bodyPost_ret (res_fi2 rfl _ _ (w.heap.size + 1 + 1) _ (0, 0) rfl (A9.out.atBox 0 rfl)) rfl ⟨_, rfl, World.ownsRow_nil _ _ _ _, A9.out.below⟩
  | true =>
    have HL := hide (hgb.1 rfl)
    cases kb with
    | false =>
      obtain rfl : ok = false := by cases ok with | false => rfl | true => exact absurd (hok.1 rfl).2 (nf hkb)
      rw [gX_false]
      have NK := hide (nf hkb)
      clear hgb hkb hok
      go_enter Try.func45, Try.ntmps45
      go_wp2_with fail
      refine (sGoodFilter_calls _ xs true _ (R.out.below A0.out.below) (bT HL.out)).mono ?_
      rintro e w1 ⟨rfl, b1⟩
      have A1 := hide (A0.out.step b1)
      clear b1 A0
      have c1 := (A1.out.atBox 1 rfl).c1
      go_wp2_with fail
      refine (sGoodFilter_calls _ ys false _ (R'.out.below A1.out.below) (bF NK.out)).mono ?_
      rintro e w2 ⟨rfl, b2⟩
      have A2 := hide (A1.out.step b2)
      clear b2 A1 c1
      have z0 := (A2.out.atBox 0 rfl).c1
      have y0 := (A2.out.atBox 0 rfl).frozen 0
      have A9 := hide (A2.out.setBoxT 0 rfl 0 (.slice none 0 0))
      go_wp2
      exact bodyPost_ret (res_fi2 rfl _ _ (w.heap.size + 1 + 1) _ (0, 0) rfl (A9.out.atBox 0 rfl)) rfl ⟨_, rfl, World.ownsRow_nil _ _ _ _, A9.out.below⟩
    | true =>
      obtain rfl : ok = true := hok.2 ⟨hgb.1 rfl, hkb.1 rfl⟩
      have HM := hide (hkb.1 rfl)
      rw [gX_true]
      clear hgb hkb hok
      go_enter Try.func45, Try.ntmps45
      go_wp2_with fail
      refine (sGoodFilter_calls _ xs true _ (R.out.below A0.out.below) (bT HL.out)).mono ?_
      rintro e w0 ⟨rfl, b1⟩
      have A0' := hide (A0.out.step b1)
      clear b1 A0
      have c1 := (A0'.out.atBox 1 rfl).c1
      go_wp2_with fail
      refine (sGoodFilter_calls _ ys true _ (R'.out.below A0'.out.below) (bT HM.out)).mono ?_
      rintro e w1 ⟨rfl, b2⟩
      have A1 := hide (A0'.out.step b2)
      clear b2 A0' c1
      have c0 := (A1.out.atBox 2 rfl).c1
      have c1 := (A1.out.atBox 1 rfl).c1
      go_wp2_with fail
      refine (sl13Own_calls _ xs _ (R.out.below A1.out.below) HL.out).mono ?_
      rintro e w2 ⟨v2, rfl, o2, b2⟩
      obtain ⟨g2, c2, rfl, hg2, _⟩ := o2.opn (by rw [HL.out]; omega)
      rw [HL.out]
      have o2' : w2.ownsRow w1.heap.size 4 1 (.slice (some ⟨g2, 0, none⟩) 64 c2) 64 (xs.map Value.bool) := by
        have := o2
        unfold OwnZ at this
        rwa [HL.out] at this
      have gt2 : g2 < w2.heap.size := row_top o2' g2 rfl
      have A2 := hide ((A1.out.step b2).box #[.slice (some ⟨g2, 0, none⟩) 64 c2] 46)
      have O2 := hide (ownsRow_below o2' (below_box w2 (.cells #[.slice (some ⟨g2, 0, none⟩) 64 c2] 46)))
      have lo1 : w.heap.size + 1 + 1 < w1.heap.size := (A1.out.atBox 0 rfl).lt
      have sz2 := b2.size
      clear o2 o2' b2 A1 c0 c1
      have c1 := (A2.out.atBox 2 rfl).c1
      have c9 := (A2.out.atBox 0 rfl).c1
      obtain ⟨ba, boff, bc, e0, bbl⟩ := R'.out.opn (by rw [HM.out]; omega)
      simp only [Value.slice.injEq] at e0
      obtain ⟨rfl, e0, rfl⟩ := e0
      clear e0
      have HM' : ys.length = 64 := HM.out
      rw [HM'] at c1 A2 R' ⊢
      have RY := hide (R'.out.below A2.out.below)
      clear HM'
      go_wp2
      generalize hW3 : w2.alloc (.cells #[.slice (some ⟨g2, 0, none⟩) 64 c2] 46) = w3 at *
      clear hW3
      go_loopw [23] (fun vi wr => ∃ j : Nat, j ≤ 64 ∧ vi = .int .i64 j ∧ wr.ownsRow w1.heap.size 4 1 (.slice (some ⟨g2, 0, none⟩) 64 c2) 64 ((orB xs ys j).map Value.bool) ∧ w3.grownBy wr (some g2)) (fun vi _ => 64 - (intOf vi).toNat)
      case atStart => exact ⟨0, Nat.zero_le _, rfl, by rw [orB_zero]; exact O2.out, World.grownBy.refl _ _⟩
      case round =>
        obtain ⟨j, hj, rfl, hown, hgr⟩ := hrel
        have XB := hide ((A2.out.atBox 0 rfl).kept hgr (by simp; omega))
        have X9 := XB.out.c1
        by_cases hlt : j < 64
        · have hlt' : (j : Int) < 64 := by omega
          have hcy := (rdZ_grown RY.out hgr (by simp; omega)).atv j (by rw [HM.out]; exact hlt)
          obtain ⟨b', off', e, hc2⟩ := hcy
          simp only [Option.some.injEq, Addr.mk.injEq, and_true] at e
          obtain ⟨rfl, rfl⟩ := e
          have hc3 : wr.frozen? ⟨g2, j, none⟩ = false := hown.frozenAt j
          have hc4 : wr.cell? ⟨g2, j, none⟩ = some (.bool ((orB xs ys j).getD j false)) := by
            rw [hown.cellAt j (by omega)]
            have hl := orB_len xs ys j
            rw [HL.out] at hl
            rw [List.getElem?_map, List.getElem?_eq_getElem (by omega), List.getD_eq_getElem?_getD, List.getElem?_eq_getElem (by omega)]
            rfl
          have ST : Hid ((orB xs ys j).set j ((orB xs ys j).getD j false || ys.getD j false) = orB xs ys (j + 1)) := orB_succ xs ys j (by rw [HM.out]; exact hlt) (by rw [HL.out]; exact hlt)
          have HO := hide hown
          have G := hide hgr
          clear hown hgr
          generalize (orB xs ys j).getD j false = z at hc4 ST
          generalize ys.getD j false = y at hc2 ST
          cases z with
          | true =>
            have KK := hide (HO.out.stored j (.bool (true || y)))
            rw [← List.map_set, ST.out] at KK
            have KS := hide (show w3.grownBy _ (some g2) from grown_tr G.out KK.out.2)
            have XS := hide ((XB.out.other (g' := g2) (j := j) (x := .bool (true || y)) (by omega)).c1)
            go_wp2
            refine wp_region_noPanic ?_
            refine wp_region_held_drew (S := fun w' => w'.cell? ⟨w2.heap.size, 0, none⟩ = some (.slice (some ⟨g2, 0, none⟩) 64 c2)) (by kernel_rfl) (XB.out.c1) (fun hHeld => ?_)
            refine wpAnyH_take (i := 0) (v := ?v1) rfl (by kernel_rfl) (by kernel_rfl) (by kernel_rfl) (fun _ _ _ h => h) (Or.inl ⟨by rfl, ?hy1⟩) (by assumption) ?rest1
            case hy1 => (intro w' hSw; dsimp only [List.getElem_toArray, List.getElem_cons_zero, List.getElem_cons_succ] at hSw ⊢; go_simp; try (with_reducible rfl))
            try simp only [Act.put, List.getElem_toArray, List.getElem_cons_zero, List.getElem_cons_succ, List.setIfInBounds_toArray, List.set_cons_zero, List.set_cons_succ]
            refine wpAnyH_take (i := 1) (v := ?v2) rfl (by kernel_rfl) (by kernel_rfl) (by kernel_rfl) (fun _ _ _ h => h) (Or.inl ⟨by rfl, ?hy2⟩) (by assumption) ?rest2
            case hy2 => (intro w' hSw; dsimp only [List.getElem_toArray, List.getElem_cons_zero, List.getElem_cons_succ] at hSw ⊢; go_simp; try (with_reducible rfl))
            try simp only [Act.put, List.getElem_toArray, List.getElem_cons_zero, List.getElem_cons_succ, List.setIfInBounds_toArray, List.set_cons_zero, List.set_cons_succ]
            refine wpAnyH_take (i := 2) (v := ?v3) rfl (by kernel_rfl) (by kernel_rfl) (by kernel_rfl) (fun _ _ _ h => h) (Or.inl ⟨by rfl, ?hy3⟩) (by assumption) ?rest3
            case hy3 => (intro w' hSw; dsimp only [List.getElem_toArray, List.getElem_cons_zero, List.getElem_cons_succ] at hSw ⊢; go_simp; try (with_reducible rfl))
            try simp only [Act.put, List.getElem_toArray, List.getElem_cons_zero, List.getElem_cons_succ, List.setIfInBounds_toArray, List.set_cons_zero, List.set_cons_succ]
            refine wpAnyH_take (i := 3) (v := ?v4) rfl (by kernel_rfl) (by kernel_rfl) (by kernel_rfl) (fun _ _ _ h => h) (Or.inl ⟨by rfl, ?hy4⟩) (by assumption) ?rest4
            case hy4 => (intro w' hSw; dsimp only [List.getElem_toArray, List.getElem_cons_zero, List.getElem_cons_succ] at hSw ⊢; go_simp; try (with_reducible rfl))
            try simp only [Act.put, List.getElem_toArray, List.getElem_cons_zero, List.getElem_cons_succ, List.setIfInBounds_toArray, List.set_cons_zero, List.set_cons_succ]
            refine wpAnyH_take (i := 4) (v := ?v5) rfl (by kernel_rfl) (by kernel_rfl) (by kernel_rfl) (fun _ _ _ h => h) (Or.inl ⟨by rfl, ?hy5⟩) (by assumption) ?rest5
            case hy5 => (intro w' hSw; dsimp only [List.getElem_toArray, List.getElem_cons_zero, List.getElem_cons_succ] at hSw ⊢; go_simp; try (with_reducible rfl))
            try simp only [Act.put, List.getElem_toArray, List.getElem_cons_zero, List.getElem_cons_succ, List.setIfInBounds_toArray, List.set_cons_zero, List.set_cons_succ]
            refine wpAnyH_take (i := 5) (v := ?v6) rfl (by kernel_rfl) (by kernel_rfl) (by kernel_rfl) (fun _ _ _ h => h) (Or.inl ⟨by rfl, ?hy6⟩) (by assumption) ?rest6
            case hy6 => (intro w' hSw; dsimp only [List.getElem_toArray, List.getElem_cons_zero, List.getElem_cons_succ] at hSw ⊢; go_simp; try (with_reducible rfl))
            try simp only [Act.put, List.getElem_toArray, List.getElem_cons_zero, List.getElem_cons_succ, List.setIfInBounds_toArray, List.set_cons_zero, List.set_cons_succ]
            refine wpAnyH_take (i := 6) (v := ?v7) rfl (by kernel_rfl) (by kernel_rfl) (by kernel_rfl) (fun _ _ _ h => h) (Or.inl ⟨by rfl, ?hy7⟩) (by assumption) ?rest7
            case hy7 => (intro w' hSw; dsimp only [List.getElem_toArray, List.getElem_cons_zero, List.getElem_cons_succ] at hSw ⊢; go_simp; try (with_reducible rfl))
            try simp only [Act.put, List.getElem_toArray, List.getElem_cons_zero, List.getElem_cons_succ, List.setIfInBounds_toArray, List.set_cons_zero, List.set_cons_succ]
            refine wpAnyH_ready (rs := [7]) (by kernel_rfl) (by simp) ?_
            refine AllReadyH.cons rfl (fun K hK => ?_) AllReadyH.nil
            dsimp only [List.getElem_toArray, List.getElem_cons_zero, List.getElem_cons_succ]
            go_simp
            refine hK.out _ _ (XB.out.c1) (fun hHeld => ?_)
            clear hK K
            try simp only [Act.put, List.getElem_toArray, List.getElem_cons_zero, List.getElem_cons_succ, List.setIfInBounds_toArray, List.set_cons_zero, List.set_cons_succ]
            refine wpAnyH_take (i := 8) (v := ?v8) rfl (by kernel_rfl) (by kernel_rfl) (by kernel_rfl) (fun _ _ _ h => h) (Or.inl ⟨by rfl, ?hy8⟩) (by assumption) ?rest8
            case hy8 => (intro w' hSw; dsimp only [List.getElem_toArray, List.getElem_cons_zero, List.getElem_cons_succ] at hSw ⊢; go_simp; try (with_reducible rfl))
            try simp only [Act.put, List.getElem_toArray, List.getElem_cons_zero, List.getElem_cons_succ, List.setIfInBounds_toArray, List.set_cons_zero, List.set_cons_succ]
            refine wpAnyH_take (i := 9) (v := undef) rfl (by kernel_rfl) (by kernel_rfl) (by kernel_rfl) (fun _ _ _ h => h) (Or.inr ⟨by rfl, rfl⟩) (by assumption) ?_
            try simp only [Act.put, List.getElem_toArray, List.getElem_cons_zero, List.getElem_cons_succ, List.setIfInBounds_toArray, List.set_cons_zero, List.set_cons_succ]
            refine wpAnyH_take (i := 10) (v := ?v9) rfl (by kernel_rfl) (by kernel_rfl) (by kernel_rfl) (fun _ _ _ h => h) (Or.inl ⟨by rfl, ?hy9⟩) (by assumption) ?rest9
            case hy9 => (intro w' hSw; dsimp only [List.getElem_toArray, List.getElem_cons_zero, List.getElem_cons_succ] at hSw ⊢; go_simp; try (with_reducible rfl))
            try simp only [Act.put, List.getElem_toArray, List.getElem_cons_zero, List.getElem_cons_succ, List.setIfInBounds_toArray, List.set_cons_zero, List.set_cons_succ]
            refine wpAnyH_take (i := 11) (v := ?v10) rfl (by kernel_rfl) (by kernel_rfl) (by kernel_rfl) (fun _ _ _ h => h) (Or.inl ⟨by rfl, ?hy10⟩) (by assumption) ?rest10
            case hy10 => (intro w' hSw; dsimp only [List.getElem_toArray, List.getElem_cons_zero, List.getElem_cons_succ] at hSw ⊢; go_simp; try (with_reducible rfl))
            try simp only [Act.put, List.getElem_toArray, List.getElem_cons_zero, List.getElem_cons_succ, List.setIfInBounds_toArray, List.set_cons_zero, List.set_cons_succ]
            refine wpAnyH_ready (rs := [12]) (by kernel_rfl) (by simp) ?_
            refine AllReadyH.cons rfl (fun K hK => ?_) AllReadyH.nil
            dsimp only [List.getElem_toArray, List.getElem_cons_zero, List.getElem_cons_succ]
            go_simp
            refine hK.out _ _ (XS.out) (fun hHeld => ?_)
            clear hK K
            try simp only [Act.put, List.getElem_toArray, List.getElem_cons_zero, List.getElem_cons_succ, List.setIfInBounds_toArray, List.set_cons_zero, List.set_cons_succ]
            refine wpAnyH_done (by kernel_rfl) ?_ _
            refine NoPanic.normal ?_
            clear hHeld
            go_wp2
            go_roundw
            case rel => exact ⟨j + 1, by omega, by go_num, ownsRow_below KK.out.1 (Below.refl _ _).drew, grownBy_drewA KS.out⟩
            case measure => simp [intOf]; omega
          | false =>
            have KK := hide (HO.out.stored j (.bool (false || y)))
            rw [← List.map_set, ST.out] at KK
            have KS := hide (show w3.grownBy _ (some g2) from grown_tr G.out KK.out.2)
            have XS := hide ((XB.out.other (g' := g2) (j := j) (x := .bool (false || y)) (by omega)).c1)
            go_wp2
            refine wp_region_noPanic ?_
            refine wp_region_held_drew (S := fun w' => w'.cell? ⟨w2.heap.size, 0, none⟩ = some (.slice (some ⟨g2, 0, none⟩) 64 c2)) (by kernel_rfl) (XB.out.c1) (fun hHeld => ?_)
            refine wpAnyH_take (i := 0) (v := ?v11) rfl (by kernel_rfl) (by kernel_rfl) (by kernel_rfl) (fun _ _ _ h => h) (Or.inl ⟨by rfl, ?hy11⟩) (by assumption) ?rest11
            case hy11 => (intro w' hSw; dsimp only [List.getElem_toArray, List.getElem_cons_zero, List.getElem_cons_succ] at hSw ⊢; go_simp; try (with_reducible rfl))
            try simp only [Act.put, List.getElem_toArray, List.getElem_cons_zero, List.getElem_cons_succ, List.setIfInBounds_toArray, List.set_cons_zero, List.set_cons_succ]
            refine wpAnyH_take (i := 1) (v := ?v12) rfl (by kernel_rfl) (by kernel_rfl) (by kernel_rfl) (fun _ _ _ h => h) (Or.inl ⟨by rfl, ?hy12⟩) (by assumption) ?rest12
            case hy12 => (intro w' hSw; dsimp only [List.getElem_toArray, List.getElem_cons_zero, List.getElem_cons_succ] at hSw ⊢; go_simp; try (with_reducible rfl))
            try simp only [Act.put, List.getElem_toArray, List.getElem_cons_zero, List.getElem_cons_succ, List.setIfInBounds_toArray, List.set_cons_zero, List.set_cons_succ]
            refine wpAnyH_take (i := 2) (v := ?v13) rfl (by kernel_rfl) (by kernel_rfl) (by kernel_rfl) (fun _ _ _ h => h) (Or.inl ⟨by rfl, ?hy13⟩) (by assumption) ?rest13
            case hy13 => (intro w' hSw; dsimp only [List.getElem_toArray, List.getElem_cons_zero, List.getElem_cons_succ] at hSw ⊢; go_simp; try (with_reducible rfl))
            try simp only [Act.put, List.getElem_toArray, List.getElem_cons_zero, List.getElem_cons_succ, List.setIfInBounds_toArray, List.set_cons_zero, List.set_cons_succ]
            refine wpAnyH_take (i := 3) (v := ?v14) rfl (by kernel_rfl) (by kernel_rfl) (by kernel_rfl) (fun _ _ _ h => h) (Or.inl ⟨by rfl, ?hy14⟩) (by assumption) ?rest14
            case hy14 => (intro w' hSw; dsimp only [List.getElem_toArray, List.getElem_cons_zero, List.getElem_cons_succ] at hSw ⊢; go_simp; try (with_reducible rfl))
            try simp only [Act.put, List.getElem_toArray, List.getElem_cons_zero, List.getElem_cons_succ, List.setIfInBounds_toArray, List.set_cons_zero, List.set_cons_succ]
            refine wpAnyH_take (i := 4) (v := ?v15) rfl (by kernel_rfl) (by kernel_rfl) (by kernel_rfl) (fun _ _ _ h => h) (Or.inl ⟨by rfl, ?hy15⟩) (by assumption) ?rest15
            case hy15 => (intro w' hSw; dsimp only [List.getElem_toArray, List.getElem_cons_zero, List.getElem_cons_succ] at hSw ⊢; go_simp; try (with_reducible rfl))
            try simp only [Act.put, List.getElem_toArray, List.getElem_cons_zero, List.getElem_cons_succ, List.setIfInBounds_toArray, List.set_cons_zero, List.set_cons_succ]
            refine wpAnyH_take (i := 5) (v := ?v16) rfl (by kernel_rfl) (by kernel_rfl) (by kernel_rfl) (fun _ _ _ h => h) (Or.inl ⟨by rfl, ?hy16⟩) (by assumption) ?rest16
            case hy16 => (intro w' hSw; dsimp only [List.getElem_toArray, List.getElem_cons_zero, List.getElem_cons_succ] at hSw ⊢; go_simp; try (with_reducible rfl))
            try simp only [Act.put, List.getElem_toArray, List.getElem_cons_zero, List.getElem_cons_succ, List.setIfInBounds_toArray, List.set_cons_zero, List.set_cons_succ]
            refine wpAnyH_take (i := 6) (v := ?v17) rfl (by kernel_rfl) (by kernel_rfl) (by kernel_rfl) (fun _ _ _ h => h) (Or.inl ⟨by rfl, ?hy17⟩) (by assumption) ?rest17
            case hy17 => (intro w' hSw; dsimp only [List.getElem_toArray, List.getElem_cons_zero, List.getElem_cons_succ] at hSw ⊢; go_simp; try (with_reducible rfl))
            try simp only [Act.put, List.getElem_toArray, List.getElem_cons_zero, List.getElem_cons_succ, List.setIfInBounds_toArray, List.set_cons_zero, List.set_cons_succ]
            refine wpAnyH_ready (rs := [7]) (by kernel_rfl) (by simp) ?_
            refine AllReadyH.cons rfl (fun K hK => ?_) AllReadyH.nil
            dsimp only [List.getElem_toArray, List.getElem_cons_zero, List.getElem_cons_succ]
            go_simp
            refine hK.out _ _ (XB.out.c1) (fun hHeld => ?_)
            clear hK K
            try simp only [Act.put, List.getElem_toArray, List.getElem_cons_zero, List.getElem_cons_succ, List.setIfInBounds_toArray, List.set_cons_zero, List.set_cons_succ]
            refine wpAnyH_take (i := 8) (v := ?v18) rfl (by kernel_rfl) (by kernel_rfl) (by kernel_rfl) (fun _ _ _ h => h) (Or.inl ⟨by rfl, ?hy18⟩) (by assumption) ?rest18
            case hy18 => (intro w' hSw; dsimp only [List.getElem_toArray, List.getElem_cons_zero, List.getElem_cons_succ] at hSw ⊢; go_simp; try (with_reducible rfl))
            try simp only [Act.put, List.getElem_toArray, List.getElem_cons_zero, List.getElem_cons_succ, List.setIfInBounds_toArray, List.set_cons_zero, List.set_cons_succ]
            refine wpAnyH_take (i := 9) (v := ?v19) rfl (by kernel_rfl) (by kernel_rfl) (by kernel_rfl) (fun _ _ _ h => h) (Or.inl ⟨by rfl, ?hy19⟩) (by assumption) ?rest19
            case hy19 => (intro w' hSw; dsimp only [List.getElem_toArray, List.getElem_cons_zero, List.getElem_cons_succ] at hSw ⊢; go_simp; try (with_reducible rfl))
            try simp only [Act.put, List.getElem_toArray, List.getElem_cons_zero, List.getElem_cons_succ, List.setIfInBounds_toArray, List.set_cons_zero, List.set_cons_succ]
            refine wpAnyH_take (i := 10) (v := ?v20) rfl (by kernel_rfl) (by kernel_rfl) (by kernel_rfl) (fun _ _ _ h => h) (Or.inl ⟨by rfl, ?hy20⟩) (by assumption) ?rest20
            case hy20 => (intro w' hSw; dsimp only [List.getElem_toArray, List.getElem_cons_zero, List.getElem_cons_succ] at hSw ⊢; go_simp; try (with_reducible rfl))
            try simp only [Act.put, List.getElem_toArray, List.getElem_cons_zero, List.getElem_cons_succ, List.setIfInBounds_toArray, List.set_cons_zero, List.set_cons_succ]
            refine wpAnyH_take (i := 11) (v := ?v21) rfl (by kernel_rfl) (by kernel_rfl) (by kernel_rfl) (fun _ _ _ h => h) (Or.inl ⟨by rfl, ?hy21⟩) (by assumption) ?rest21
            case hy21 => (intro w' hSw; dsimp only [List.getElem_toArray, List.getElem_cons_zero, List.getElem_cons_succ] at hSw ⊢; go_simp; try (with_reducible rfl))
            try simp only [Act.put, List.getElem_toArray, List.getElem_cons_zero, List.getElem_cons_succ, List.setIfInBounds_toArray, List.set_cons_zero, List.set_cons_succ]
            refine wpAnyH_ready (rs := [12]) (by kernel_rfl) (by simp) ?_
            refine AllReadyH.cons rfl (fun K hK => ?_) AllReadyH.nil
            dsimp only [List.getElem_toArray, List.getElem_cons_zero, List.getElem_cons_succ]
            go_simp
            refine hK.out _ _ (XS.out) (fun hHeld => ?_)
            clear hK K
            try simp only [Act.put, List.getElem_toArray, List.getElem_cons_zero, List.getElem_cons_succ, List.setIfInBounds_toArray, List.set_cons_zero, List.set_cons_succ]
            refine wpAnyH_done (by kernel_rfl) ?_ _
            refine NoPanic.normal ?_
            clear hHeld
            go_wp2
            go_roundw
            case rel => exact ⟨j + 1, by omega, by go_num, ownsRow_below KK.out.1 (Below.refl _ _).drew, grownBy_drewA KS.out⟩
            case measure => simp [intOf]; omega
        · obtain rfl : j = 64 := by omega
          have X1 := (A2.out.atBox 1 rfl).kept hgr (by simp; omega)
          have z0 := X1.c1
          have y0 := X1.frozen 0
          have X2 := hide (X1.set 0 (.slice (some ⟨g2, 0, none⟩) 64 c2))
          have O9 := hide (World.ownsRow.kept hown (grown_setCell wr (w.heap.size + 1 + 1) 0 (.slice (some ⟨g2, 0, none⟩) 64 c2)) (by right; intro e; simp [Value.ownBlock] at e; omega))
          have B9 := hide ((A2.out.below.grown hgr A2.out.below.size (fun k hk => by simp only [Option.some.injEq] at hk; omega)).setCell (p := ⟨w.heap.size + 1 + 1, 0, none⟩) (by show _ ≤ w.heap.size + 1 + 1; omega) (.slice (some ⟨g2, 0, none⟩) 64 c2))
          clear hown hgr X1
          go_wp2
          refine bodyPost_ret (res_fi2 rfl _ _ (w.heap.size + 1 + 1) _ (0, 0) rfl X2.out) rfl ⟨_, rfl, ?_, B9.out⟩
          unfold OwnZ
          rw [orB_len, HL.out]
          exact ownsRow_mono O9.out (by omega)

end Go.Proofs.Ytehjfjplajimfaa

/-
  Whether a filter may have a key: the program's function, call by call. Each contract says what it asks.
-/
import Derived.Test.YtehjfjplajimfaaFlf
namespace Go.Proofs.Ytehjfjplajimfaa
open Go.RowKit
set_option linter.unusedVariables false
set_option linter.unusedSimpArgs false
set_option maxRecDepth 100000 in
set_option maxHeartbeats 1600000 in
theorem mayHave_calls (v : Value) (xs : List Bool) (k : Int) (ok : Bool) (r : Bool) (w : World) (h : RdZ w v xs) (hok : ok = true ↔ (xs.length = 64 ∧ kOk k)) (hr : r = (ok && hasB (bK k) xs)) :
    Calls Try.prog 44 #[.agg #[v], .int .i64 k] w fun e w' => e = .returned (.tuple #[.bool r, .bool ok]) ∧ Below w.heap.size w w' := by
  obtain ⟨a, c, rfl, hm⟩ := h.slv
  have A0 := hide ((Hand.start w).box #[.slice a xs.length c] 46)
  have R := hide h
  obtain ⟨gb, hgb⟩ := bol_ex (xs.length = 64)
  obtain ⟨kb, hkb⟩ := bol_ex (kOk k)
  clear h
  cases gb with
  | false =>
    obtain rfl : ok = false := by cases ok with | false => rfl | true => exact absurd (hok.1 rfl).1 (nf hgb)
    simp only [Bool.false_and] at hr
    subst hr
    have NG := hide (nf hgb)
    clear hgb hkb hok
    go_enter Try.func44, Try.ntmps44
    go_wp2_with fail
    refine (goodFilter_calls _ xs false _ (R.out.below A0.out.below) (bF NG.out)).mono ?_
    rintro e w1 ⟨rfl, b1⟩
    have A1 := hide (A0.out.step b1)
    clear b1 A0
    go_wp2
    go_ret2
    exact ⟨rfl, A1.out.below⟩
  | true =>
    have HL := hide (hgb.1 rfl)
    cases kb with
    | false =>
      obtain rfl : ok = false := by cases ok with | false => rfl | true => exact absurd (hok.1 rfl).2 (nf hkb)
      simp only [Bool.false_and] at hr
      subst hr
      have NK := hide (nf hkb)
      clear hgb hkb hok
      go_enter Try.func44, Try.ntmps44
      go_wp2_with fail
      refine (goodFilter_calls _ xs true _ (R.out.below A0.out.below) (bT HL.out)).mono ?_
      rintro e w1 ⟨rfl, b1⟩
      have A1 := hide (A0.out.step b1)
      clear b1 A0
      go_wp2_with fail
      refine (isTableKey_calls _ false _ (bF NK.out)).mono ?_
      rintro e w1 ⟨rfl, rfl⟩
      go_wp2
      go_ret2
      exact ⟨rfl, A1.out.below⟩
    | true =>
      obtain rfl : ok = true := hok.2 ⟨hgb.1 rfl, hkb.1 rfl⟩
      have HK := hide (hkb.1 rfl)
      simp only [Bool.true_and] at hr
      have HR := hide hr
      clear hr
      clear hgb hkb hok
      go_enter Try.func44, Try.ntmps44
      go_wp2_with fail
      refine (goodFilter_calls _ xs true _ (R.out.below A0.out.below) (bT HL.out)).mono ?_
      rintro e w1 ⟨rfl, b1⟩
      have A1 := hide (A0.out.step b1)
      clear b1 A0
      go_wp2_with fail
      refine (isTableKey_calls _ true _ (bT HK.out)).mono ?_
      rintro e w1 ⟨rfl, rfl⟩
      have X0 := hide (A1.out.atBox 0 rfl)
      have c0 := X0.out.c1
      have R1 := hide (R.out.below A1.out.below)
      have F : Hid (∀ w', Below w1.heap.size w1 w' → w'.cell? ⟨w.heap.size, 0, none⟩ = some (.slice a xs.length c)) := fun w' hb => (X0.out.below hb).c1
      go_wp2
      refine wp_region_noPanic ?_
      refine wp_region_held_drew (S := fun w' => w'.cell? ⟨w.heap.size, 0, none⟩ = some (.slice a xs.length c)) (by kernel_rfl) (F.out _ (Below.refl _ _).drew) (fun hHeld => ?_)
      refine wpAnyH_take (i := 0) (v := ?v43) rfl (by kernel_rfl) (by kernel_rfl) (by kernel_rfl) (fun _ _ _ h => h) (Or.inl ⟨by rfl, ?hy43⟩) (by assumption) ?rest43
      case hy43 => (intro w' hSw; dsimp only [List.getElem_toArray, List.getElem_cons_zero, List.getElem_cons_succ] at hSw ⊢; go_simp; try (with_reducible rfl))
      try simp only [Act.put, List.getElem_toArray, List.getElem_cons_zero, List.getElem_cons_succ, List.setIfInBounds_toArray, List.set_cons_zero, List.set_cons_succ]
      refine wpAnyH_take (i := 2) (v := ?v44) rfl (by kernel_rfl) (by kernel_rfl) (by kernel_rfl) (fun _ _ _ h => h) (Or.inl ⟨by rfl, ?hy44⟩) (by assumption) ?rest44
      case hy44 => (intro w' hSw; dsimp only [List.getElem_toArray, List.getElem_cons_zero, List.getElem_cons_succ] at hSw ⊢; go_simp; try (with_reducible rfl))
      try simp only [Act.put, List.getElem_toArray, List.getElem_cons_zero, List.getElem_cons_succ, List.setIfInBounds_toArray, List.set_cons_zero, List.set_cons_succ]
      refine wpAnyH_ready (rs := [1]) (by kernel_rfl) (by simp) ?_
      refine AllReadyH.cons rfl (fun K hK => ?_) AllReadyH.nil
      dsimp only [List.getElem_toArray, List.getElem_cons_zero, List.getElem_cons_succ]
      go_simp
      refine (keyBits_calls k _ HK.out).mono ?_
      rintro e' u1 ⟨kv, rfl, ko, kb⟩
      have B1 := hide ((Below.refl w1.heap.size w1).drew.trans kb)
      have KR0 := hide (OwnZ.rd ko)
      clear ko kb
      refine hK.out _ _ (F.out _ B1.out) (fun hHeld => ?_)
      clear hK K
      try simp only [Act.put, List.getElem_toArray, List.getElem_cons_zero, List.getElem_cons_succ, List.setIfInBounds_toArray, List.set_cons_zero, List.set_cons_succ]
      refine wpAnyH_ready (rs := [3]) (by kernel_rfl) (by simp) ?_
      refine AllReadyH.cons rfl (fun K hK => ?_) AllReadyH.nil
      dsimp only [List.getElem_toArray, List.getElem_cons_zero, List.getElem_cons_succ]
      go_simp
      refine (bitsIn_calls _ xs _ (R1.out.below B1.out) (by rw [HL.out]; omega) (by rw [HL.out]; omega)).mono ?_
      rintro e' u2 ⟨bv, rfl, bo, bb⟩
      have B2 := hide (B1.out.trans (bb.mono B1.out.size))
      have KR := hide (KR0.out.below bb)
      have BR := hide (OwnZ.rd bo)
      clear bo bb
      refine hK.out _ _ (F.out _ B2.out) (fun hHeld => ?_)
      clear hK K
      try simp only [Act.put, List.getElem_toArray, List.getElem_cons_zero, List.getElem_cons_succ, List.setIfInBounds_toArray, List.set_cons_zero, List.set_cons_succ]
      refine wpAnyH_ready (rs := [4]) (by kernel_rfl) (by simp) ?_
      refine AllReadyH.cons rfl (fun K hK => ?_) AllReadyH.nil
      dsimp only [List.getElem_toArray, List.getElem_cons_zero, List.getElem_cons_succ]
      go_simp
      refine (isWithin_calls _ _ (kB k 3) xs _ KR.out BR.out (kB_len k 3) HL.out).mono ?_
      rintro e' u3 ⟨rfl, b3⟩
      have B3 := hide (B2.out.trans (b3.mono B2.out.size))
      clear b3
      refine hK.out _ _ (F.out _ B3.out) (fun hHeld => ?_)
      clear hK K
      try simp only [Act.put, List.getElem_toArray, List.getElem_cons_zero, List.getElem_cons_succ, List.setIfInBounds_toArray, List.set_cons_zero, List.set_cons_succ]
      refine wpAnyH_take (i := 5) (v := ?v45) rfl (by kernel_rfl) (by kernel_rfl) (by kernel_rfl) (fun _ _ _ h => h) (Or.inl ⟨by rfl, ?hy45⟩) (by assumption) ?rest45
      case hy45 => (intro w' hSw; dsimp only [List.getElem_toArray, List.getElem_cons_zero, List.getElem_cons_succ] at hSw ⊢; go_simp; try (with_reducible rfl))
      try simp only [Act.put, List.getElem_toArray, List.getElem_cons_zero, List.getElem_cons_succ, List.setIfInBounds_toArray, List.set_cons_zero, List.set_cons_succ]
      refine wpAnyH_take (i := 6) (v := ?v46) rfl (by kernel_rfl) (by kernel_rfl) (by kernel_rfl) (fun _ _ _ h => h) (Or.inl ⟨by rfl, ?hy46⟩) (by assumption) ?rest46
      case hy46 => (intro w' hSw; dsimp only [List.getElem_toArray, List.getElem_cons_zero, List.getElem_cons_succ] at hSw ⊢; go_simp; try (with_reducible rfl))
      try simp only [Act.put, List.getElem_toArray, List.getElem_cons_zero, List.getElem_cons_succ, List.setIfInBounds_toArray, List.set_cons_zero, List.set_cons_succ]
      refine wpAnyH_done (by kernel_rfl) ?_ _
      refine NoPanic.normal ?_
      have A3 := hide (A1.out.step B3.out)
      clear hHeld
      have HR1 := HR.out
      rw [show hasB (selF 0 (kB k 3)) xs = r from HR1.symm]
      clear HR1
      go_wp2
      go_ret2
      exact ⟨rfl, A3.out.below⟩

end Go.Proofs.Ytehjfjplajimfaa

/-
  A step done on a disk of the call's own, kind by kind: the program's doStep, call by call. Each contract says what it asks.
-/
import Derived.Test.YtpgmocogffolaaaRotInB12
namespace Go.Proofs.Ytpgmocogffolaaa
open Go.RowKit
set_option linter.unusedVariables false

theorem hpl_sorted (H : List ByteArray) : ∀ k, (∀ i, i < (hpl H k).length → 0 ≤ (hpl H k).getD i 0 ∧ (hpl H k).getD i 0 < (k : Int) ∧ (i = 0 ∨ (hpl H k).getD (i - 1) 0 < (hpl H k).getD i 0)) ∧ ∀ i, i < (hpl H k).length → 0 < (H.getD ((hpl H k).getD i 0).toNat ⟨#[]⟩).size
  | 0 => by simp [hpl]
  | k + 1 => by
    obtain ⟨h1, h2⟩ := hpl_sorted H k
    by_cases hz : 0 < (H.getD k ⟨#[]⟩).size
    · rw [hpl_yes H k hz]
      have at1 : ∀ i, i < (hpl H k).length → (hpl H k ++ [(k : Int)]).getD i 0 = (hpl H k).getD i 0 := fun i hi => by
        rw [List.getD_eq_getElem?_getD, List.getElem?_append_left hi, ← List.getD_eq_getElem?_getD]
      have at2 : (hpl H k ++ [(k : Int)]).getD (hpl H k).length 0 = (k : Int) := by
        rw [List.getD_eq_getElem?_getD, List.getElem?_append_right (Nat.le_refl _), Nat.sub_self]
        rfl
      refine ⟨fun i hi => ?_, fun i hi => ?_⟩
      · rw [List.length_append, List.length_singleton] at hi
        by_cases e : i = (hpl H k).length
        · subst e
          rw [at2]
          refine ⟨by omega, by omega, ?_⟩
          by_cases e0 : (hpl H k).length = 0
          · exact .inl e0
          · right
            rw [at1 _ (by omega)]
            exact (h1 ((hpl H k).length - 1) (by omega)).2.1
        · obtain ⟨a1, a2, a3⟩ := h1 i (by omega)
          rw [at1 i (by omega)]
          refine ⟨a1, by omega, ?_⟩
          rcases a3 with a3 | a3
          · exact .inl a3
          · right
            rw [at1 _ (by omega)]
            exact a3
      · rw [List.length_append, List.length_singleton] at hi
        by_cases e : i = (hpl H k).length
        · subst e
          rw [at2, Int.toNat_natCast]
          exact hz
        · rw [at1 i (by omega)]
          exact h2 i (by omega)
    · rw [hpl_no H k hz]
      refine ⟨fun i hi => ?_, h2⟩
      obtain ⟨a1, a2, a3⟩ := h1 i hi
      exact ⟨a1, by omega, a3⟩
theorem hpl_ok (H : List ByteArray) : kpOk H (hpl H H.length) := hpl_sorted H H.length

set_option linter.unusedSimpArgs false in
set_option maxRecDepth 100000 in
set_option maxHeartbeats 1600000 in
theorem doStep_sync (p h b vk : Value) (P H : List ByteArray) (B : List Bool) (ks : List Int) (lo hi n : Nat)  (w : World) (d : DskV w lo hi p h b P H B) (hhi : hi ≤ w.heap.size) (hP : P.length = n) (hH : H.length = n) (hB : B.length = n) (hn : 0 < n ∧ n ≤ 24) (kv : ∀ w', Chg lo hi w w' → Rd w' vk ks)  :
    Calls Try.prog 100 #[.agg #[p, h, b], .agg #[.int .i64 2, .int .i64 0, .string ⟨#[]⟩, vk]] w fun e w' => e = .returned (.bool true) ∧ (true = true → DskV w' lo hi p h b (crP P H (hpl H n)) (crH H) B) ∧ Chg lo hi w w' := by
  obtain ⟨gp, cp, gh, ch, gb, cb, rfl, rfl, rfl, n1, n2, n3, ⟨t1, t2, t3⟩, _⟩ := d.blocks hP hH hB hn.1
  have KV := hide kv
  obtain ⟨av, cv, ev, _, _⟩ := (kv w (Chg.refl _ _ _)).sl
  subst ev
  obtain ⟨W0, e0⟩ : ∃ W0, W0 = (w.alloc (.cells #[.slice (some ⟨gp, 0, none⟩) n cp, .slice (some ⟨gh, 0, none⟩) n ch, .slice (some ⟨gb, 0, none⟩) n cb] 30)).alloc (.cells #[.int .i64 2, .int .i64 0, .string ⟨#[]⟩, .slice av ks.length cv] 118) := ⟨_, rfl⟩
  have b0 : Below w.heap.size w W0 := by rw [e0]; exact (below_box w _).trans ((below_box _ _).mono (by simp))
  have x0 : BoxAt W0 w.heap.size #[.slice (some ⟨gp, 0, none⟩) n cp, .slice (some ⟨gh, 0, none⟩) n ch, .slice (some ⟨gb, 0, none⟩) n cb] 30 := by rw [e0]; exact (BoxAt.new w _ _).below (below_box _ _)
  have y0 : BoxAt W0 (w.heap.size + 1) #[.int .i64 2, .int .i64 0, .string ⟨#[]⟩, .slice av ks.length cv] 118 := by
    rw [e0]
    have := BoxAt.new (w.alloc (.cells #[.slice (some ⟨gp, 0, none⟩) n cp, .slice (some ⟨gh, 0, none⟩) n ch, .slice (some ⟨gb, 0, none⟩) n cb] 30)) #[.int .i64 2, .int .i64 0, .string ⟨#[]⟩, .slice av ks.length cv] 118
    simpa only [World.size_alloc] using this
  have s0 : w.heap.size + 1 < W0.heap.size := y0.lt
  have E0 := hide e0.symm
  have C0 := hide (Chg.ofBelow (lo := lo) (hi := hi) b0)
  have X0 := hide x0
  have Y0 := hide y0
  have D0 := hide (d.below b0)
  have LP := hide hP
  have LH := hide hH
  have LB := hide hB
  have KV0 : Hid (∀ w', Chg lo hi W0 w' → Rd w' (.slice av ks.length cv) ks) := fun w' hc => KV.out _ (C0.out.trans hc)
  clear kv d b0 x0 y0 e0 hP hH hB
  go_enter Try.func100, Try.ntmps100
  go_wp2
  rw [E0.out]
  refine wp_region_noPanic ?_
  refine wp_region_held_drew (S := fun w' => w'.cell? ⟨w.heap.size, 0, none⟩ = some (.slice (some ⟨gp, 0, none⟩) n cp) ∧ w'.cell? ⟨w.heap.size, 1, none⟩ = some (.slice (some ⟨gh, 0, none⟩) n ch) ∧ w'.cell? ⟨w.heap.size, 2, none⟩ = some (.slice (some ⟨gb, 0, none⟩) n cb)) (by kernel_rfl) ((X0.out.below (Below.refl _ _).drew).c3) (fun hHeld => ?_)
  have DV := hide (D0.out.below (Below.refl _ _).drew)
  have XV := hide (X0.out.below (Below.refl _ _).drew)
  have CV : Hid (Chg lo hi w W0.drew) := C0.out.trans (Chg.ofBelow (Below.refl _ _).drew)
  have sV : w.heap.size + 1 < W0.drew.heap.size := s0
  clear D0 X0 Y0 C0 E0 s0 KV0
  generalize W0.drew = V0 at *
  refine wpAnyH_take (i := 0) (v := ?v1) rfl (by kernel_rfl) (by kernel_rfl) (by kernel_rfl) (fun _ _ _ h => h) (Or.inl ⟨by rfl, ?hy1⟩) (by assumption) ?rest1
  case hy1 => (intro w' hSw; dsimp only [List.getElem_toArray, List.getElem_cons_zero, List.getElem_cons_succ] at hSw ⊢; go_simp; try (with_reducible rfl))
  try simp only [Act.put, List.getElem_toArray, List.getElem_cons_zero, List.getElem_cons_succ, List.setIfInBounds_toArray, List.set_cons_zero, List.set_cons_succ]
  refine wpAnyH_take (i := 1) (v := ?v2) rfl (by kernel_rfl) (by kernel_rfl) (by kernel_rfl) (fun _ _ _ h => h) (Or.inl ⟨by rfl, ?hy2⟩) (by assumption) ?rest2
  case hy2 => (intro w' hSw; dsimp only [List.getElem_toArray, List.getElem_cons_zero, List.getElem_cons_succ] at hSw ⊢; go_simp; try (with_reducible rfl))
  try simp only [Act.put, List.getElem_toArray, List.getElem_cons_zero, List.getElem_cons_succ, List.setIfInBounds_toArray, List.set_cons_zero, List.set_cons_succ]
  refine wpAnyH_ready (rs := [2]) (by kernel_rfl) (by simp) ?_
  refine AllReadyH.cons rfl (fun K hK => ?_) AllReadyH.nil
  dsimp only [List.getElem_toArray, List.getElem_cons_zero, List.getElem_cons_succ]
  go_simp
  refine (heldPlaces_calls _ _ _ H _ DV.out.rh (by rw [LH.out]; exact hn.2)).mono ?_
  rintro e' u1 ⟨v1, rfl, o1, bb⟩
  obtain ⟨a1, c1, rfl⟩ := row_slice o1
  have hl := hpl_len H H.length
  have hl2 := LH.out
  have s1 := bb.size
  have O1 := hide o1
  have D1 := hide (DV.out.below bb)
  have X1 := hide (XV.out.below bb)
  have C1 := hide (CV.out.trans (Chg.ofBelow bb))
  have hl3 : (hpl H H.length).length ≤ 24 := by omega
  clear bb hHeld o1 DV XV CV hl hl2
  refine hK.out _ _ (X1.out.c3) (fun hHeld => ?_)
  clear hK K
  try simp only [Act.put, List.getElem_toArray, List.getElem_cons_zero, List.getElem_cons_succ, List.setIfInBounds_toArray, List.set_cons_zero, List.set_cons_succ]
  refine wpAnyH_ready (rs := [3]) (by kernel_rfl) (by simp) ?_
  refine AllReadyH.cons rfl (fun K hK => ?_) AllReadyH.nil
  dsimp only [List.getElem_toArray, List.getElem_cons_zero, List.getElem_cons_succ]
  go_simp
  have hK1 := hpl_ok H
  refine (crashTo_calls _ _ _ _ P H B (hpl H H.length) lo hi n true _ D1.out (by omega) LP.out LH.out LB.out hn (by omega) (fun w' hc => Own.rd (ownsRow_chg O1.out (row_top O1.out) hc (.inr (by omega)))) ⟨fun _ => hK1, fun _ => rfl⟩).mono ?_
  rintro e' u2 ⟨rfl, d2, c2⟩
  have dd := d2 rfl
  rw [show hpl H H.length = hpl H n from by rw [LH.out]] at dd
  have D2 := hide dd
  have X2 := hide (X1.out.chg c2 (.inr hhi))
  have C2 := hide (C1.out.trans c2)
  clear d2 dd c2 hHeld D1 X1 C1 hK1
  refine hK.out _ _ (X2.out.c3) (fun hHeld => ?_)
  clear hK K
  try simp only [Act.put, List.getElem_toArray, List.getElem_cons_zero, List.getElem_cons_succ, List.setIfInBounds_toArray, List.set_cons_zero, List.set_cons_succ]
  refine wpAnyH_ready (rs := [4]) (by kernel_rfl) (by simp) ?_
  refine AllReadyH.cons rfl (fun K hK => ?_) AllReadyH.nil
  dsimp only [List.getElem_toArray, List.getElem_cons_zero, List.getElem_cons_succ]
  go_simp
  refine hK.out _ _ (X2.out.c3) (fun hHeld => ?_)
  clear hK K
  try simp only [Act.put, List.getElem_toArray, List.getElem_cons_zero, List.getElem_cons_succ, List.setIfInBounds_toArray, List.set_cons_zero, List.set_cons_succ]
  refine wpAnyH_done (by kernel_rfl) ?_ _
  refine NoPanic.normal ?_
  go_wp2
  go_ret
  exact ⟨rfl, fun _ => D2.out, C2.out⟩

set_option linter.unusedSimpArgs false in
set_option maxRecDepth 100000 in
set_option maxHeartbeats 1600000 in
theorem doStep_crash (p h b vk : Value) (P H : List ByteArray) (B : List Bool) (ks : List Int) (lo hi n : Nat) (g : Bool) (w : World) (d : DskV w lo hi p h b P H B) (hhi : hi ≤ w.heap.size) (hP : P.length = n) (hH : H.length = n) (hB : B.length = n) (hn : 0 < n ∧ n ≤ 24) (kv : ∀ w', Chg lo hi w w' → Rd w' vk ks) (hg : g = true ↔ kpOk H ks) (hkl : ks.length ≤ 1048576) :
    Calls Try.prog 100 #[.agg #[p, h, b], .agg #[.int .i64 3, .int .i64 0, .string ⟨#[]⟩, vk]] w fun e w' => e = .returned (.bool g) ∧ (g = true → DskV w' lo hi p h b (crP P H ks) (crH H) B) ∧ Chg lo hi w w' := by
  obtain ⟨gp, cp, gh, ch, gb, cb, rfl, rfl, rfl, n1, n2, n3, ⟨t1, t2, t3⟩, _⟩ := d.blocks hP hH hB hn.1
  have KV := hide kv
  obtain ⟨av, cv, ev, _, _⟩ := (kv w (Chg.refl _ _ _)).sl
  subst ev
  obtain ⟨W0, e0⟩ : ∃ W0, W0 = (w.alloc (.cells #[.slice (some ⟨gp, 0, none⟩) n cp, .slice (some ⟨gh, 0, none⟩) n ch, .slice (some ⟨gb, 0, none⟩) n cb] 30)).alloc (.cells #[.int .i64 3, .int .i64 0, .string ⟨#[]⟩, .slice av ks.length cv] 118) := ⟨_, rfl⟩
  have b0 : Below w.heap.size w W0 := by rw [e0]; exact (below_box w _).trans ((below_box _ _).mono (by simp))
  have x0 : BoxAt W0 w.heap.size #[.slice (some ⟨gp, 0, none⟩) n cp, .slice (some ⟨gh, 0, none⟩) n ch, .slice (some ⟨gb, 0, none⟩) n cb] 30 := by rw [e0]; exact (BoxAt.new w _ _).below (below_box _ _)
  have y0 : BoxAt W0 (w.heap.size + 1) #[.int .i64 3, .int .i64 0, .string ⟨#[]⟩, .slice av ks.length cv] 118 := by
    rw [e0]
    have := BoxAt.new (w.alloc (.cells #[.slice (some ⟨gp, 0, none⟩) n cp, .slice (some ⟨gh, 0, none⟩) n ch, .slice (some ⟨gb, 0, none⟩) n cb] 30)) #[.int .i64 3, .int .i64 0, .string ⟨#[]⟩, .slice av ks.length cv] 118
    simpa only [World.size_alloc] using this
  have s0 : w.heap.size + 1 < W0.heap.size := y0.lt
  have E0 := hide e0.symm
  have C0 := hide (Chg.ofBelow (lo := lo) (hi := hi) b0)
  have X0 := hide x0
  have Y0 := hide y0
  have D0 := hide (d.below b0)
  have LP := hide hP
  have LH := hide hH
  have LB := hide hB
  have KV0 : Hid (∀ w', Chg lo hi W0 w' → Rd w' (.slice av ks.length cv) ks) := fun w' hc => KV.out _ (C0.out.trans hc)
  clear kv d b0 x0 y0 e0 hP hH hB
  have HG := hide hg
  clear hg
  go_enter Try.func100, Try.ntmps100
  go_wp2_with fail
  rw [E0.out]
  refine (crashTo_calls _ _ _ _ P H B ks lo hi n g _ D0.out (by omega) LP.out LH.out LB.out hn hkl KV0.out HG.out).mono ?_
  rintro e u2 ⟨rfl, d2, c2⟩
  have D2 := hide d2
  have C2 := hide (C0.out.trans c2)
  clear d2 c2
  go_wp2
  go_ret
  exact ⟨rfl, D2.out, C2.out⟩

set_option linter.unusedSimpArgs false in
set_option maxRecDepth 100000 in
set_option maxHeartbeats 1600000 in
theorem doStep_out1 (p h b vk : Value) (P H : List ByteArray) (B : List Bool) (ks : List Int) (lo hi n : Nat) (A : Int) (T : ByteArray) (w : World) (d : DskV w lo hi p h b P H B) (hhi : hi ≤ w.heap.size) (hP : P.length = n) (hH : H.length = n) (hB : B.length = n) (hn : 0 < n ∧ n ≤ 24) (kv : ∀ w', Chg lo hi w w' → Rd w' vk ks) (hA : ¬ (0 ≤ A ∧ A < (n : Int))) :
    Calls Try.prog 100 #[.agg #[p, h, b], .agg #[.int .i64 1, .int .i64 A, .string T, vk]] w fun e w' => e = .returned (.bool false) ∧ (false = true → DskV w' lo hi p h b P H B) ∧ Chg lo hi w w' := by
  obtain ⟨gp, cp, gh, ch, gb, cb, rfl, rfl, rfl, n1, n2, n3, ⟨t1, t2, t3⟩, _⟩ := d.blocks hP hH hB hn.1
  have KV := hide kv
  obtain ⟨av, cv, ev, _, _⟩ := (kv w (Chg.refl _ _ _)).sl
  subst ev
  obtain ⟨W0, e0⟩ : ∃ W0, W0 = (w.alloc (.cells #[.slice (some ⟨gp, 0, none⟩) n cp, .slice (some ⟨gh, 0, none⟩) n ch, .slice (some ⟨gb, 0, none⟩) n cb] 30)).alloc (.cells #[.int .i64 1, .int .i64 A, .string T, .slice av ks.length cv] 118) := ⟨_, rfl⟩
  have b0 : Below w.heap.size w W0 := by rw [e0]; exact (below_box w _).trans ((below_box _ _).mono (by simp))
  have x0 : BoxAt W0 w.heap.size #[.slice (some ⟨gp, 0, none⟩) n cp, .slice (some ⟨gh, 0, none⟩) n ch, .slice (some ⟨gb, 0, none⟩) n cb] 30 := by rw [e0]; exact (BoxAt.new w _ _).below (below_box _ _)
  have y0 : BoxAt W0 (w.heap.size + 1) #[.int .i64 1, .int .i64 A, .string T, .slice av ks.length cv] 118 := by
    rw [e0]
    have := BoxAt.new (w.alloc (.cells #[.slice (some ⟨gp, 0, none⟩) n cp, .slice (some ⟨gh, 0, none⟩) n ch, .slice (some ⟨gb, 0, none⟩) n cb] 30)) #[.int .i64 1, .int .i64 A, .string T, .slice av ks.length cv] 118
    simpa only [World.size_alloc] using this
  have s0 : w.heap.size + 1 < W0.heap.size := y0.lt
  have E0 := hide e0.symm
  have C0 := hide (Chg.ofBelow (lo := lo) (hi := hi) b0)
  have X0 := hide x0
  have Y0 := hide y0
  have D0 := hide (d.below b0)
  have LP := hide hP
  have LH := hide hH
  have LB := hide hB
  have KV0 : Hid (∀ w', Chg lo hi W0 w' → Rd w' (.slice av ks.length cv) ks) := fun w' hc => KV.out _ (C0.out.trans hc)
  clear kv d b0 x0 y0 e0 hP hH hB
  go_enter Try.func100, Try.ntmps100
  go_wp2_with fail
  rw [E0.out]
  refine (hasSector_no _ _ _ _ _ _ _ hA (by omega)).mono ?_
  rintro e u2 ⟨rfl, q⟩
  have C2 := hide (C0.out.trans (Chg.ofBelow q))
  clear q
  go_wp2
  go_ret
  exact ⟨rfl, fun h => by simp at h, C2.out⟩

set_option linter.unusedSimpArgs false in
set_option maxRecDepth 100000 in
set_option maxHeartbeats 1600000 in
theorem doStep_out4 (p h b vk : Value) (P H : List ByteArray) (B : List Bool) (ks : List Int) (lo hi n : Nat) (A : Int) (T : ByteArray) (w : World) (d : DskV w lo hi p h b P H B) (hhi : hi ≤ w.heap.size) (hP : P.length = n) (hH : H.length = n) (hB : B.length = n) (hn : 0 < n ∧ n ≤ 24) (kv : ∀ w', Chg lo hi w w' → Rd w' vk ks) (hA : ¬ (0 ≤ A ∧ A < (n : Int))) :
    Calls Try.prog 100 #[.agg #[p, h, b], .agg #[.int .i64 4, .int .i64 A, .string T, vk]] w fun e w' => e = .returned (.bool false) ∧ (false = true → DskV w' lo hi p h b P H B) ∧ Chg lo hi w w' := by
  obtain ⟨gp, cp, gh, ch, gb, cb, rfl, rfl, rfl, n1, n2, n3, ⟨t1, t2, t3⟩, _⟩ := d.blocks hP hH hB hn.1
  have KV := hide kv
  obtain ⟨av, cv, ev, _, _⟩ := (kv w (Chg.refl _ _ _)).sl
  subst ev
  obtain ⟨W0, e0⟩ : ∃ W0, W0 = (w.alloc (.cells #[.slice (some ⟨gp, 0, none⟩) n cp, .slice (some ⟨gh, 0, none⟩) n ch, .slice (some ⟨gb, 0, none⟩) n cb] 30)).alloc (.cells #[.int .i64 4, .int .i64 A, .string T, .slice av ks.length cv] 118) := ⟨_, rfl⟩
  have b0 : Below w.heap.size w W0 := by rw [e0]; exact (below_box w _).trans ((below_box _ _).mono (by simp))
  have x0 : BoxAt W0 w.heap.size #[.slice (some ⟨gp, 0, none⟩) n cp, .slice (some ⟨gh, 0, none⟩) n ch, .slice (some ⟨gb, 0, none⟩) n cb] 30 := by rw [e0]; exact (BoxAt.new w _ _).below (below_box _ _)
  have y0 : BoxAt W0 (w.heap.size + 1) #[.int .i64 4, .int .i64 A, .string T, .slice av ks.length cv] 118 := by
    rw [e0]
    have := BoxAt.new (w.alloc (.cells #[.slice (some ⟨gp, 0, none⟩) n cp, .slice (some ⟨gh, 0, none⟩) n ch, .slice (some ⟨gb, 0, none⟩) n cb] 30)) #[.int .i64 4, .int .i64 A, .string T, .slice av ks.length cv] 118
    simpa only [World.size_alloc] using this
  have s0 : w.heap.size + 1 < W0.heap.size := y0.lt
  have E0 := hide e0.symm
  have C0 := hide (Chg.ofBelow (lo := lo) (hi := hi) b0)
  have X0 := hide x0
  have Y0 := hide y0
  have D0 := hide (d.below b0)
  have LP := hide hP
  have LH := hide hH
  have LB := hide hB
  have KV0 : Hid (∀ w', Chg lo hi W0 w' → Rd w' (.slice av ks.length cv) ks) := fun w' hc => KV.out _ (C0.out.trans hc)
  clear kv d b0 x0 y0 e0 hP hH hB
  go_enter Try.func100, Try.ntmps100
  go_wp2_with fail
  rw [E0.out]
  refine (hasSector_no _ _ _ _ _ _ _ hA (by omega)).mono ?_
  rintro e u2 ⟨rfl, q⟩
  have C2 := hide (C0.out.trans (Chg.ofBelow q))
  clear q
  go_wp2
  go_ret
  exact ⟨rfl, fun h => by simp at h, C2.out⟩

set_option linter.unusedSimpArgs false in
set_option maxRecDepth 100000 in
set_option maxHeartbeats 1600000 in
theorem doStep_out5 (p h b vk : Value) (P H : List ByteArray) (B : List Bool) (ks : List Int) (lo hi n : Nat) (A : Int) (T : ByteArray) (w : World) (d : DskV w lo hi p h b P H B) (hhi : hi ≤ w.heap.size) (hP : P.length = n) (hH : H.length = n) (hB : B.length = n) (hn : 0 < n ∧ n ≤ 24) (kv : ∀ w', Chg lo hi w w' → Rd w' vk ks) (hA : ¬ (0 ≤ A ∧ A < (n : Int))) :
    Calls Try.prog 100 #[.agg #[p, h, b], .agg #[.int .i64 5, .int .i64 A, .string T, vk]] w fun e w' => e = .returned (.bool false) ∧ (false = true → DskV w' lo hi p h b P H B) ∧ Chg lo hi w w' := by
  obtain ⟨gp, cp, gh, ch, gb, cb, rfl, rfl, rfl, n1, n2, n3, ⟨t1, t2, t3⟩, _⟩ := d.blocks hP hH hB hn.1
  have KV := hide kv
  obtain ⟨av, cv, ev, _, _⟩ := (kv w (Chg.refl _ _ _)).sl
  subst ev
  obtain ⟨W0, e0⟩ : ∃ W0, W0 = (w.alloc (.cells #[.slice (some ⟨gp, 0, none⟩) n cp, .slice (some ⟨gh, 0, none⟩) n ch, .slice (some ⟨gb, 0, none⟩) n cb] 30)).alloc (.cells #[.int .i64 5, .int .i64 A, .string T, .slice av ks.length cv] 118) := ⟨_, rfl⟩
  have b0 : Below w.heap.size w W0 := by rw [e0]; exact (below_box w _).trans ((below_box _ _).mono (by simp))
  have x0 : BoxAt W0 w.heap.size #[.slice (some ⟨gp, 0, none⟩) n cp, .slice (some ⟨gh, 0, none⟩) n ch, .slice (some ⟨gb, 0, none⟩) n cb] 30 := by rw [e0]; exact (BoxAt.new w _ _).below (below_box _ _)
  have y0 : BoxAt W0 (w.heap.size + 1) #[.int .i64 5, .int .i64 A, .string T, .slice av ks.length cv] 118 := by
    rw [e0]
    have := BoxAt.new (w.alloc (.cells #[.slice (some ⟨gp, 0, none⟩) n cp, .slice (some ⟨gh, 0, none⟩) n ch, .slice (some ⟨gb, 0, none⟩) n cb] 30)) #[.int .i64 5, .int .i64 A, .string T, .slice av ks.length cv] 118
    simpa only [World.size_alloc] using this
  have s0 : w.heap.size + 1 < W0.heap.size := y0.lt
  have E0 := hide e0.symm
  have C0 := hide (Chg.ofBelow (lo := lo) (hi := hi) b0)
  have X0 := hide x0
  have Y0 := hide y0
  have D0 := hide (d.below b0)
  have LP := hide hP
  have LH := hide hH
  have LB := hide hB
  have KV0 : Hid (∀ w', Chg lo hi W0 w' → Rd w' (.slice av ks.length cv) ks) := fun w' hc => KV.out _ (C0.out.trans hc)
  clear kv d b0 x0 y0 e0 hP hH hB
  go_enter Try.func100, Try.ntmps100
  go_wp2_with fail
  rw [E0.out]
  refine (hasSector_no _ _ _ _ _ _ _ hA (by omega)).mono ?_
  rintro e u2 ⟨rfl, q⟩
  have C2 := hide (C0.out.trans (Chg.ofBelow q))
  clear q
  go_wp2
  go_ret
  exact ⟨rfl, fun h => by simp at h, C2.out⟩

set_option linter.unusedSimpArgs false in
set_option maxRecDepth 100000 in
set_option maxHeartbeats 1600000 in
theorem doStep_out6 (p h b vk : Value) (P H : List ByteArray) (B : List Bool) (ks : List Int) (lo hi n : Nat) (A : Int) (T : ByteArray) (w : World) (d : DskV w lo hi p h b P H B) (hhi : hi ≤ w.heap.size) (hP : P.length = n) (hH : H.length = n) (hB : B.length = n) (hn : 0 < n ∧ n ≤ 24) (kv : ∀ w', Chg lo hi w w' → Rd w' vk ks) (hA : ¬ (0 ≤ A ∧ A < (n : Int))) :
    Calls Try.prog 100 #[.agg #[p, h, b], .agg #[.int .i64 6, .int .i64 A, .string T, vk]] w fun e w' => e = .returned (.bool false) ∧ (false = true → DskV w' lo hi p h b P H B) ∧ Chg lo hi w w' := by
  obtain ⟨gp, cp, gh, ch, gb, cb, rfl, rfl, rfl, n1, n2, n3, ⟨t1, t2, t3⟩, _⟩ := d.blocks hP hH hB hn.1
  have KV := hide kv
  obtain ⟨av, cv, ev, _, _⟩ := (kv w (Chg.refl _ _ _)).sl
  subst ev
  obtain ⟨W0, e0⟩ : ∃ W0, W0 = (w.alloc (.cells #[.slice (some ⟨gp, 0, none⟩) n cp, .slice (some ⟨gh, 0, none⟩) n ch, .slice (some ⟨gb, 0, none⟩) n cb] 30)).alloc (.cells #[.int .i64 6, .int .i64 A, .string T, .slice av ks.length cv] 118) := ⟨_, rfl⟩
  have b0 : Below w.heap.size w W0 := by rw [e0]; exact (below_box w _).trans ((below_box _ _).mono (by simp))
  have x0 : BoxAt W0 w.heap.size #[.slice (some ⟨gp, 0, none⟩) n cp, .slice (some ⟨gh, 0, none⟩) n ch, .slice (some ⟨gb, 0, none⟩) n cb] 30 := by rw [e0]; exact (BoxAt.new w _ _).below (below_box _ _)
  have y0 : BoxAt W0 (w.heap.size + 1) #[.int .i64 6, .int .i64 A, .string T, .slice av ks.length cv] 118 := by
    rw [e0]
    have := BoxAt.new (w.alloc (.cells #[.slice (some ⟨gp, 0, none⟩) n cp, .slice (some ⟨gh, 0, none⟩) n ch, .slice (some ⟨gb, 0, none⟩) n cb] 30)) #[.int .i64 6, .int .i64 A, .string T, .slice av ks.length cv] 118
    simpa only [World.size_alloc] using this
  have s0 : w.heap.size + 1 < W0.heap.size := y0.lt
  have E0 := hide e0.symm
  have C0 := hide (Chg.ofBelow (lo := lo) (hi := hi) b0)
  have X0 := hide x0
  have Y0 := hide y0
  have D0 := hide (d.below b0)
  have LP := hide hP
  have LH := hide hH
  have LB := hide hB
  have KV0 : Hid (∀ w', Chg lo hi W0 w' → Rd w' (.slice av ks.length cv) ks) := fun w' hc => KV.out _ (C0.out.trans hc)
  clear kv d b0 x0 y0 e0 hP hH hB
  go_enter Try.func100, Try.ntmps100
  go_wp2_with fail
  rw [E0.out]
  refine (hasSector_no _ _ _ _ _ _ _ hA (by omega)).mono ?_
  rintro e u2 ⟨rfl, q⟩
  have C2 := hide (C0.out.trans (Chg.ofBelow q))
  clear q
  go_wp2
  go_ret
  exact ⟨rfl, fun h => by simp at h, C2.out⟩

set_option linter.unusedSimpArgs false in
set_option maxRecDepth 100000 in
set_option maxHeartbeats 1600000 in
theorem doStep_1 (p h b vk : Value) (P H : List ByteArray) (B : List Bool) (ks : List Int) (lo hi n : Nat) (k : Nat) (T : ByteArray) (y : Bool) (w : World) (d : DskV w lo hi p h b P H B) (hhi : hi ≤ w.heap.size) (hP : P.length = n) (hH : H.length = n) (hB : B.length = n) (hn : 0 < n ∧ n ≤ 24) (kv : ∀ w', Chg lo hi w w' → Rd w' vk ks) (hk : k < n) (hT : T.size ≤ 1048576) (hy : y = true ↔ hoOk B k T) :
    Calls Try.prog 100 #[.agg #[p, h, b], .agg #[.int .i64 1, .int .i64 (k : Int), .string T, vk]] w fun e w' => e = .returned (.bool y) ∧ (y = true → DskV w' lo hi p h b P (H.set k T) B) ∧ Chg lo hi w w' := by
  obtain ⟨gp, cp, gh, ch, gb, cb, rfl, rfl, rfl, n1, n2, n3, ⟨t1, t2, t3⟩, _⟩ := d.blocks hP hH hB hn.1
  have KV := hide kv
  obtain ⟨av, cv, ev, _, _⟩ := (kv w (Chg.refl _ _ _)).sl
  subst ev
  obtain ⟨W0, e0⟩ : ∃ W0, W0 = (w.alloc (.cells #[.slice (some ⟨gp, 0, none⟩) n cp, .slice (some ⟨gh, 0, none⟩) n ch, .slice (some ⟨gb, 0, none⟩) n cb] 30)).alloc (.cells #[.int .i64 1, .int .i64 (k : Int), .string T, .slice av ks.length cv] 118) := ⟨_, rfl⟩
  have b0 : Below w.heap.size w W0 := by rw [e0]; exact (below_box w _).trans ((below_box _ _).mono (by simp))
  have x0 : BoxAt W0 w.heap.size #[.slice (some ⟨gp, 0, none⟩) n cp, .slice (some ⟨gh, 0, none⟩) n ch, .slice (some ⟨gb, 0, none⟩) n cb] 30 := by rw [e0]; exact (BoxAt.new w _ _).below (below_box _ _)
  have y0 : BoxAt W0 (w.heap.size + 1) #[.int .i64 1, .int .i64 (k : Int), .string T, .slice av ks.length cv] 118 := by
    rw [e0]
    have := BoxAt.new (w.alloc (.cells #[.slice (some ⟨gp, 0, none⟩) n cp, .slice (some ⟨gh, 0, none⟩) n ch, .slice (some ⟨gb, 0, none⟩) n cb] 30)) #[.int .i64 1, .int .i64 (k : Int), .string T, .slice av ks.length cv] 118
    simpa only [World.size_alloc] using this
  have s0 : w.heap.size + 1 < W0.heap.size := y0.lt
  have E0 := hide e0.symm
  have C0 := hide (Chg.ofBelow (lo := lo) (hi := hi) b0)
  have X0 := hide x0
  have Y0 := hide y0
  have D0 := hide (d.below b0)
  have LP := hide hP
  have LH := hide hH
  have LB := hide hB
  have KV0 : Hid (∀ w', Chg lo hi W0 w' → Rd w' (.slice av ks.length cv) ks) := fun w' hc => KV.out _ (C0.out.trans hc)
  clear kv d b0 x0 y0 e0 hP hH hB
  have HY := hide hy
  clear hy
  have hk0 : (0 : Int) ≤ (k : Int) := by omega
  have hk' : (k : Int) < (n : Int) := by omega
  go_enter Try.func100, Try.ntmps100
  go_wp2_with fail
  rw [E0.out]
  refine (hasSector_yes _ _ _ _ _ _ _ hk0 hk' (by omega)).mono ?_
  rintro e u1 ⟨rfl, q⟩
  have D1 := hide (D0.out.below q)
  have C1 := hide (C0.out.trans (Chg.ofBelow q))
  have s1 := q.size
  obtain ⟨c0, c1, c2⟩ := (X0.out.below q).c3
  obtain ⟨y0, y1, y2, y3⟩ := (Y0.out.below q).c4
  clear q
  go_wp2_with fail
  refine (holdText_calls _ _ _ P H B lo hi n k T y _ D1.out (by omega) LP.out LH.out LB.out hn hk hT HY.out).mono ?_
  rintro e u2 ⟨rfl, d2, c2'⟩
  have D2 := hide d2
  have C2 := hide (C1.out.trans c2')
  clear d2 c2' c0 c1 c2 y0 y1 y2 y3
  go_wp2
  go_ret
  exact ⟨rfl, D2.out, C2.out⟩

set_option linter.unusedSimpArgs false in
set_option maxRecDepth 100000 in
set_option maxHeartbeats 1600000 in
theorem doStep_4 (p h b vk : Value) (P H : List ByteArray) (B : List Bool) (ks : List Int) (lo hi n : Nat) (k : Nat) (T : ByteArray) (y : Bool) (w : World) (d : DskV w lo hi p h b P H B) (hhi : hi ≤ w.heap.size) (hP : P.length = n) (hH : H.length = n) (hB : B.length = n) (hn : 0 < n ∧ n ≤ 24) (kv : ∀ w', Chg lo hi w w' → Rd w' vk ks) (hk : k < n) (hT : T.size ≤ 1048576) (h28 : (P.getD k ⟨#[]⟩).size ≤ 28) (hy : y = true ↔ roOk P H k T) :
    Calls Try.prog 100 #[.agg #[p, h, b], .agg #[.int .i64 4, .int .i64 (k : Int), .string T, vk]] w fun e w' => e = .returned (.bool y) ∧ (y = true → DskV w' lo hi p h b (P.set k (rotT (P.getD k ⟨#[]⟩) T)) H B) ∧ Chg lo hi w w' := by
  obtain ⟨gp, cp, gh, ch, gb, cb, rfl, rfl, rfl, n1, n2, n3, ⟨t1, t2, t3⟩, _⟩ := d.blocks hP hH hB hn.1
  have KV := hide kv
  obtain ⟨av, cv, ev, _, _⟩ := (kv w (Chg.refl _ _ _)).sl
  subst ev
  obtain ⟨W0, e0⟩ : ∃ W0, W0 = (w.alloc (.cells #[.slice (some ⟨gp, 0, none⟩) n cp, .slice (some ⟨gh, 0, none⟩) n ch, .slice (some ⟨gb, 0, none⟩) n cb] 30)).alloc (.cells #[.int .i64 4, .int .i64 (k : Int), .string T, .slice av ks.length cv] 118) := ⟨_, rfl⟩
  have b0 : Below w.heap.size w W0 := by rw [e0]; exact (below_box w _).trans ((below_box _ _).mono (by simp))
  have x0 : BoxAt W0 w.heap.size #[.slice (some ⟨gp, 0, none⟩) n cp, .slice (some ⟨gh, 0, none⟩) n ch, .slice (some ⟨gb, 0, none⟩) n cb] 30 := by rw [e0]; exact (BoxAt.new w _ _).below (below_box _ _)
  have y0 : BoxAt W0 (w.heap.size + 1) #[.int .i64 4, .int .i64 (k : Int), .string T, .slice av ks.length cv] 118 := by
    rw [e0]
    have := BoxAt.new (w.alloc (.cells #[.slice (some ⟨gp, 0, none⟩) n cp, .slice (some ⟨gh, 0, none⟩) n ch, .slice (some ⟨gb, 0, none⟩) n cb] 30)) #[.int .i64 4, .int .i64 (k : Int), .string T, .slice av ks.length cv] 118
    simpa only [World.size_alloc] using this
  have s0 : w.heap.size + 1 < W0.heap.size := y0.lt
  have E0 := hide e0.symm
  have C0 := hide (Chg.ofBelow (lo := lo) (hi := hi) b0)
  have X0 := hide x0
  have Y0 := hide y0
  have D0 := hide (d.below b0)
  have LP := hide hP
  have LH := hide hH
  have LB := hide hB
  have KV0 : Hid (∀ w', Chg lo hi W0 w' → Rd w' (.slice av ks.length cv) ks) := fun w' hc => KV.out _ (C0.out.trans hc)
  clear kv d b0 x0 y0 e0 hP hH hB
  have HY := hide hy
  clear hy
  have hk0 : (0 : Int) ≤ (k : Int) := by omega
  have hk' : (k : Int) < (n : Int) := by omega
  go_enter Try.func100, Try.ntmps100
  go_wp2_with fail
  rw [E0.out]
  refine (hasSector_yes _ _ _ _ _ _ _ hk0 hk' (by omega)).mono ?_
  rintro e u1 ⟨rfl, q⟩
  have D1 := hide (D0.out.below q)
  have C1 := hide (C0.out.trans (Chg.ofBelow q))
  have s1 := q.size
  obtain ⟨c0, c1, c2⟩ := (X0.out.below q).c3
  obtain ⟨y0, y1, y2, y3⟩ := (Y0.out.below q).c4
  clear q
  go_wp2_with fail
  refine (rotPlate_calls _ _ _ P H B lo hi n k T y _ D1.out (by omega) LP.out LH.out LB.out hn hk hT h28 HY.out).mono ?_
  rintro e u2 ⟨rfl, d2, c2'⟩
  have D2 := hide d2
  have C2 := hide (C1.out.trans c2')
  clear d2 c2' c0 c1 c2 y0 y1 y2 y3
  go_wp2
  go_ret
  exact ⟨rfl, D2.out, C2.out⟩

set_option linter.unusedSimpArgs false in
set_option maxRecDepth 100000 in
set_option maxHeartbeats 1600000 in
theorem doStep_6 (p h b vk : Value) (P H : List ByteArray) (B : List Bool) (ks : List Int) (lo hi n : Nat) (k : Nat) (y : Bool) (w : World) (d : DskV w lo hi p h b P H B) (hhi : hi ≤ w.heap.size) (hP : P.length = n) (hH : H.length = n) (hB : B.length = n) (hn : 0 < n ∧ n ≤ 24) (kv : ∀ w', Chg lo hi w w' → Rd w' vk ks) (hk : k < n) (hy : B.getD k false = y) :
    Calls Try.prog 100 #[.agg #[p, h, b], .agg #[.int .i64 6, .int .i64 (k : Int), .string ⟨#[]⟩, vk]] w fun e w' => e = .returned (.bool y) ∧ (y = true → DskV w' lo hi p h b (P.set k ⟨#[]⟩) H (B.set k false)) ∧ Chg lo hi w w' := by
  obtain ⟨gp, cp, gh, ch, gb, cb, rfl, rfl, rfl, n1, n2, n3, ⟨t1, t2, t3⟩, _⟩ := d.blocks hP hH hB hn.1
  have KV := hide kv
  obtain ⟨av, cv, ev, _, _⟩ := (kv w (Chg.refl _ _ _)).sl
  subst ev
  obtain ⟨W0, e0⟩ : ∃ W0, W0 = (w.alloc (.cells #[.slice (some ⟨gp, 0, none⟩) n cp, .slice (some ⟨gh, 0, none⟩) n ch, .slice (some ⟨gb, 0, none⟩) n cb] 30)).alloc (.cells #[.int .i64 6, .int .i64 (k : Int), .string ⟨#[]⟩, .slice av ks.length cv] 118) := ⟨_, rfl⟩
  have b0 : Below w.heap.size w W0 := by rw [e0]; exact (below_box w _).trans ((below_box _ _).mono (by simp))
  have x0 : BoxAt W0 w.heap.size #[.slice (some ⟨gp, 0, none⟩) n cp, .slice (some ⟨gh, 0, none⟩) n ch, .slice (some ⟨gb, 0, none⟩) n cb] 30 := by rw [e0]; exact (BoxAt.new w _ _).below (below_box _ _)
  have y0 : BoxAt W0 (w.heap.size + 1) #[.int .i64 6, .int .i64 (k : Int), .string ⟨#[]⟩, .slice av ks.length cv] 118 := by
    rw [e0]
    have := BoxAt.new (w.alloc (.cells #[.slice (some ⟨gp, 0, none⟩) n cp, .slice (some ⟨gh, 0, none⟩) n ch, .slice (some ⟨gb, 0, none⟩) n cb] 30)) #[.int .i64 6, .int .i64 (k : Int), .string ⟨#[]⟩, .slice av ks.length cv] 118
    simpa only [World.size_alloc] using this
  have s0 : w.heap.size + 1 < W0.heap.size := y0.lt
  have E0 := hide e0.symm
  have C0 := hide (Chg.ofBelow (lo := lo) (hi := hi) b0)
  have X0 := hide x0
  have Y0 := hide y0
  have D0 := hide (d.below b0)
  have LP := hide hP
  have LH := hide hH
  have LB := hide hB
  have KV0 : Hid (∀ w', Chg lo hi W0 w' → Rd w' (.slice av ks.length cv) ks) := fun w' hc => KV.out _ (C0.out.trans hc)
  clear kv d b0 x0 y0 e0 hP hH hB
  have HY := hide hy
  clear hy
  have hk0 : (0 : Int) ≤ (k : Int) := by omega
  have hk' : (k : Int) < (n : Int) := by omega
  go_enter Try.func100, Try.ntmps100
  go_wp2_with fail
  rw [E0.out]
  refine (hasSector_yes _ _ _ _ _ _ _ hk0 hk' (by omega)).mono ?_
  rintro e u1 ⟨rfl, q⟩
  have D1 := hide (D0.out.below q)
  have C1 := hide (C0.out.trans (Chg.ofBelow q))
  have s1 := q.size
  obtain ⟨c0, c1, c2⟩ := (X0.out.below q).c3
  obtain ⟨y0, y1, y2, y3⟩ := (Y0.out.below q).c4
  clear q
  go_wp2_with fail
  refine (healSector_calls _ _ _ P H B lo hi n k _ D1.out (by omega) LP.out LH.out LB.out hn hk y HY.out).mono ?_
  rintro e u2 ⟨rfl, d2, c2'⟩
  have D2 := hide d2
  have C2 := hide (C1.out.trans c2')
  clear d2 c2' c0 c1 c2 y0 y1 y2 y3
  go_wp2
  go_ret
  exact ⟨rfl, D2.out, C2.out⟩

set_option linter.unusedSimpArgs false in
set_option maxRecDepth 100000 in
set_option maxHeartbeats 1600000 in
theorem doStep_5 (p h b vk : Value) (P H : List ByteArray) (B : List Bool) (ks : List Int) (lo hi n : Nat) (k : Nat) (w : World) (d : DskV w lo hi p h b P H B) (hhi : hi ≤ w.heap.size) (hP : P.length = n) (hH : H.length = n) (hB : B.length = n) (hn : 0 < n ∧ n ≤ 24) (kv : ∀ w', Chg lo hi w w' → Rd w' vk ks) (hk : k < n) :
    Calls Try.prog 100 #[.agg #[p, h, b], .agg #[.int .i64 5, .int .i64 (k : Int), .string ⟨#[]⟩, vk]] w fun e w' => e = .returned (.bool true) ∧ (true = true → DskV w' lo hi p h b P (H.set k ⟨#[]⟩) (B.set k true)) ∧ Chg lo hi w w' := by
  obtain ⟨gp, cp, gh, ch, gb, cb, rfl, rfl, rfl, n1, n2, n3, ⟨t1, t2, t3⟩, _⟩ := d.blocks hP hH hB hn.1
  have KV := hide kv
  obtain ⟨av, cv, ev, _, _⟩ := (kv w (Chg.refl _ _ _)).sl
  subst ev
  obtain ⟨W0, e0⟩ : ∃ W0, W0 = (w.alloc (.cells #[.slice (some ⟨gp, 0, none⟩) n cp, .slice (some ⟨gh, 0, none⟩) n ch, .slice (some ⟨gb, 0, none⟩) n cb] 30)).alloc (.cells #[.int .i64 5, .int .i64 (k : Int), .string ⟨#[]⟩, .slice av ks.length cv] 118) := ⟨_, rfl⟩
  have b0 : Below w.heap.size w W0 := by rw [e0]; exact (below_box w _).trans ((below_box _ _).mono (by simp))
  have x0 : BoxAt W0 w.heap.size #[.slice (some ⟨gp, 0, none⟩) n cp, .slice (some ⟨gh, 0, none⟩) n ch, .slice (some ⟨gb, 0, none⟩) n cb] 30 := by rw [e0]; exact (BoxAt.new w _ _).below (below_box _ _)
  have y0 : BoxAt W0 (w.heap.size + 1) #[.int .i64 5, .int .i64 (k : Int), .string ⟨#[]⟩, .slice av ks.length cv] 118 := by
    rw [e0]
    have := BoxAt.new (w.alloc (.cells #[.slice (some ⟨gp, 0, none⟩) n cp, .slice (some ⟨gh, 0, none⟩) n ch, .slice (some ⟨gb, 0, none⟩) n cb] 30)) #[.int .i64 5, .int .i64 (k : Int), .string ⟨#[]⟩, .slice av ks.length cv] 118
    simpa only [World.size_alloc] using this
  have s0 : w.heap.size + 1 < W0.heap.size := y0.lt
  have E0 := hide e0.symm
  have C0 := hide (Chg.ofBelow (lo := lo) (hi := hi) b0)
  have X0 := hide x0
  have Y0 := hide y0
  have D0 := hide (d.below b0)
  have LP := hide hP
  have LH := hide hH
  have LB := hide hB
  have KV0 : Hid (∀ w', Chg lo hi W0 w' → Rd w' (.slice av ks.length cv) ks) := fun w' hc => KV.out _ (C0.out.trans hc)
  clear kv d b0 x0 y0 e0 hP hH hB
  have hk0 : (0 : Int) ≤ (k : Int) := by omega
  have hk' : (k : Int) < (n : Int) := by omega
  go_enter Try.func100, Try.ntmps100
  go_wp2_with fail
  rw [E0.out]
  refine (hasSector_yes _ _ _ _ _ _ _ hk0 hk' (by omega)).mono ?_
  rintro e u1 ⟨rfl, q⟩
  have D1 := hide (D0.out.below q)
  have C1 := hide (C0.out.trans (Chg.ofBelow q))
  have X1 := hide (X0.out.below q)
  have Y1 := hide (Y0.out.below q)
  obtain ⟨c0, c1, c2⟩ := X1.out.c3
  obtain ⟨y0, y1, y2, y3⟩ := Y1.out.c4
  clear q D0 C0 X0 Y0 E0 KV0
  go_wp2
  clear c0 c1 c2 y0 y1 y2 y3
  refine wp_region_noPanic ?_
  refine wp_region_held_drew (S := fun w' => (w'.cell? ⟨w.heap.size, 0, none⟩ = some (.slice (some ⟨gp, 0, none⟩) n cp) ∧ w'.cell? ⟨w.heap.size, 1, none⟩ = some (.slice (some ⟨gh, 0, none⟩) n ch) ∧ w'.cell? ⟨w.heap.size, 2, none⟩ = some (.slice (some ⟨gb, 0, none⟩) n cb)) ∧ w'.cell? ⟨w.heap.size + 1, 1, none⟩ = some (.int .i64 (k : Int))) (by kernel_rfl) (⟨(X1.out.below (Below.refl _ _).drew).c3, (Y1.out.below (Below.refl _ _).drew).c4.2.1⟩) (fun hHeld => ?_)
  have DV := hide (D1.out.below (Below.refl _ _).drew)
  have XV := hide (X1.out.below (Below.refl _ _).drew)
  have YV := hide (Y1.out.below (Below.refl _ _).drew)
  have CV : Hid (Chg lo hi w u1.drew) := C1.out.trans (Chg.ofBelow (Below.refl _ _).drew)
  clear D1 X1 Y1 C1
  generalize u1.drew = V0 at *
  refine wpAnyH_take (i := 0) (v := ?v3) rfl (by kernel_rfl) (by kernel_rfl) (by kernel_rfl) (fun _ _ _ h => h) (Or.inl ⟨by rfl, ?hy3⟩) (by assumption) ?rest3
  case hy3 => (intro w' hSw; dsimp only [List.getElem_toArray, List.getElem_cons_zero, List.getElem_cons_succ] at hSw ⊢; go_simp; try (with_reducible rfl))
  try simp only [Act.put, List.getElem_toArray, List.getElem_cons_zero, List.getElem_cons_succ, List.setIfInBounds_toArray, List.set_cons_zero, List.set_cons_succ]
  refine wpAnyH_take (i := 1) (v := ?v4) rfl (by kernel_rfl) (by kernel_rfl) (by kernel_rfl) (fun _ _ _ h => h) (Or.inl ⟨by rfl, ?hy4⟩) (by assumption) ?rest4
  case hy4 => (intro w' hSw; dsimp only [List.getElem_toArray, List.getElem_cons_zero, List.getElem_cons_succ] at hSw ⊢; go_simp; try (with_reducible rfl))
  try simp only [Act.put, List.getElem_toArray, List.getElem_cons_zero, List.getElem_cons_succ, List.setIfInBounds_toArray, List.set_cons_zero, List.set_cons_succ]
  refine wpAnyH_take (i := 2) (v := ?v5) rfl (by kernel_rfl) (by kernel_rfl) (by kernel_rfl) (fun _ _ _ h => h) (Or.inl ⟨by rfl, ?hy5⟩) (by assumption) ?rest5
  case hy5 => (intro w' hSw; dsimp only [List.getElem_toArray, List.getElem_cons_zero, List.getElem_cons_succ] at hSw ⊢; go_simp; try (with_reducible rfl))
  try simp only [Act.put, List.getElem_toArray, List.getElem_cons_zero, List.getElem_cons_succ, List.setIfInBounds_toArray, List.set_cons_zero, List.set_cons_succ]
  refine wpAnyH_take (i := 3) (v := ?v6) rfl (by kernel_rfl) (by kernel_rfl) (by kernel_rfl) (fun _ _ _ h => h) (Or.inl ⟨by rfl, ?hy6⟩) (by assumption) ?rest6
  case hy6 => (intro w' hSw; dsimp only [List.getElem_toArray, List.getElem_cons_zero, List.getElem_cons_succ] at hSw ⊢; go_simp; try (with_reducible rfl))
  try simp only [Act.put, List.getElem_toArray, List.getElem_cons_zero, List.getElem_cons_succ, List.setIfInBounds_toArray, List.set_cons_zero, List.set_cons_succ]
  refine wpAnyH_take (i := 4) (v := ?v7) rfl (by kernel_rfl) (by kernel_rfl) (by kernel_rfl) (fun _ _ _ h => h) (Or.inl ⟨by rfl, ?hy7⟩) (by assumption) ?rest7
  case hy7 => (intro w' hSw; dsimp only [List.getElem_toArray, List.getElem_cons_zero, List.getElem_cons_succ] at hSw ⊢; go_simp; try (with_reducible rfl))
  try simp only [Act.put, List.getElem_toArray, List.getElem_cons_zero, List.getElem_cons_succ, List.setIfInBounds_toArray, List.set_cons_zero, List.set_cons_succ]
  refine wpAnyH_take (i := 5) (v := ?v8) rfl (by kernel_rfl) (by kernel_rfl) (by kernel_rfl) (fun _ _ _ h => h) (Or.inl ⟨by rfl, ?hy8⟩) (by assumption) ?rest8
  case hy8 => (intro w' hSw; dsimp only [List.getElem_toArray, List.getElem_cons_zero, List.getElem_cons_succ] at hSw ⊢; go_simp; try (with_reducible rfl))
  try simp only [Act.put, List.getElem_toArray, List.getElem_cons_zero, List.getElem_cons_succ, List.setIfInBounds_toArray, List.set_cons_zero, List.set_cons_succ]
  refine wpAnyH_take (i := 6) (v := ?v9) rfl (by kernel_rfl) (by kernel_rfl) (by kernel_rfl) (fun _ _ _ h => h) (Or.inl ⟨by rfl, ?hy9⟩) (by assumption) ?rest9
  case hy9 => (intro w' hSw; dsimp only [List.getElem_toArray, List.getElem_cons_zero, List.getElem_cons_succ] at hSw ⊢; go_simp; try (with_reducible rfl))
  try simp only [Act.put, List.getElem_toArray, List.getElem_cons_zero, List.getElem_cons_succ, List.setIfInBounds_toArray, List.set_cons_zero, List.set_cons_succ]
  refine wpAnyH_take (i := 7) (v := ?v10) rfl (by kernel_rfl) (by kernel_rfl) (by kernel_rfl) (fun _ _ _ h => h) (Or.inl ⟨by rfl, ?hy10⟩) (by assumption) ?rest10
  case hy10 => (intro w' hSw; dsimp only [List.getElem_toArray, List.getElem_cons_zero, List.getElem_cons_succ] at hSw ⊢; go_simp; try (with_reducible rfl))
  try simp only [Act.put, List.getElem_toArray, List.getElem_cons_zero, List.getElem_cons_succ, List.setIfInBounds_toArray, List.set_cons_zero, List.set_cons_succ]
  refine wpAnyH_take (i := 8) (v := ?v11) rfl (by kernel_rfl) (by kernel_rfl) (by kernel_rfl) (fun _ _ _ h => h) (Or.inl ⟨by rfl, ?hy11⟩) (by assumption) ?rest11
  case hy11 => (intro w' hSw; dsimp only [List.getElem_toArray, List.getElem_cons_zero, List.getElem_cons_succ] at hSw ⊢; go_simp; try (with_reducible rfl))
  try simp only [Act.put, List.getElem_toArray, List.getElem_cons_zero, List.getElem_cons_succ, List.setIfInBounds_toArray, List.set_cons_zero, List.set_cons_succ]
  refine wpAnyH_ready (rs := [9]) (by kernel_rfl) (by simp) ?_
  refine AllReadyH.cons rfl (fun K hK => ?_) AllReadyH.nil
  obtain ⟨q1, q2⟩ := DV.out.cellB LB.out k hk
  obtain ⟨dp, cpp⟩ := DV.out.putB LB.out k true
  have D2 := hide dp
  have C2 := hide (CV.out.trans cpp)
  have X2 := hide (XV.out.chg cpp (.inr hhi))
  have Y2 := hide (YV.out.chg cpp (.inr (by omega)))
  clear dp cpp hHeld DV CV XV YV
  dsimp only [List.getElem_toArray, List.getElem_cons_zero, List.getElem_cons_succ]
  go_simp
  clear q1 q2
  refine hK.out _ _ (⟨X2.out.c3, Y2.out.c4.2.1⟩) (fun hHeld => ?_)
  clear hK K
  try simp only [Act.put, List.getElem_toArray, List.getElem_cons_zero, List.getElem_cons_succ, List.setIfInBounds_toArray, List.set_cons_zero, List.set_cons_succ]
  refine wpAnyH_take (i := 10) (v := ?v12) rfl (by kernel_rfl) (by kernel_rfl) (by kernel_rfl) (fun _ _ _ h => h) (Or.inl ⟨by rfl, ?hy12⟩) (by assumption) ?rest12
  case hy12 => (intro w' hSw; dsimp only [List.getElem_toArray, List.getElem_cons_zero, List.getElem_cons_succ] at hSw ⊢; go_simp; try (with_reducible rfl))
  try simp only [Act.put, List.getElem_toArray, List.getElem_cons_zero, List.getElem_cons_succ, List.setIfInBounds_toArray, List.set_cons_zero, List.set_cons_succ]
  refine wpAnyH_ready (rs := [11]) (by kernel_rfl) (by simp) ?_
  refine AllReadyH.cons rfl (fun K hK => ?_) AllReadyH.nil
  obtain ⟨q1, q2⟩ := D2.out.cellH LH.out k hk
  obtain ⟨dp, cpp⟩ := D2.out.putH LH.out k ⟨#[]⟩ (Nat.zero_le _)
  have D3 := hide dp
  have C3 := hide (C2.out.trans cpp)
  have X3 := hide (X2.out.chg cpp (.inr hhi))
  have Y3 := hide (Y2.out.chg cpp (.inr (by omega)))
  clear dp cpp hHeld D2 C2 X2 Y2
  dsimp only [List.getElem_toArray, List.getElem_cons_zero, List.getElem_cons_succ]
  go_simp
  refine hK.out _ _ (⟨X3.out.c3, Y3.out.c4.2.1⟩) (fun hHeld => ?_)
  clear hK K
  try simp only [Act.put, List.getElem_toArray, List.getElem_cons_zero, List.getElem_cons_succ, List.setIfInBounds_toArray, List.set_cons_zero, List.set_cons_succ]
  refine wpAnyH_done (by kernel_rfl) ?_ _
  refine NoPanic.normal ?_
  go_wp2
  go_ret
  exact ⟨rfl, fun _ => D3.out, C3.out⟩
end Go.Proofs.Ytpgmocogffolaaa

/-
  A step done on a disk of the call's own, kind by kind: the model's l7Step, call by call. Each contract says what it asks.
-/
import Derived.Test.YtbgadbokejaomaaGreatDoorRewriteAtB13
namespace Go.Proofs.YtbgadbokejaomaaGreatDoor
open Go.RowKit
set_option linter.unusedVariables false
theorem quiet_in {P : Program} {f : FuncId} {args : Array Value} {w : World} {n : Nat} {v : Value}
    (h : Calls P f args (w.drewN n) fun e w' => e = .returned v ∧ w.drewN n = w') : Calls P f args (w.drewN n) fun e w'' => e = .returned v ∧ ∃ m, w'' = w.drewN m :=
  h.mono fun _ _ ⟨he, hm⟩ => ⟨he, n, hm.symm⟩

theorem s_pro (w : World) (lo hi : Nat) (D X : Array Value) {v p h b : Value} {ks : List Int} {P H : List ByteArray} {B : List Bool} (kv : ∀ w', Chg lo hi w w' → Rd w' v ks) (d : DskV w lo hi p h b P H B) :
    Hid (BoxAt (((w.alloc (.cells D 26)).alloc (.cells X 105)).alloc (.cells D 26)) (w.heap.size + 1 + 1) D 26) ∧ Hid (Chg lo hi w (((w.alloc (.cells D 26)).alloc (.cells X 105)).alloc (.cells D 26))) ∧
    ∃ W0, Hid (((w.alloc (.cells D 26)).alloc (.cells X 105)).alloc (.cells nil3 26) = W0) ∧ Hid (Chg lo hi w W0) ∧ Hid (BoxAt W0 w.heap.size D 26) ∧ Hid (BoxAt W0 (w.heap.size + 1) X 105) ∧ Hid (BoxAt W0 (w.heap.size + 1 + 1) nil3 26) ∧
      Hid (DskV W0 lo hi p h b P H B) ∧ Hid (∀ w', Chg lo hi W0 w' → Rd w' v ks) ∧ w.heap.size + 1 + 1 < W0.heap.size := by
  have a := Hand.three w D X D 26 105 26
  have c := Hand.three w D X nil3 26 105 26
  exact ⟨hide (a.atBox 0 rfl), hide (Chg.ofBelow a.below), _, hide rfl, hide (Chg.ofBelow c.below), hide (c.atBox 2 rfl), hide (c.atBox 1 rfl), hide (c.atBox 0 rfl), hide (d.below c.below), hide (fun w' hc => kv _ ((Chg.ofBelow c.below).trans hc)), (c.atBox 0 rfl).lt⟩

set_option linter.unusedSimpArgs false in
set_option maxRecDepth 100000 in
set_option maxHeartbeats 1600000 in
theorem s_at2 (p h b vk : Value) (P H : List ByteArray) (B : List Bool) (lo hi n : Nat) (A : Int) (T : ByteArray) (ks : List Int) (w : World) (d : DskV w lo hi p h b P H B) (hhi : hi ≤ w.heap.size) (hP : P.length = n) (hH : H.length = n) (hB : B.length = n) (hn : 0 < n ∧ n ≤ 24) (kv : ∀ w', Chg lo hi w w' → Rd w' vk ks) (hA : ¬ A = 0) :
    Calls Tryz.prog 89 #[.agg #[p, h, b], .agg #[.int .i64 2, .int .i64 A, .string T, vk]] w fun e w' => e = .returned (.tuple #[.agg #[p, h, b], .bool false]) ∧ (false = true → DskV w' lo hi p h b P H B) ∧ Chg lo hi w w' := by
  obtain ⟨gp, cp, gh, ch, gb, cb, rfl, rfl, rfl, n1, n2, n3, ⟨t1, t2, t3⟩, _⟩ := d.blocks hP hH hB hn.1
  have KV := hide kv
  obtain ⟨av, cv, ev', mv, _⟩ := (kv w (Chg.refl _ _ _)).sl
  have ev : vk = .slice av ks.length cv := ev'
  clear ev'
  subst ev
  obtain ⟨F0, CF0, W0, E0, C0, X0, Y0, Z0, D0, KV0, s0⟩ := s_pro w lo hi #[.slice (some ⟨gp, 0, none⟩) n cp, .slice (some ⟨gh, 0, none⟩) n ch, .slice (some ⟨gb, 0, none⟩) n cb] #[.int .i64 2, .int .i64 A, .string T, .slice av ks.length cv] kv d
  have LP := hide hP
  have LH := hide hH
  have LB := hide hB
  clear kv d hP hH hB
  have hAb : (A == 0) = false := by simpa using hA
  go_enter Tryz.func89, Tryz.ntmps89
  go_wp2
  exact bodyPost_ret (res_dsk2 rfl _ _ (w.heap.size + 1 + 1) _ _ _ (0, 0) rfl F0.out) rfl ⟨rfl, fun h => by simp at h, CF0.out⟩

set_option linter.unusedSimpArgs false in
set_option maxRecDepth 100000 in
set_option maxHeartbeats 1600000 in
theorem s_text2 (p h b vk : Value) (P H : List ByteArray) (B : List Bool) (lo hi n : Nat) (T : ByteArray) (ks : List Int) (w : World) (d : DskV w lo hi p h b P H B) (hhi : hi ≤ w.heap.size) (hP : P.length = n) (hH : H.length = n) (hB : B.length = n) (hn : 0 < n ∧ n ≤ 24) (kv : ∀ w', Chg lo hi w w' → Rd w' vk ks) (hT : ¬ T = ⟨#[]⟩) :
    Calls Tryz.prog 89 #[.agg #[p, h, b], .agg #[.int .i64 2, .int .i64 0, .string T, vk]] w fun e w' => e = .returned (.tuple #[.agg #[p, h, b], .bool false]) ∧ (false = true → DskV w' lo hi p h b P H B) ∧ Chg lo hi w w' := by
  obtain ⟨gp, cp, gh, ch, gb, cb, rfl, rfl, rfl, n1, n2, n3, ⟨t1, t2, t3⟩, _⟩ := d.blocks hP hH hB hn.1
  have KV := hide kv
  obtain ⟨av, cv, ev', mv, _⟩ := (kv w (Chg.refl _ _ _)).sl
  have ev : vk = .slice av ks.length cv := ev'
  clear ev'
  subst ev
  obtain ⟨F0, CF0, W0, E0, C0, X0, Y0, Z0, D0, KV0, s0⟩ := s_pro w lo hi #[.slice (some ⟨gp, 0, none⟩) n cp, .slice (some ⟨gh, 0, none⟩) n ch, .slice (some ⟨gb, 0, none⟩) n cb] #[.int .i64 2, .int .i64 0, .string T, .slice av ks.length cv] kv d
  have LP := hide hP
  have LH := hide hH
  have LB := hide hB
  clear kv d hP hH hB
  obtain ⟨tt1, tt2⟩ := toList_ne hT
  clear hT
  go_enter Tryz.func89, Tryz.ntmps89
  go_wp2
  exact bodyPost_ret (res_dsk2 rfl _ _ (w.heap.size + 1 + 1) _ _ _ (0, 0) rfl F0.out) rfl ⟨rfl, fun h => by simp at h, CF0.out⟩

set_option linter.unusedSimpArgs false in
set_option maxRecDepth 100000 in
set_option maxHeartbeats 1600000 in
theorem s_at3 (p h b vk : Value) (P H : List ByteArray) (B : List Bool) (lo hi n : Nat) (A : Int) (T : ByteArray) (ks : List Int) (w : World) (d : DskV w lo hi p h b P H B) (hhi : hi ≤ w.heap.size) (hP : P.length = n) (hH : H.length = n) (hB : B.length = n) (hn : 0 < n ∧ n ≤ 24) (kv : ∀ w', Chg lo hi w w' → Rd w' vk ks) (hA : ¬ A = 0) :
    Calls Tryz.prog 89 #[.agg #[p, h, b], .agg #[.int .i64 3, .int .i64 A, .string T, vk]] w fun e w' => e = .returned (.tuple #[.agg #[p, h, b], .bool false]) ∧ (false = true → DskV w' lo hi p h b P H B) ∧ Chg lo hi w w' := by
  obtain ⟨gp, cp, gh, ch, gb, cb, rfl, rfl, rfl, n1, n2, n3, ⟨t1, t2, t3⟩, _⟩ := d.blocks hP hH hB hn.1
  have KV := hide kv
  obtain ⟨av, cv, ev', mv, _⟩ := (kv w (Chg.refl _ _ _)).sl
  have ev : vk = .slice av ks.length cv := ev'
  clear ev'
  subst ev
  obtain ⟨F0, CF0, W0, E0, C0, X0, Y0, Z0, D0, KV0, s0⟩ := s_pro w lo hi #[.slice (some ⟨gp, 0, none⟩) n cp, .slice (some ⟨gh, 0, none⟩) n ch, .slice (some ⟨gb, 0, none⟩) n cb] #[.int .i64 3, .int .i64 A, .string T, .slice av ks.length cv] kv d
  have LP := hide hP
  have LH := hide hH
  have LB := hide hB
  clear kv d hP hH hB
  have hAb : (A == 0) = false := by simpa using hA
  go_enter Tryz.func89, Tryz.ntmps89
  go_wp2
  exact bodyPost_ret (res_dsk2 rfl _ _ (w.heap.size + 1 + 1) _ _ _ (0, 0) rfl F0.out) rfl ⟨rfl, fun h => by simp at h, CF0.out⟩

set_option linter.unusedSimpArgs false in
set_option maxRecDepth 100000 in
set_option maxHeartbeats 1600000 in
theorem s_text3 (p h b vk : Value) (P H : List ByteArray) (B : List Bool) (lo hi n : Nat) (T : ByteArray) (ks : List Int) (w : World) (d : DskV w lo hi p h b P H B) (hhi : hi ≤ w.heap.size) (hP : P.length = n) (hH : H.length = n) (hB : B.length = n) (hn : 0 < n ∧ n ≤ 24) (kv : ∀ w', Chg lo hi w w' → Rd w' vk ks) (hT : ¬ T = ⟨#[]⟩) :
    Calls Tryz.prog 89 #[.agg #[p, h, b], .agg #[.int .i64 3, .int .i64 0, .string T, vk]] w fun e w' => e = .returned (.tuple #[.agg #[p, h, b], .bool false]) ∧ (false = true → DskV w' lo hi p h b P H B) ∧ Chg lo hi w w' := by
  obtain ⟨gp, cp, gh, ch, gb, cb, rfl, rfl, rfl, n1, n2, n3, ⟨t1, t2, t3⟩, _⟩ := d.blocks hP hH hB hn.1
  have KV := hide kv
  obtain ⟨av, cv, ev', mv, _⟩ := (kv w (Chg.refl _ _ _)).sl
  have ev : vk = .slice av ks.length cv := ev'
  clear ev'
  subst ev
  obtain ⟨F0, CF0, W0, E0, C0, X0, Y0, Z0, D0, KV0, s0⟩ := s_pro w lo hi #[.slice (some ⟨gp, 0, none⟩) n cp, .slice (some ⟨gh, 0, none⟩) n ch, .slice (some ⟨gb, 0, none⟩) n cb] #[.int .i64 3, .int .i64 0, .string T, .slice av ks.length cv] kv d
  have LP := hide hP
  have LH := hide hH
  have LB := hide hB
  clear kv d hP hH hB
  obtain ⟨tt1, tt2⟩ := toList_ne hT
  clear hT
  go_enter Tryz.func89, Tryz.ntmps89
  go_wp2
  exact bodyPost_ret (res_dsk2 rfl _ _ (w.heap.size + 1 + 1) _ _ _ (0, 0) rfl F0.out) rfl ⟨rfl, fun h => by simp at h, CF0.out⟩

set_option linter.unusedSimpArgs false in
set_option maxRecDepth 100000 in
set_option maxHeartbeats 1600000 in
theorem s_kept2 (p h b vk : Value) (P H : List ByteArray) (B : List Bool) (lo hi n : Nat) (ks : List Int) (w : World) (d : DskV w lo hi p h b P H B) (hhi : hi ≤ w.heap.size) (hP : P.length = n) (hH : H.length = n) (hB : B.length = n) (hn : 0 < n ∧ n ≤ 24) (kv : ∀ w', Chg lo hi w w' → Rd w' vk ks) (hk : ¬ ks = []) :
    Calls Tryz.prog 89 #[.agg #[p, h, b], .agg #[.int .i64 2, .int .i64 0, .string ⟨#[]⟩, vk]] w fun e w' => e = .returned (.tuple #[.agg #[p, h, b], .bool false]) ∧ (false = true → DskV w' lo hi p h b P H B) ∧ Chg lo hi w w' := by
  obtain ⟨gp, cp, gh, ch, gb, cb, rfl, rfl, rfl, n1, n2, n3, ⟨t1, t2, t3⟩, _⟩ := d.blocks hP hH hB hn.1
  have KV := hide kv
  obtain ⟨av, cv, ev', mv, _⟩ := (kv w (Chg.refl _ _ _)).sl
  have ev : vk = .slice av ks.length cv := ev'
  clear ev'
  subst ev
  obtain ⟨F0, CF0, W0, E0, C0, X0, Y0, Z0, D0, KV0, s0⟩ := s_pro w lo hi #[.slice (some ⟨gp, 0, none⟩) n cp, .slice (some ⟨gh, 0, none⟩) n ch, .slice (some ⟨gb, 0, none⟩) n cb] #[.int .i64 2, .int .i64 0, .string ⟨#[]⟩, .slice av ks.length cv] kv d
  have LP := hide hP
  have LH := hide hH
  have LB := hide hB
  clear kv d hP hH hB
  have hl0 : 0 < ks.length := List.length_pos_iff.2 hk
  have hl : (0 : Int) < (ks.length : Int) := by omega
  have hd : decide ((0 : Int) < (ks.length : Int)) = true := decide_eq_true hl
  have hd2 : decide (0 < ks.length) = true := decide_eq_true hl0
  go_enter Tryz.func89, Tryz.ntmps89
  go_wp2
  exact bodyPost_ret (res_dsk2 rfl _ _ (w.heap.size + 1 + 1) _ _ _ (0, 0) rfl F0.out) rfl ⟨rfl, fun h => by simp at h, CF0.out⟩

set_option linter.unusedSimpArgs false in
set_option maxRecDepth 100000 in
set_option maxHeartbeats 1600000 in
theorem s_sync (p h b vk : Value) (P H : List ByteArray) (B : List Bool) (lo hi n : Nat)  (w : World) (d : DskV w lo hi p h b P H B) (hhi : hi ≤ w.heap.size) (hP : P.length = n) (hH : H.length = n) (hB : B.length = n) (hn : 0 < n ∧ n ≤ 24) (kv : ∀ w', Chg lo hi w w' → Rd w' vk ([] : List Int))  :
    Calls Tryz.prog 89 #[.agg #[p, h, b], .agg #[.int .i64 2, .int .i64 0, .string ⟨#[]⟩, vk]] w fun e w' => e = .returned (.tuple #[.agg #[p, h, b], .bool true]) ∧ (true = true → DskV w' lo hi p h b (crP P H (hpl H n)) (crH H) B) ∧ Chg lo hi w w' := by
  obtain ⟨gp, cp, gh, ch, gb, cb, rfl, rfl, rfl, n1, n2, n3, ⟨t1, t2, t3⟩, _⟩ := d.blocks hP hH hB hn.1
  have KV := hide kv
  obtain ⟨av, cv, ev', mv, _⟩ := (kv w (Chg.refl _ _ _)).sl
  have ev : vk = .slice av 0 cv := ev'
  clear ev'
  subst ev
  obtain ⟨F0, CF0, W0, E0, C0, X0, Y0, Z0, D0, KV0, s0⟩ := s_pro w lo hi #[.slice (some ⟨gp, 0, none⟩) n cp, .slice (some ⟨gh, 0, none⟩) n ch, .slice (some ⟨gb, 0, none⟩) n cb] #[.int .i64 2, .int .i64 0, .string ⟨#[]⟩, .slice av 0 cv] kv d
  have LP := hide hP
  have LH := hide hH
  have LB := hide hB
  clear kv d hP hH hB
  have hk0 : kpOk H [] := ⟨fun i hi => by simp at hi, fun i hi => by simp at hi⟩
  go_enter Tryz.func89, Tryz.ntmps89
  go_wp2_with fail
  rw [E0.out]
  refine (l7Kept_calls _ _ _ _ H [] true _ D0.out.rh (KV0.out _ (Chg.refl _ _ _)) (by rw [LH.out]; exact hn.2) ⟨fun _ => hk0, fun _ => rfl⟩).mono ?_
  rintro e u1 ⟨rfl, q⟩
  have X1 := hide (X0.out.below q)
  have Y1 := hide (Y0.out.below q)
  have Z1 := hide (Z0.out.below q)
  have D1 := hide (D0.out.below q)
  have C1 := hide (C0.out.trans (Chg.ofBelow q))
  have s1 := q.size
  have KV1 : Hid (∀ w', Chg lo hi u1 w' → Rd w' (.slice av 0 cv) []) := fun w' hc => KV0.out _ ((Chg.ofBelow q).trans hc)
  clear q X0 Y0 Z0 D0 C0 KV0 E0
  obtain ⟨y0, y1, y2, y3⟩ := Y1.out.c4
  go_wp2
  clear y0 y1 y2 y3
  refine wp_region_noPanic ?_
  refine wp_region_held_drew (S := fun w' => w'.cell? ⟨w.heap.size, 0, none⟩ = some (.slice (some ⟨gp, 0, none⟩) n cp) ∧ w'.cell? ⟨w.heap.size, 1, none⟩ = some (.slice (some ⟨gh, 0, none⟩) n ch) ∧ w'.cell? ⟨w.heap.size, 2, none⟩ = some (.slice (some ⟨gb, 0, none⟩) n cb)) (by kernel_rfl) ((X1.out.below (Below.refl _ _).drew).c3) (fun hHeld => ?_)
  have q := (Below.refl u1.heap.size u1).drew
  have X2 := hide (X1.out.below q)
  have Y2 := hide (Y1.out.below q)
  have Z2 := hide (Z1.out.below q)
  have D2 := hide (D1.out.below q)
  have C2 := hide (C1.out.trans (Chg.ofBelow q))
  have s2 := q.size
  have KV2 : Hid (∀ w', Chg lo hi u1.drew w' → True) := fun _ _ => trivial
  clear q X1 Y1 Z1 D1 C1 KV1 KV2
  generalize u1.drew = u2 at *
  refine wpAnyH_take (i := 0) (v := ?v1) rfl (by kernel_rfl) (by kernel_rfl) (by kernel_rfl) (fun _ _ _ h => h) (Or.inl ⟨by rfl, ?hy1⟩) (by assumption) ?rest1
  case hy1 => (intro w' hSw; dsimp only [List.getElem_toArray, List.getElem_cons_zero, List.getElem_cons_succ] at hSw ⊢; go_simp; try (with_reducible rfl))
  try simp only [Act.put, List.getElem_toArray, List.getElem_cons_zero, List.getElem_cons_succ, List.setIfInBounds_toArray, List.set_cons_zero, List.set_cons_succ]
  refine wpAnyH_take (i := 1) (v := ?v2) rfl (by kernel_rfl) (by kernel_rfl) (by kernel_rfl) (fun _ _ _ h => h) (Or.inl ⟨by rfl, ?hy2⟩) (by assumption) ?rest2
  case hy2 => (intro w' hSw; dsimp only [List.getElem_toArray, List.getElem_cons_zero, List.getElem_cons_succ] at hSw ⊢; go_simp; try (with_reducible rfl))
  try simp only [Act.put, List.getElem_toArray, List.getElem_cons_zero, List.getElem_cons_succ, List.setIfInBounds_toArray, List.set_cons_zero, List.set_cons_succ]
  refine wpAnyH_ready (rs := [2]) (by kernel_rfl) (by simp) ?_
  refine AllReadyH.cons rfl (fun K hK => ?_) AllReadyH.nil
  dsimp only [List.getElem_toArray, List.getElem_cons_zero, List.getElem_cons_succ]
  go_simp
  refine (l7Held_calls _ _ _ H _ D2.out.rh (by rw [LH.out]; exact hn.2)).mono ?_
  rintro e' u3 ⟨v1, rfl, o1, q⟩
  obtain ⟨a1, c1, rfl⟩ := row_slice o1
  have O1 := hide o1
  have X3 := hide (X2.out.below q)
  have Y3 := hide (Y2.out.below q)
  have Z3 := hide (Z2.out.below q)
  have D3 := hide (D2.out.below q)
  have C3 := hide (C2.out.trans (Chg.ofBelow q))
  have s3 := q.size
  clear q hHeld o1 X2 Y2 Z2 D2 C2
  refine hK.out _ _ (X3.out.c3) (fun hHeld => ?_)
  clear hK K
  try simp only [Act.put, List.getElem_toArray, List.getElem_cons_zero, List.getElem_cons_succ, List.setIfInBounds_toArray, List.set_cons_zero, List.set_cons_succ]
  refine wpAnyH_ready (rs := [3]) (by kernel_rfl) (by simp) ?_
  refine AllReadyH.cons rfl (fun K hK => ?_) AllReadyH.nil
  dsimp only [List.getElem_toArray, List.getElem_cons_zero, List.getElem_cons_succ]
  go_simp
  refine (l7Crash_calls _ _ _ _ P H B (hpl H H.length) lo hi n _ D3.out (by omega) LP.out LH.out LB.out hn (fun w' hc => Own.rd (ownsRow_chg O1.out (row_top O1.out) hc (.inr (by omega))))).mono ?_
  rintro e' u4 ⟨rfl, d4, c4⟩
  rw [show hpl H H.length = hpl H n from by rw [LH.out]] at d4
  have D4 := hide d4
  have X4 := hide (X3.out.chg c4 (.inr hhi))
  have Z4 := hide (Z3.out.chg c4 (.inr (by omega)))
  have C4 := hide (C3.out.trans c4)
  have s4 := c4.size
  clear d4 c4 hHeld X3 Y3 Z3 D3 C3
  refine hK.out _ _ (X4.out.c3) (fun hHeld => ?_)
  clear hK K
  try simp only [Act.put, List.getElem_toArray, List.getElem_cons_zero, List.getElem_cons_succ, List.setIfInBounds_toArray, List.set_cons_zero, List.set_cons_succ]
  refine wpAnyH_ready (rs := [4]) (by kernel_rfl) (by simp) ?_
  refine AllReadyH.cons rfl (fun K hK => ?_) AllReadyH.nil
  obtain ⟨c0, c1, c2⟩ := X4.out.c3
  obtain ⟨r0, r1, r2⟩ := Z4.out.c3
  have f0 := Z4.out.frozen 0
  have f1 := Z4.out.frozen 1
  have f2 := Z4.out.frozen 2
  have XF := hide (Z4.out.store3 (.slice (some ⟨gp, 0, none⟩) n cp) (.slice (some ⟨gh, 0, none⟩) n ch) (.slice (some ⟨gb, 0, none⟩) n cb))
  have c6 := Chg.store3 (lo := w.heap.size + 1 + 1) (hi := w.heap.size + 1 + 1 + 1) u4 (w.heap.size + 1 + 1) (.slice (some ⟨gp, 0, none⟩) n cp) (.slice (some ⟨gh, 0, none⟩) n ch) (.slice (some ⟨gb, 0, none⟩) n cb) (Nat.le_refl _) (by omega)
  have CC := hide (chg_new C4.out c6 (by omega))
  have DD := hide (D4.out.chg c6 (.inl (by omega)))
  clear c6
  dsimp only [List.getElem_toArray, List.getElem_cons_zero, List.getElem_cons_succ]
  go_simp
  have cb := (X4.out.chg (Chg.store3 (lo := w.heap.size + 1 + 1) (hi := w.heap.size + 1 + 1 + 1) u4 (w.heap.size + 1 + 1) (.slice (some ⟨gp, 0, none⟩) n cp) (.slice (some ⟨gh, 0, none⟩) n ch) (.slice (some ⟨gb, 0, none⟩) n cb) (Nat.le_refl _) (by omega)) (.inl (by omega))).c3
  clear c0 c1 c2 r0 r1 r2 f0 f1 f2 hHeld
  refine hK.out _ _ (cb) (fun hHeld => ?_)
  clear hK K
  try simp only [Act.put, List.getElem_toArray, List.getElem_cons_zero, List.getElem_cons_succ, List.setIfInBounds_toArray, List.set_cons_zero, List.set_cons_succ]
  refine wpAnyH_ready (rs := [5]) (by kernel_rfl) (by simp) ?_
  refine AllReadyH.cons rfl (fun K hK => ?_) AllReadyH.nil
  dsimp only [List.getElem_toArray, List.getElem_cons_zero, List.getElem_cons_succ]
  go_simp
  refine hK.out _ _ (cb) (fun hHeld => ?_)
  clear hK K
  try simp only [Act.put, List.getElem_toArray, List.getElem_cons_zero, List.getElem_cons_succ, List.setIfInBounds_toArray, List.set_cons_zero, List.set_cons_succ]
  refine wpAnyH_done (by kernel_rfl) ?_ _
  refine NoPanic.normal ?_
  go_wp2
  exact bodyPost_ret (res_dsk2 rfl _ _ (w.heap.size + 1 + 1) _ _ _ (0, 0) rfl XF.out) rfl ⟨rfl, by first | exact fun _ => DD.out | exact DD.out, CC.out⟩

set_option linter.unusedSimpArgs false in
set_option maxRecDepth 100000 in
set_option maxHeartbeats 1600000 in
theorem s_crash (p h b vk : Value) (P H : List ByteArray) (B : List Bool) (lo hi n : Nat) (ks : List Int) (g : Bool) (w : World) (d : DskV w lo hi p h b P H B) (hhi : hi ≤ w.heap.size) (hP : P.length = n) (hH : H.length = n) (hB : B.length = n) (hn : 0 < n ∧ n ≤ 24) (kv : ∀ w', Chg lo hi w w' → Rd w' vk ks) (hg : g = true ↔ kpOk H ks) :
    Calls Tryz.prog 89 #[.agg #[p, h, b], .agg #[.int .i64 3, .int .i64 0, .string ⟨#[]⟩, vk]] w fun e w' => e = .returned (.tuple #[.agg #[p, h, b], .bool g]) ∧ (g = true → DskV w' lo hi p h b (crP P H ks) (crH H) B) ∧ Chg lo hi w w' := by
  obtain ⟨gp, cp, gh, ch, gb, cb, rfl, rfl, rfl, n1, n2, n3, ⟨t1, t2, t3⟩, _⟩ := d.blocks hP hH hB hn.1
  have KV := hide kv
  obtain ⟨av, cv, ev', mv, _⟩ := (kv w (Chg.refl _ _ _)).sl
  have ev : vk = .slice av ks.length cv := ev'
  clear ev'
  subst ev
  obtain ⟨F0, CF0, W0, E0, C0, X0, Y0, Z0, D0, KV0, s0⟩ := s_pro w lo hi #[.slice (some ⟨gp, 0, none⟩) n cp, .slice (some ⟨gh, 0, none⟩) n ch, .slice (some ⟨gb, 0, none⟩) n cb] #[.int .i64 3, .int .i64 0, .string ⟨#[]⟩, .slice av ks.length cv] kv d
  have LP := hide hP
  have LH := hide hH
  have LB := hide hB
  clear kv d hP hH hB
  have HG := hide hg
  clear hg
  go_enter Tryz.func89, Tryz.ntmps89
  go_wp2_with fail
  rw [E0.out]
  refine (l7Kept_calls _ _ _ _ H ks g _ D0.out.rh (KV0.out _ (Chg.refl _ _ _)) (by rw [LH.out]; exact hn.2) HG.out).mono ?_
  rintro e u1 ⟨rfl, q⟩
  have X1 := hide (X0.out.below q)
  have Y1 := hide (Y0.out.below q)
  have Z1 := hide (Z0.out.below q)
  have D1 := hide (D0.out.below q)
  have C1 := hide (C0.out.trans (Chg.ofBelow q))
  have s1 := q.size
  have KV1 : Hid (∀ w', Chg lo hi u1 w' → Rd w' (.slice av ks.length cv) ks) := fun w' hc => KV0.out _ ((Chg.ofBelow q).trans hc)
  clear q X0 Y0 Z0 D0 C0 KV0 E0
  cases g with
  | false =>
    obtain ⟨y0, y1, y2, y3⟩ := Y1.out.c4
    obtain ⟨c0, c1, c2⟩ := X1.out.c3
    obtain ⟨r0, r1, r2⟩ := Z1.out.c3
    have f0 := Z1.out.frozen 0
    have f1 := Z1.out.frozen 1
    have f2 := Z1.out.frozen 2
    have XF := hide (Z1.out.store3 (.slice (some ⟨gp, 0, none⟩) n cp) (.slice (some ⟨gh, 0, none⟩) n ch) (.slice (some ⟨gb, 0, none⟩) n cb))
    have c6 := Chg.store3 (lo := w.heap.size + 1 + 1) (hi := w.heap.size + 1 + 1 + 1) u1 (w.heap.size + 1 + 1) (.slice (some ⟨gp, 0, none⟩) n cp) (.slice (some ⟨gh, 0, none⟩) n ch) (.slice (some ⟨gb, 0, none⟩) n cb) (Nat.le_refl _) (by omega)
    have CC := hide (chg_new C1.out c6 (by omega))
    clear c6
    go_wp2
    exact bodyPost_ret (res_dsk2 rfl _ _ (w.heap.size + 1 + 1) _ _ _ (0, 0) rfl XF.out) rfl ⟨rfl, fun h => by simp at h, CC.out⟩
  | true =>
    obtain ⟨y0, y1, y2, y3⟩ := Y1.out.c4
    obtain ⟨c0, c1, c2⟩ := X1.out.c3
    go_wp2_with fail
    refine (l7Crash_calls _ _ _ _ P H B ks lo hi n _ D1.out (by omega) LP.out LH.out LB.out hn KV1.out).mono ?_
    rintro e u2 ⟨rfl, d4, c4⟩
    have D2 := hide d4
    have X2 := hide (X1.out.chg c4 (.inr hhi))
    have Z2 := hide (Z1.out.chg c4 (.inr (by omega)))
    have C2 := hide (C1.out.trans c4)
    have s2 := c4.size
    clear d4 c4 c0 c1 c2 y0 y1 y2 y3 X1 Y1 Z1 D1 C1
    obtain ⟨c0, c1, c2⟩ := X2.out.c3
    obtain ⟨r0, r1, r2⟩ := Z2.out.c3
    have f0 := Z2.out.frozen 0
    have f1 := Z2.out.frozen 1
    have f2 := Z2.out.frozen 2
    have XF := hide (Z2.out.store3 (.slice (some ⟨gp, 0, none⟩) n cp) (.slice (some ⟨gh, 0, none⟩) n ch) (.slice (some ⟨gb, 0, none⟩) n cb))
    have c6 := Chg.store3 (lo := w.heap.size + 1 + 1) (hi := w.heap.size + 1 + 1 + 1) u2 (w.heap.size + 1 + 1) (.slice (some ⟨gp, 0, none⟩) n cp) (.slice (some ⟨gh, 0, none⟩) n ch) (.slice (some ⟨gb, 0, none⟩) n cb) (Nat.le_refl _) (by omega)
    have CC := hide (chg_new C2.out c6 (by omega))
    have DD := hide (D2.out.chg c6 (.inl (by omega)))
    clear c6
    go_wp2
    exact bodyPost_ret (res_dsk2 rfl _ _ (w.heap.size + 1 + 1) _ _ _ (0, 0) rfl XF.out) rfl ⟨rfl, by first | exact fun _ => DD.out | exact DD.out, CC.out⟩

set_option linter.unusedSimpArgs false in
set_option maxRecDepth 100000 in
set_option maxHeartbeats 1600000 in
theorem s_out (p h b vk : Value) (P H : List ByteArray) (B : List Bool) (lo hi n : Nat) (K A : Int) (T : ByteArray) (ks : List Int) (w : World) (d : DskV w lo hi p h b P H B) (hhi : hi ≤ w.heap.size) (hP : P.length = n) (hH : H.length = n) (hB : B.length = n) (hn : 0 < n ∧ n ≤ 24) (kv : ∀ w', Chg lo hi w w' → Rd w' vk ks) (hK2 : ¬ K = 2) (hK3 : ¬ K = 3) (hA : ¬ (0 ≤ A ∧ A < (n : Int))) :
    Calls Tryz.prog 89 #[.agg #[p, h, b], .agg #[.int .i64 K, .int .i64 A, .string T, vk]] w fun e w' => e = .returned (.tuple #[.agg #[p, h, b], .bool false]) ∧ (false = true → DskV w' lo hi p h b P H B) ∧ Chg lo hi w w' := by
  obtain ⟨gp, cp, gh, ch, gb, cb, rfl, rfl, rfl, n1, n2, n3, ⟨t1, t2, t3⟩, _⟩ := d.blocks hP hH hB hn.1
  have KV := hide kv
  obtain ⟨av, cv, ev', mv, _⟩ := (kv w (Chg.refl _ _ _)).sl
  have ev : vk = .slice av ks.length cv := ev'
  clear ev'
  subst ev
  obtain ⟨F0, CF0, W0, E0, C0, X0, Y0, Z0, D0, KV0, s0⟩ := s_pro w lo hi #[.slice (some ⟨gp, 0, none⟩) n cp, .slice (some ⟨gh, 0, none⟩) n ch, .slice (some ⟨gb, 0, none⟩) n cb] #[.int .i64 K, .int .i64 A, .string T, .slice av ks.length cv] kv d
  have LP := hide hP
  have LH := hide hH
  have LB := hide hB
  clear kv d hP hH hB
  have e2 : (K == 2) = false := by simpa using hK2
  have e3 : (K == 3) = false := by simpa using hK3
  go_enter Tryz.func89, Tryz.ntmps89
  go_wp2_with fail
  rw [E0.out]
  refine (l7There_no _ _ _ _ _ _ _ hA (by omega)).mono ?_
  rintro e u1 ⟨rfl, q⟩
  have X1 := hide (X0.out.below q)
  have Y1 := hide (Y0.out.below q)
  have Z1 := hide (Z0.out.below q)
  have D1 := hide (D0.out.below q)
  have C1 := hide (C0.out.trans (Chg.ofBelow q))
  have s1 := q.size
  clear q X0 Y0 Z0 D0 C0 KV0 E0
  obtain ⟨c0, c1, c2⟩ := X1.out.c3
  obtain ⟨r0, r1, r2⟩ := Z1.out.c3
  have f0 := Z1.out.frozen 0
  have f1 := Z1.out.frozen 1
  have f2 := Z1.out.frozen 2
  have XF := hide (Z1.out.store3 (.slice (some ⟨gp, 0, none⟩) n cp) (.slice (some ⟨gh, 0, none⟩) n ch) (.slice (some ⟨gb, 0, none⟩) n cb))
  have c6 := Chg.store3 (lo := w.heap.size + 1 + 1) (hi := w.heap.size + 1 + 1 + 1) u1 (w.heap.size + 1 + 1) (.slice (some ⟨gp, 0, none⟩) n cp) (.slice (some ⟨gh, 0, none⟩) n ch) (.slice (some ⟨gb, 0, none⟩) n cb) (Nat.le_refl _) (by omega)
  have CC := hide (chg_new C1.out c6 (by omega))
  clear c6
  go_wp2
  exact bodyPost_ret (res_dsk2 rfl _ _ (w.heap.size + 1 + 1) _ _ _ (0, 0) rfl XF.out) rfl ⟨rfl, fun h => by simp at h, CC.out⟩

set_option linter.unusedSimpArgs false in
set_option maxRecDepth 100000 in
set_option maxHeartbeats 1600000 in
theorem s_more (p h b vk : Value) (P H : List ByteArray) (B : List Bool) (lo hi n : Nat) (K : Int) (k : Nat) (T : ByteArray) (ks : List Int) (w : World) (d : DskV w lo hi p h b P H B) (hhi : hi ≤ w.heap.size) (hP : P.length = n) (hH : H.length = n) (hB : B.length = n) (hn : 0 < n ∧ n ≤ 24) (kv : ∀ w', Chg lo hi w w' → Rd w' vk ks) (hK2 : ¬ K = 2) (hK3 : ¬ K = 3) (hk : k < n) (hks : ¬ ks = []) :
    Calls Tryz.prog 89 #[.agg #[p, h, b], .agg #[.int .i64 K, .int .i64 (k : Int), .string T, vk]] w fun e w' => e = .returned (.tuple #[.agg #[p, h, b], .bool false]) ∧ (false = true → DskV w' lo hi p h b P H B) ∧ Chg lo hi w w' := by
  obtain ⟨gp, cp, gh, ch, gb, cb, rfl, rfl, rfl, n1, n2, n3, ⟨t1, t2, t3⟩, _⟩ := d.blocks hP hH hB hn.1
  have KV := hide kv
  obtain ⟨av, cv, ev', mv, _⟩ := (kv w (Chg.refl _ _ _)).sl
  have ev : vk = .slice av ks.length cv := ev'
  clear ev'
  subst ev
  obtain ⟨F0, CF0, W0, E0, C0, X0, Y0, Z0, D0, KV0, s0⟩ := s_pro w lo hi #[.slice (some ⟨gp, 0, none⟩) n cp, .slice (some ⟨gh, 0, none⟩) n ch, .slice (some ⟨gb, 0, none⟩) n cb] #[.int .i64 K, .int .i64 (k : Int), .string T, .slice av ks.length cv] kv d
  have LP := hide hP
  have LH := hide hH
  have LB := hide hB
  clear kv d hP hH hB
  have e2 : (K == 2) = false := by simpa using hK2
  have e3 : (K == 3) = false := by simpa using hK3
  have hl : (0 : Int) < (ks.length : Int) := by
    have : 0 < ks.length := List.length_pos_iff.2 hks
    omega
  clear hks
  have hk0 : (0 : Int) ≤ (k : Int) := by omega
  have hk' : (k : Int) < (n : Int) := by omega
  go_enter Tryz.func89, Tryz.ntmps89
  go_wp2_with fail
  rw [E0.out]
  refine (l7There_yes _ _ _ _ _ _ _ hk0 hk' (by omega)).mono ?_
  rintro e u1 ⟨rfl, q⟩
  have X1 := hide (X0.out.below q)
  have Y1 := hide (Y0.out.below q)
  have Z1 := hide (Z0.out.below q)
  have D1 := hide (D0.out.below q)
  have C1 := hide (C0.out.trans (Chg.ofBelow q))
  have s1 := q.size
  clear q X0 Y0 Z0 D0 C0 KV0 E0
  obtain ⟨y0, y1, y2, y3⟩ := Y1.out.c4
  obtain ⟨c0, c1, c2⟩ := X1.out.c3
  obtain ⟨r0, r1, r2⟩ := Z1.out.c3
  have f0 := Z1.out.frozen 0
  have f1 := Z1.out.frozen 1
  have f2 := Z1.out.frozen 2
  have XF := hide (Z1.out.store3 (.slice (some ⟨gp, 0, none⟩) n cp) (.slice (some ⟨gh, 0, none⟩) n ch) (.slice (some ⟨gb, 0, none⟩) n cb))
  have c6 := Chg.store3 (lo := w.heap.size + 1 + 1) (hi := w.heap.size + 1 + 1 + 1) u1 (w.heap.size + 1 + 1) (.slice (some ⟨gp, 0, none⟩) n cp) (.slice (some ⟨gh, 0, none⟩) n ch) (.slice (some ⟨gb, 0, none⟩) n cb) (Nat.le_refl _) (by omega)
  have CC := hide (chg_new C1.out c6 (by omega))
  clear c6
  go_wp2
  exact bodyPost_ret (res_dsk2 rfl _ _ (w.heap.size + 1 + 1) _ _ _ (0, 0) rfl XF.out) rfl ⟨rfl, fun h => by simp at h, CC.out⟩

set_option linter.unusedSimpArgs false in
set_option maxRecDepth 100000 in
set_option maxHeartbeats 1600000 in
theorem s_other (p h b vk : Value) (P H : List ByteArray) (B : List Bool) (lo hi n : Nat) (K : Int) (k : Nat) (T : ByteArray) (w : World) (d : DskV w lo hi p h b P H B) (hhi : hi ≤ w.heap.size) (hP : P.length = n) (hH : H.length = n) (hB : B.length = n) (hn : 0 < n ∧ n ≤ 24) (kv : ∀ w', Chg lo hi w w' → Rd w' vk ([] : List Int)) (hK1 : ¬ K = 1) (hK2 : ¬ K = 2) (hK3 : ¬ K = 3) (hK4 : ¬ K = 4) (hK5 : ¬ K = 5) (hK6 : ¬ K = 6) (hk : k < n) :
    Calls Tryz.prog 89 #[.agg #[p, h, b], .agg #[.int .i64 K, .int .i64 (k : Int), .string T, vk]] w fun e w' => e = .returned (.tuple #[.agg #[p, h, b], .bool false]) ∧ (false = true → DskV w' lo hi p h b P H B) ∧ Chg lo hi w w' := by
  obtain ⟨gp, cp, gh, ch, gb, cb, rfl, rfl, rfl, n1, n2, n3, ⟨t1, t2, t3⟩, _⟩ := d.blocks hP hH hB hn.1
  have KV := hide kv
  obtain ⟨av, cv, ev', mv, _⟩ := (kv w (Chg.refl _ _ _)).sl
  have ev : vk = .slice av 0 cv := ev'
  clear ev'
  subst ev
  obtain ⟨F0, CF0, W0, E0, C0, X0, Y0, Z0, D0, KV0, s0⟩ := s_pro w lo hi #[.slice (some ⟨gp, 0, none⟩) n cp, .slice (some ⟨gh, 0, none⟩) n ch, .slice (some ⟨gb, 0, none⟩) n cb] #[.int .i64 K, .int .i64 (k : Int), .string T, .slice av 0 cv] kv d
  have LP := hide hP
  have LH := hide hH
  have LB := hide hB
  clear kv d hP hH hB
  have e1 : (K == 1) = false := by simpa using hK1
  have e2 : (K == 2) = false := by simpa using hK2
  have e3 : (K == 3) = false := by simpa using hK3
  have e4 : (K == 4) = false := by simpa using hK4
  have e5 : (K == 5) = false := by simpa using hK5
  have e6 : (K == 6) = false := by simpa using hK6
  have hk0 : (0 : Int) ≤ (k : Int) := by omega
  have hk' : (k : Int) < (n : Int) := by omega
  go_enter Tryz.func89, Tryz.ntmps89
  go_wp2_with fail
  rw [E0.out]
  refine (l7There_yes _ _ _ _ _ _ _ hk0 hk' (by omega)).mono ?_
  rintro e u1 ⟨rfl, q⟩
  have X1 := hide (X0.out.below q)
  have Y1 := hide (Y0.out.below q)
  have Z1 := hide (Z0.out.below q)
  have D1 := hide (D0.out.below q)
  have C1 := hide (C0.out.trans (Chg.ofBelow q))
  have s1 := q.size
  clear q X0 Y0 Z0 D0 C0 KV0 E0
  obtain ⟨y0, y1, y2, y3⟩ := Y1.out.c4
  go_wp2
  go_quiet (fail)
  have q := below_drewN (Below.refl u1.heap.size u1) nq
  have X2 := hide (X1.out.below q)
  have Y2 := hide (Y1.out.below q)
  have Z2 := hide (Z1.out.below q)
  have D2 := hide (D1.out.below q)
  have C2 := hide (C1.out.trans (Chg.ofBelow q))
  have s2 := q.size
  generalize u1.drewN nq = u2 at *
  clear q X1 Y1 Z1 D1 C1
  obtain ⟨y0, y1, y2, y3⟩ := Y2.out.c4
  obtain ⟨c0, c1, c2⟩ := X2.out.c3
  obtain ⟨r0, r1, r2⟩ := Z2.out.c3
  have f0 := Z2.out.frozen 0
  have f1 := Z2.out.frozen 1
  have f2 := Z2.out.frozen 2
  have XF := hide (Z2.out.store3 (.slice (some ⟨gp, 0, none⟩) n cp) (.slice (some ⟨gh, 0, none⟩) n ch) (.slice (some ⟨gb, 0, none⟩) n cb))
  have c6 := Chg.store3 (lo := w.heap.size + 1 + 1) (hi := w.heap.size + 1 + 1 + 1) u2 (w.heap.size + 1 + 1) (.slice (some ⟨gp, 0, none⟩) n cp) (.slice (some ⟨gh, 0, none⟩) n ch) (.slice (some ⟨gb, 0, none⟩) n cb) (Nat.le_refl _) (by omega)
  have CC := hide (chg_new C2.out c6 (by omega))
  clear c6
  go_wp2
  exact bodyPost_ret (res_dsk2 rfl _ _ (w.heap.size + 1 + 1) _ _ _ (0, 0) rfl XF.out) rfl ⟨rfl, fun h => by simp at h, CC.out⟩

set_option linter.unusedSimpArgs false in
set_option maxRecDepth 100000 in
set_option maxHeartbeats 1600000 in
theorem s_1a (p h b vk : Value) (P H : List ByteArray) (B : List Bool) (lo hi n : Nat) (k : Nat) (T : ByteArray) (w : World) (d : DskV w lo hi p h b P H B) (hhi : hi ≤ w.heap.size) (hP : P.length = n) (hH : H.length = n) (hB : B.length = n) (hn : 0 < n ∧ n ≤ 24) (kv : ∀ w', Chg lo hi w w' → Rd w' vk ([] : List Int)) (hk : k < n) (hBk : B.getD k false = true) :
    Calls Tryz.prog 89 #[.agg #[p, h, b], .agg #[.int .i64 1, .int .i64 (k : Int), .string T, vk]] w fun e w' => e = .returned (.tuple #[.agg #[p, h, b], .bool false]) ∧ (false = true → DskV w' lo hi p h b P H B) ∧ Chg lo hi w w' := by
  obtain ⟨gp, cp, gh, ch, gb, cb, rfl, rfl, rfl, n1, n2, n3, ⟨t1, t2, t3⟩, _⟩ := d.blocks hP hH hB hn.1
  have KV := hide kv
  obtain ⟨av, cv, ev', mv, _⟩ := (kv w (Chg.refl _ _ _)).sl
  have ev : vk = .slice av 0 cv := ev'
  clear ev'
  subst ev
  obtain ⟨F0, CF0, W0, E0, C0, X0, Y0, Z0, D0, KV0, s0⟩ := s_pro w lo hi #[.slice (some ⟨gp, 0, none⟩) n cp, .slice (some ⟨gh, 0, none⟩) n ch, .slice (some ⟨gb, 0, none⟩) n cb] #[.int .i64 1, .int .i64 (k : Int), .string T, .slice av 0 cv] kv d
  have LP := hide hP
  have LH := hide hH
  have LB := hide hB
  clear kv d hP hH hB
  have hk0 : (0 : Int) ≤ (k : Int) := by omega
  have hk' : (k : Int) < (n : Int) := by omega
  go_enter Tryz.func89, Tryz.ntmps89
  go_wp2_with fail
  rw [E0.out]
  refine (l7There_yes _ _ _ _ _ _ _ hk0 hk' (by omega)).mono ?_
  rintro e u1 ⟨rfl, q⟩
  have X1 := hide (X0.out.below q)
  have Y1 := hide (Y0.out.below q)
  have Z1 := hide (Z0.out.below q)
  have D1 := hide (D0.out.below q)
  have C1 := hide (C0.out.trans (Chg.ofBelow q))
  have s1 := q.size
  clear q X0 Y0 Z0 D0 C0 KV0 E0
  obtain ⟨hb1, hb2⟩ := D1.out.cellB LB.out k hk
  rw [hBk] at hb1
  obtain ⟨y0, y1, y2, y3⟩ := Y1.out.c4
  obtain ⟨c0, c1, c2⟩ := X1.out.c3
  go_wp2
  go_quiet (fail)
  have q := below_drewN (Below.refl u1.heap.size u1) nq
  have X2 := hide (X1.out.below q)
  have Y2 := hide (Y1.out.below q)
  have Z2 := hide (Z1.out.below q)
  have D2 := hide (D1.out.below q)
  have C2 := hide (C1.out.trans (Chg.ofBelow q))
  have s2 := q.size
  generalize u1.drewN nq = u2 at *
  clear q X1 Y1 Z1 D1 C1
  obtain ⟨y0, y1, y2, y3⟩ := Y2.out.c4
  obtain ⟨c0, c1, c2⟩ := X2.out.c3
  obtain ⟨r0, r1, r2⟩ := Z2.out.c3
  have f0 := Z2.out.frozen 0
  have f1 := Z2.out.frozen 1
  have f2 := Z2.out.frozen 2
  have XF := hide (Z2.out.store3 (.slice (some ⟨gp, 0, none⟩) n cp) (.slice (some ⟨gh, 0, none⟩) n ch) (.slice (some ⟨gb, 0, none⟩) n cb))
  have c6 := Chg.store3 (lo := w.heap.size + 1 + 1) (hi := w.heap.size + 1 + 1 + 1) u2 (w.heap.size + 1 + 1) (.slice (some ⟨gp, 0, none⟩) n cp) (.slice (some ⟨gh, 0, none⟩) n ch) (.slice (some ⟨gb, 0, none⟩) n cb) (Nat.le_refl _) (by omega)
  have CC := hide (chg_new C2.out c6 (by omega))
  clear c6
  go_wp2
  exact bodyPost_ret (res_dsk2 rfl _ _ (w.heap.size + 1 + 1) _ _ _ (0, 0) rfl XF.out) rfl ⟨rfl, fun h => by simp at h, CC.out⟩

set_option linter.unusedSimpArgs false in
set_option maxRecDepth 100000 in
set_option maxHeartbeats 1600000 in
theorem s_1b (p h b vk : Value) (P H : List ByteArray) (B : List Bool) (lo hi n : Nat) (k : Nat) (T : ByteArray) (w : World) (d : DskV w lo hi p h b P H B) (hhi : hi ≤ w.heap.size) (hP : P.length = n) (hH : H.length = n) (hB : B.length = n) (hn : 0 < n ∧ n ≤ 24) (kv : ∀ w', Chg lo hi w w' → Rd w' vk ([] : List Int)) (hk : k < n) (hBk : B.getD k false = false) (hT : T.size ≤ 1048576) (h1 : ¬ (1 ≤ T.size ∧ T.size ≤ 28)) :
    Calls Tryz.prog 89 #[.agg #[p, h, b], .agg #[.int .i64 1, .int .i64 (k : Int), .string T, vk]] w fun e w' => e = .returned (.tuple #[.agg #[p, h, b], .bool false]) ∧ (false = true → DskV w' lo hi p h b P H B) ∧ Chg lo hi w w' := by
  obtain ⟨gp, cp, gh, ch, gb, cb, rfl, rfl, rfl, n1, n2, n3, ⟨t1, t2, t3⟩, _⟩ := d.blocks hP hH hB hn.1
  have KV := hide kv
  obtain ⟨av, cv, ev', mv, _⟩ := (kv w (Chg.refl _ _ _)).sl
  have ev : vk = .slice av 0 cv := ev'
  clear ev'
  subst ev
  obtain ⟨F0, CF0, W0, E0, C0, X0, Y0, Z0, D0, KV0, s0⟩ := s_pro w lo hi #[.slice (some ⟨gp, 0, none⟩) n cp, .slice (some ⟨gh, 0, none⟩) n ch, .slice (some ⟨gb, 0, none⟩) n cb] #[.int .i64 1, .int .i64 (k : Int), .string T, .slice av 0 cv] kv d
  have LP := hide hP
  have LH := hide hH
  have LB := hide hB
  clear kv d hP hH hB
  have hk0 : (0 : Int) ≤ (k : Int) := by omega
  have hk' : (k : Int) < (n : Int) := by omega
  go_enter Tryz.func89, Tryz.ntmps89
  go_wp2_with fail
  rw [E0.out]
  refine (l7There_yes _ _ _ _ _ _ _ hk0 hk' (by omega)).mono ?_
  rintro e u1 ⟨rfl, q⟩
  have X1 := hide (X0.out.below q)
  have Y1 := hide (Y0.out.below q)
  have Z1 := hide (Z0.out.below q)
  have D1 := hide (D0.out.below q)
  have C1 := hide (C0.out.trans (Chg.ofBelow q))
  have s1 := q.size
  clear q X0 Y0 Z0 D0 C0 KV0 E0
  obtain ⟨hb1, hb2⟩ := D1.out.cellB LB.out k hk
  rw [hBk] at hb1
  obtain ⟨y0, y1, y2, y3⟩ := Y1.out.c4
  obtain ⟨c0, c1, c2⟩ := X1.out.c3
  go_wp2_with fail
  refine (l1In_no _ _ _ _ (by omega)).mono ?_
  rintro e u ⟨rfl, rfl⟩
  go_wp2
  go_quiet (fail)
  have q := below_drewN (Below.refl u1.heap.size u1) nq
  have X2 := hide (X1.out.below q)
  have Y2 := hide (Y1.out.below q)
  have Z2 := hide (Z1.out.below q)
  have D2 := hide (D1.out.below q)
  have C2 := hide (C1.out.trans (Chg.ofBelow q))
  have s2 := q.size
  generalize u1.drewN nq = u2 at *
  clear q X1 Y1 Z1 D1 C1
  obtain ⟨y0, y1, y2, y3⟩ := Y2.out.c4
  obtain ⟨c0, c1, c2⟩ := X2.out.c3
  obtain ⟨r0, r1, r2⟩ := Z2.out.c3
  have f0 := Z2.out.frozen 0
  have f1 := Z2.out.frozen 1
  have f2 := Z2.out.frozen 2
  have XF := hide (Z2.out.store3 (.slice (some ⟨gp, 0, none⟩) n cp) (.slice (some ⟨gh, 0, none⟩) n ch) (.slice (some ⟨gb, 0, none⟩) n cb))
  have c6 := Chg.store3 (lo := w.heap.size + 1 + 1) (hi := w.heap.size + 1 + 1 + 1) u2 (w.heap.size + 1 + 1) (.slice (some ⟨gp, 0, none⟩) n cp) (.slice (some ⟨gh, 0, none⟩) n ch) (.slice (some ⟨gb, 0, none⟩) n cb) (Nat.le_refl _) (by omega)
  have CC := hide (chg_new C2.out c6 (by omega))
  clear c6
  go_wp2
  exact bodyPost_ret (res_dsk2 rfl _ _ (w.heap.size + 1 + 1) _ _ _ (0, 0) rfl XF.out) rfl ⟨rfl, fun h => by simp at h, CC.out⟩

set_option linter.unusedSimpArgs false in
set_option maxRecDepth 100000 in
set_option maxHeartbeats 1600000 in
theorem s_1c (p h b vk : Value) (P H : List ByteArray) (B : List Bool) (lo hi n : Nat) (k : Nat) (T : ByteArray) (w : World) (d : DskV w lo hi p h b P H B) (hhi : hi ≤ w.heap.size) (hP : P.length = n) (hH : H.length = n) (hB : B.length = n) (hn : 0 < n ∧ n ≤ 24) (kv : ∀ w', Chg lo hi w w' → Rd w' vk ([] : List Int)) (hk : k < n) (hBk : B.getD k false = false) (h1 : 1 ≤ T.size) (h2 : T.size ≤ 28) :
    Calls Tryz.prog 89 #[.agg #[p, h, b], .agg #[.int .i64 1, .int .i64 (k : Int), .string T, vk]] w fun e w' => e = .returned (.tuple #[.agg #[p, h, b], .bool true]) ∧ (true = true → DskV w' lo hi p h b P (H.set k T) B) ∧ Chg lo hi w w' := by
  obtain ⟨gp, cp, gh, ch, gb, cb, rfl, rfl, rfl, n1, n2, n3, ⟨t1, t2, t3⟩, _⟩ := d.blocks hP hH hB hn.1
  have KV := hide kv
  obtain ⟨av, cv, ev', mv, _⟩ := (kv w (Chg.refl _ _ _)).sl
  have ev : vk = .slice av 0 cv := ev'
  clear ev'
  subst ev
  obtain ⟨F0, CF0, W0, E0, C0, X0, Y0, Z0, D0, KV0, s0⟩ := s_pro w lo hi #[.slice (some ⟨gp, 0, none⟩) n cp, .slice (some ⟨gh, 0, none⟩) n ch, .slice (some ⟨gb, 0, none⟩) n cb] #[.int .i64 1, .int .i64 (k : Int), .string T, .slice av 0 cv] kv d
  have LP := hide hP
  have LH := hide hH
  have LB := hide hB
  clear kv d hP hH hB
  have hk0 : (0 : Int) ≤ (k : Int) := by omega
  have hk' : (k : Int) < (n : Int) := by omega
  go_enter Tryz.func89, Tryz.ntmps89
  go_wp2_with fail
  rw [E0.out]
  refine (l7There_yes _ _ _ _ _ _ _ hk0 hk' (by omega)).mono ?_
  rintro e u1 ⟨rfl, q⟩
  have X1 := hide (X0.out.below q)
  have Y1 := hide (Y0.out.below q)
  have Z1 := hide (Z0.out.below q)
  have D1 := hide (D0.out.below q)
  have C1 := hide (C0.out.trans (Chg.ofBelow q))
  have s1 := q.size
  clear q X0 Y0 Z0 D0 C0 KV0 E0
  obtain ⟨hb1, hb2⟩ := D1.out.cellB LB.out k hk
  rw [hBk] at hb1
  obtain ⟨y0, y1, y2, y3⟩ := Y1.out.c4
  obtain ⟨c0, c1, c2⟩ := X1.out.c3
  go_wp2_with fail
  refine (l1In_yes _ _ _ _ (by omega) (by omega)).mono ?_
  rintro e u ⟨rfl, rfl⟩
  clear hb1 hb2
  obtain ⟨q1a, q1b⟩ := (D1.out).cellH LH.out k hk
  obtain ⟨dp1, cp1⟩ := (D1.out).putH LH.out k T (by unfold maxLen; omega)
  obtain ⟨x1a, x1b, x1c⟩ := (X1.out.chg (cp1) (.inr hhi)).c3
  obtain ⟨v1a, v1b, v1c, v1d⟩ := (Y1.out.chg (cp1) (.inr (by omega))).c4
  have X9 := hide (X1.out.chg (cp1) (.inr hhi))
  have Y9 := hide (Y1.out.chg (cp1) (.inr (by omega)))
  have Z9 := hide (Z1.out.chg (cp1) (.inr (by omega)))
  have D9 := hide dp1
  have C9 := hide (C1.out.trans (cp1))
  have s9 := (cp1).size
  clear dp1 cp1
  clear c0 c1 c2
  obtain ⟨c0, c1, c2⟩ := X9.out.c3
  obtain ⟨r0, r1, r2⟩ := Z9.out.c3
  have f0 := Z9.out.frozen 0
  have f1 := Z9.out.frozen 1
  have f2 := Z9.out.frozen 2
  have XF := hide (Z9.out.store3 (.slice (some ⟨gp, 0, none⟩) n cp) (.slice (some ⟨gh, 0, none⟩) n ch) (.slice (some ⟨gb, 0, none⟩) n cb))
  have c6 := Chg.store3 (lo := w.heap.size + 1 + 1) (hi := w.heap.size + 1 + 1 + 1) (u1.setCell ⟨gh, k, none⟩ (.string T)) (w.heap.size + 1 + 1) (.slice (some ⟨gp, 0, none⟩) n cp) (.slice (some ⟨gh, 0, none⟩) n ch) (.slice (some ⟨gb, 0, none⟩) n cb) (Nat.le_refl _) (by omega)
  have CC := hide (chg_new C9.out c6 (by omega))
  have DD := hide (D9.out.chg c6 (.inl (by omega)))
  clear c6
  obtain ⟨c0, c1, c2⟩ := X1.out.c3
  have m1 : gb ≠ w.heap.size := by omega
  have m2 : gh ≠ w.heap.size := by omega
  have m3 : gp ≠ w.heap.size := by omega
  have m4 : gb ≠ w.heap.size + 1 := by omega
  have m5 : gh ≠ w.heap.size + 1 := by omega
  have m6 : gp ≠ w.heap.size + 1 := by omega
  have m7 : gb ≠ w.heap.size + 1 + 1 := by omega
  have m8 : gh ≠ w.heap.size + 1 + 1 := by omega
  have m9 : gp ≠ w.heap.size + 1 + 1 := by omega
  go_wp2
  exact bodyPost_ret (res_dsk2 rfl _ _ (w.heap.size + 1 + 1) _ _ _ (0, 0) rfl XF.out) rfl ⟨rfl, by first | exact fun _ => DD.out | exact DD.out, CC.out⟩

set_option linter.unusedSimpArgs false in
set_option maxRecDepth 100000 in
set_option maxHeartbeats 1600000 in
theorem s_5T (p h b vk : Value) (P H : List ByteArray) (B : List Bool) (lo hi n : Nat) (k : Nat) (T : ByteArray) (w : World) (d : DskV w lo hi p h b P H B) (hhi : hi ≤ w.heap.size) (hP : P.length = n) (hH : H.length = n) (hB : B.length = n) (hn : 0 < n ∧ n ≤ 24) (kv : ∀ w', Chg lo hi w w' → Rd w' vk ([] : List Int)) (hk : k < n) (hT : ¬ T = ⟨#[]⟩) :
    Calls Tryz.prog 89 #[.agg #[p, h, b], .agg #[.int .i64 5, .int .i64 (k : Int), .string T, vk]] w fun e w' => e = .returned (.tuple #[.agg #[p, h, b], .bool false]) ∧ (false = true → DskV w' lo hi p h b P H B) ∧ Chg lo hi w w' := by
  obtain ⟨gp, cp, gh, ch, gb, cb, rfl, rfl, rfl, n1, n2, n3, ⟨t1, t2, t3⟩, _⟩ := d.blocks hP hH hB hn.1
  have KV := hide kv
  obtain ⟨av, cv, ev', mv, _⟩ := (kv w (Chg.refl _ _ _)).sl
  have ev : vk = .slice av 0 cv := ev'
  clear ev'
  subst ev
  obtain ⟨F0, CF0, W0, E0, C0, X0, Y0, Z0, D0, KV0, s0⟩ := s_pro w lo hi #[.slice (some ⟨gp, 0, none⟩) n cp, .slice (some ⟨gh, 0, none⟩) n ch, .slice (some ⟨gb, 0, none⟩) n cb] #[.int .i64 5, .int .i64 (k : Int), .string T, .slice av 0 cv] kv d
  have LP := hide hP
  have LH := hide hH
  have LB := hide hB
  clear kv d hP hH hB
  obtain ⟨tt1, tt2⟩ := toList_ne hT
  clear hT
  have hk0 : (0 : Int) ≤ (k : Int) := by omega
  have hk' : (k : Int) < (n : Int) := by omega
  go_enter Tryz.func89, Tryz.ntmps89
  go_wp2_with fail
  rw [E0.out]
  refine (l7There_yes _ _ _ _ _ _ _ hk0 hk' (by omega)).mono ?_
  rintro e u1 ⟨rfl, q⟩
  have X1 := hide (X0.out.below q)
  have Y1 := hide (Y0.out.below q)
  have Z1 := hide (Z0.out.below q)
  have D1 := hide (D0.out.below q)
  have C1 := hide (C0.out.trans (Chg.ofBelow q))
  have s1 := q.size
  clear q X0 Y0 Z0 D0 C0 KV0 E0
  obtain ⟨y0, y1, y2, y3⟩ := Y1.out.c4
  obtain ⟨c0, c1, c2⟩ := X1.out.c3
  go_wp2
  go_quiet (fail)
  have q := below_drewN (Below.refl u1.heap.size u1) nq
  have X2 := hide (X1.out.below q)
  have Y2 := hide (Y1.out.below q)
  have Z2 := hide (Z1.out.below q)
  have D2 := hide (D1.out.below q)
  have C2 := hide (C1.out.trans (Chg.ofBelow q))
  have s2 := q.size
  generalize u1.drewN nq = u2 at *
  clear q X1 Y1 Z1 D1 C1
  obtain ⟨y0, y1, y2, y3⟩ := Y2.out.c4
  obtain ⟨c0, c1, c2⟩ := X2.out.c3
  obtain ⟨r0, r1, r2⟩ := Z2.out.c3
  have f0 := Z2.out.frozen 0
  have f1 := Z2.out.frozen 1
  have f2 := Z2.out.frozen 2
  have XF := hide (Z2.out.store3 (.slice (some ⟨gp, 0, none⟩) n cp) (.slice (some ⟨gh, 0, none⟩) n ch) (.slice (some ⟨gb, 0, none⟩) n cb))
  have c6 := Chg.store3 (lo := w.heap.size + 1 + 1) (hi := w.heap.size + 1 + 1 + 1) u2 (w.heap.size + 1 + 1) (.slice (some ⟨gp, 0, none⟩) n cp) (.slice (some ⟨gh, 0, none⟩) n ch) (.slice (some ⟨gb, 0, none⟩) n cb) (Nat.le_refl _) (by omega)
  have CC := hide (chg_new C2.out c6 (by omega))
  clear c6
  go_wp2
  exact bodyPost_ret (res_dsk2 rfl _ _ (w.heap.size + 1 + 1) _ _ _ (0, 0) rfl XF.out) rfl ⟨rfl, fun h => by simp at h, CC.out⟩

set_option linter.unusedSimpArgs false in
set_option maxRecDepth 100000 in
set_option maxHeartbeats 1600000 in
theorem s_6T (p h b vk : Value) (P H : List ByteArray) (B : List Bool) (lo hi n : Nat) (k : Nat) (T : ByteArray) (w : World) (d : DskV w lo hi p h b P H B) (hhi : hi ≤ w.heap.size) (hP : P.length = n) (hH : H.length = n) (hB : B.length = n) (hn : 0 < n ∧ n ≤ 24) (kv : ∀ w', Chg lo hi w w' → Rd w' vk ([] : List Int)) (hk : k < n) (hT : ¬ T = ⟨#[]⟩) :
    Calls Tryz.prog 89 #[.agg #[p, h, b], .agg #[.int .i64 6, .int .i64 (k : Int), .string T, vk]] w fun e w' => e = .returned (.tuple #[.agg #[p, h, b], .bool false]) ∧ (false = true → DskV w' lo hi p h b P H B) ∧ Chg lo hi w w' := by
  obtain ⟨gp, cp, gh, ch, gb, cb, rfl, rfl, rfl, n1, n2, n3, ⟨t1, t2, t3⟩, _⟩ := d.blocks hP hH hB hn.1
  have KV := hide kv
  obtain ⟨av, cv, ev', mv, _⟩ := (kv w (Chg.refl _ _ _)).sl
  have ev : vk = .slice av 0 cv := ev'
  clear ev'
  subst ev
  obtain ⟨F0, CF0, W0, E0, C0, X0, Y0, Z0, D0, KV0, s0⟩ := s_pro w lo hi #[.slice (some ⟨gp, 0, none⟩) n cp, .slice (some ⟨gh, 0, none⟩) n ch, .slice (some ⟨gb, 0, none⟩) n cb] #[.int .i64 6, .int .i64 (k : Int), .string T, .slice av 0 cv] kv d
  have LP := hide hP
  have LH := hide hH
  have LB := hide hB
  clear kv d hP hH hB
  obtain ⟨tt1, tt2⟩ := toList_ne hT
  clear hT
  have hk0 : (0 : Int) ≤ (k : Int) := by omega
  have hk' : (k : Int) < (n : Int) := by omega
  go_enter Tryz.func89, Tryz.ntmps89
  go_wp2_with fail
  rw [E0.out]
  refine (l7There_yes _ _ _ _ _ _ _ hk0 hk' (by omega)).mono ?_
  rintro e u1 ⟨rfl, q⟩
  have X1 := hide (X0.out.below q)
  have Y1 := hide (Y0.out.below q)
  have Z1 := hide (Z0.out.below q)
  have D1 := hide (D0.out.below q)
  have C1 := hide (C0.out.trans (Chg.ofBelow q))
  have s1 := q.size
  clear q X0 Y0 Z0 D0 C0 KV0 E0
  obtain ⟨y0, y1, y2, y3⟩ := Y1.out.c4
  obtain ⟨c0, c1, c2⟩ := X1.out.c3
  go_wp2
  go_quiet (fail)
  have q := below_drewN (Below.refl u1.heap.size u1) nq
  have X2 := hide (X1.out.below q)
  have Y2 := hide (Y1.out.below q)
  have Z2 := hide (Z1.out.below q)
  have D2 := hide (D1.out.below q)
  have C2 := hide (C1.out.trans (Chg.ofBelow q))
  have s2 := q.size
  generalize u1.drewN nq = u2 at *
  clear q X1 Y1 Z1 D1 C1
  obtain ⟨y0, y1, y2, y3⟩ := Y2.out.c4
  obtain ⟨c0, c1, c2⟩ := X2.out.c3
  obtain ⟨r0, r1, r2⟩ := Z2.out.c3
  have f0 := Z2.out.frozen 0
  have f1 := Z2.out.frozen 1
  have f2 := Z2.out.frozen 2
  have XF := hide (Z2.out.store3 (.slice (some ⟨gp, 0, none⟩) n cp) (.slice (some ⟨gh, 0, none⟩) n ch) (.slice (some ⟨gb, 0, none⟩) n cb))
  have c6 := Chg.store3 (lo := w.heap.size + 1 + 1) (hi := w.heap.size + 1 + 1 + 1) u2 (w.heap.size + 1 + 1) (.slice (some ⟨gp, 0, none⟩) n cp) (.slice (some ⟨gh, 0, none⟩) n ch) (.slice (some ⟨gb, 0, none⟩) n cb) (Nat.le_refl _) (by omega)
  have CC := hide (chg_new C2.out c6 (by omega))
  clear c6
  go_wp2
  exact bodyPost_ret (res_dsk2 rfl _ _ (w.heap.size + 1 + 1) _ _ _ (0, 0) rfl XF.out) rfl ⟨rfl, fun h => by simp at h, CC.out⟩

set_option linter.unusedSimpArgs false in
set_option maxRecDepth 100000 in
set_option maxHeartbeats 1600000 in
theorem s_5 (p h b vk : Value) (P H : List ByteArray) (B : List Bool) (lo hi n : Nat) (k : Nat) (w : World) (d : DskV w lo hi p h b P H B) (hhi : hi ≤ w.heap.size) (hP : P.length = n) (hH : H.length = n) (hB : B.length = n) (hn : 0 < n ∧ n ≤ 24) (kv : ∀ w', Chg lo hi w w' → Rd w' vk ([] : List Int)) (hk : k < n) :
    Calls Tryz.prog 89 #[.agg #[p, h, b], .agg #[.int .i64 5, .int .i64 (k : Int), .string ⟨#[]⟩, vk]] w fun e w' => e = .returned (.tuple #[.agg #[p, h, b], .bool true]) ∧ (true = true → DskV w' lo hi p h b P (H.set k ⟨#[]⟩) (B.set k true)) ∧ Chg lo hi w w' := by
  obtain ⟨gp, cp, gh, ch, gb, cb, rfl, rfl, rfl, n1, n2, n3, ⟨t1, t2, t3⟩, _⟩ := d.blocks hP hH hB hn.1
  have KV := hide kv
  obtain ⟨av, cv, ev', mv, _⟩ := (kv w (Chg.refl _ _ _)).sl
  have ev : vk = .slice av 0 cv := ev'
  clear ev'
  subst ev
  obtain ⟨F0, CF0, W0, E0, C0, X0, Y0, Z0, D0, KV0, s0⟩ := s_pro w lo hi #[.slice (some ⟨gp, 0, none⟩) n cp, .slice (some ⟨gh, 0, none⟩) n ch, .slice (some ⟨gb, 0, none⟩) n cb] #[.int .i64 5, .int .i64 (k : Int), .string ⟨#[]⟩, .slice av 0 cv] kv d
  have LP := hide hP
  have LH := hide hH
  have LB := hide hB
  clear kv d hP hH hB
  have hk0 : (0 : Int) ≤ (k : Int) := by omega
  have hk' : (k : Int) < (n : Int) := by omega
  go_enter Tryz.func89, Tryz.ntmps89
  go_wp2_with fail
  rw [E0.out]
  refine (l7There_yes _ _ _ _ _ _ _ hk0 hk' (by omega)).mono ?_
  rintro e u1 ⟨rfl, q⟩
  have X1 := hide (X0.out.below q)
  have Y1 := hide (Y0.out.below q)
  have Z1 := hide (Z0.out.below q)
  have D1 := hide (D0.out.below q)
  have C1 := hide (C0.out.trans (Chg.ofBelow q))
  have s1 := q.size
  clear q X0 Y0 Z0 D0 C0 KV0 E0
  obtain ⟨y0, y1, y2, y3⟩ := Y1.out.c4
  obtain ⟨c0, c1, c2⟩ := X1.out.c3
  go_wp2
  go_quiet (fail)
  have q := below_drewN (Below.refl u1.heap.size u1) nq
  have X2 := hide (X1.out.below q)
  have Y2 := hide (Y1.out.below q)
  have Z2 := hide (Z1.out.below q)
  have D2 := hide (D1.out.below q)
  have C2 := hide (C1.out.trans (Chg.ofBelow q))
  have s2 := q.size
  generalize u1.drewN nq = u2 at *
  clear q X1 Y1 Z1 D1 C1
  obtain ⟨y0, y1, y2, y3⟩ := Y2.out.c4
  obtain ⟨q1a, q1b⟩ := (D2.out).cellB LB.out k hk
  obtain ⟨dp1, cp1⟩ := (D2.out).putB LB.out k true
  obtain ⟨x1a, x1b, x1c⟩ := (X2.out.chg (cp1) (.inr hhi)).c3
  obtain ⟨v1a, v1b, v1c, v1d⟩ := (Y2.out.chg (cp1) (.inr (by omega))).c4
  obtain ⟨q2a, q2b⟩ := (dp1).cellH LH.out k hk
  obtain ⟨dp2, cp2⟩ := (dp1).putH LH.out k ⟨#[]⟩ (Nat.zero_le _)
  obtain ⟨x2a, x2b, x2c⟩ := (X2.out.chg ((cp1).trans cp2) (.inr hhi)).c3
  obtain ⟨v2a, v2b, v2c, v2d⟩ := (Y2.out.chg ((cp1).trans cp2) (.inr (by omega))).c4
  have X9 := hide (X2.out.chg ((cp1).trans cp2) (.inr hhi))
  have Y9 := hide (Y2.out.chg ((cp1).trans cp2) (.inr (by omega)))
  have Z9 := hide (Z2.out.chg ((cp1).trans cp2) (.inr (by omega)))
  have D9 := hide dp2
  have C9 := hide (C2.out.trans ((cp1).trans cp2))
  have s9 := ((cp1).trans cp2).size
  clear dp1 cp1 dp2 cp2
  obtain ⟨c0, c1, c2⟩ := X9.out.c3
  obtain ⟨r0, r1, r2⟩ := Z9.out.c3
  have f0 := Z9.out.frozen 0
  have f1 := Z9.out.frozen 1
  have f2 := Z9.out.frozen 2
  have XF := hide (Z9.out.store3 (.slice (some ⟨gp, 0, none⟩) n cp) (.slice (some ⟨gh, 0, none⟩) n ch) (.slice (some ⟨gb, 0, none⟩) n cb))
  have c6 := Chg.store3 (lo := w.heap.size + 1 + 1) (hi := w.heap.size + 1 + 1 + 1) ((u2.setCell ⟨gb, k, none⟩ (.bool true)).setCell ⟨gh, k, none⟩ (.string ⟨#[]⟩)) (w.heap.size + 1 + 1) (.slice (some ⟨gp, 0, none⟩) n cp) (.slice (some ⟨gh, 0, none⟩) n ch) (.slice (some ⟨gb, 0, none⟩) n cb) (Nat.le_refl _) (by omega)
  have CC := hide (chg_new C9.out c6 (by omega))
  have DD := hide (D9.out.chg c6 (.inl (by omega)))
  clear c6
  clear c0 c1 c2
  obtain ⟨c0, c1, c2⟩ := X2.out.c3
  have m1 : gb ≠ w.heap.size := by omega
  have m2 : gh ≠ w.heap.size := by omega
  have m3 : gp ≠ w.heap.size := by omega
  have m4 : gb ≠ w.heap.size + 1 := by omega
  have m5 : gh ≠ w.heap.size + 1 := by omega
  have m6 : gp ≠ w.heap.size + 1 := by omega
  have m7 : gb ≠ w.heap.size + 1 + 1 := by omega
  have m8 : gh ≠ w.heap.size + 1 + 1 := by omega
  have m9 : gp ≠ w.heap.size + 1 + 1 := by omega
  go_wp2
  exact bodyPost_ret (res_dsk2 rfl _ _ (w.heap.size + 1 + 1) _ _ _ (0, 0) rfl XF.out) rfl ⟨rfl, by first | exact fun _ => DD.out | exact DD.out, CC.out⟩

set_option linter.unusedSimpArgs false in
set_option maxRecDepth 100000 in
set_option maxHeartbeats 1600000 in
theorem s_6a (p h b vk : Value) (P H : List ByteArray) (B : List Bool) (lo hi n : Nat) (k : Nat) (w : World) (d : DskV w lo hi p h b P H B) (hhi : hi ≤ w.heap.size) (hP : P.length = n) (hH : H.length = n) (hB : B.length = n) (hn : 0 < n ∧ n ≤ 24) (kv : ∀ w', Chg lo hi w w' → Rd w' vk ([] : List Int)) (hk : k < n) (hBk : B.getD k false = false) :
    Calls Tryz.prog 89 #[.agg #[p, h, b], .agg #[.int .i64 6, .int .i64 (k : Int), .string ⟨#[]⟩, vk]] w fun e w' => e = .returned (.tuple #[.agg #[p, h, b], .bool false]) ∧ (false = true → DskV w' lo hi p h b P H B) ∧ Chg lo hi w w' := by
  obtain ⟨gp, cp, gh, ch, gb, cb, rfl, rfl, rfl, n1, n2, n3, ⟨t1, t2, t3⟩, _⟩ := d.blocks hP hH hB hn.1
  have KV := hide kv
  obtain ⟨av, cv, ev', mv, _⟩ := (kv w (Chg.refl _ _ _)).sl
  have ev : vk = .slice av 0 cv := ev'
  clear ev'
  subst ev
  obtain ⟨F0, CF0, W0, E0, C0, X0, Y0, Z0, D0, KV0, s0⟩ := s_pro w lo hi #[.slice (some ⟨gp, 0, none⟩) n cp, .slice (some ⟨gh, 0, none⟩) n ch, .slice (some ⟨gb, 0, none⟩) n cb] #[.int .i64 6, .int .i64 (k : Int), .string ⟨#[]⟩, .slice av 0 cv] kv d
  have LP := hide hP
  have LH := hide hH
  have LB := hide hB
  clear kv d hP hH hB
  have hk0 : (0 : Int) ≤ (k : Int) := by omega
  have hk' : (k : Int) < (n : Int) := by omega
  go_enter Tryz.func89, Tryz.ntmps89
  go_wp2_with fail
  rw [E0.out]
  refine (l7There_yes _ _ _ _ _ _ _ hk0 hk' (by omega)).mono ?_
  rintro e u1 ⟨rfl, q⟩
  have X1 := hide (X0.out.below q)
  have Y1 := hide (Y0.out.below q)
  have Z1 := hide (Z0.out.below q)
  have D1 := hide (D0.out.below q)
  have C1 := hide (C0.out.trans (Chg.ofBelow q))
  have s1 := q.size
  clear q X0 Y0 Z0 D0 C0 KV0 E0
  obtain ⟨y0, y1, y2, y3⟩ := Y1.out.c4
  obtain ⟨c0, c1, c2⟩ := X1.out.c3
  go_wp2
  go_quiet (fail)
  have q := below_drewN (Below.refl u1.heap.size u1) nq
  have X2 := hide (X1.out.below q)
  have Y2 := hide (Y1.out.below q)
  have Z2 := hide (Z1.out.below q)
  have D2 := hide (D1.out.below q)
  have C2 := hide (C1.out.trans (Chg.ofBelow q))
  have s2 := q.size
  generalize u1.drewN nq = u2 at *
  clear q X1 Y1 Z1 D1 C1
  obtain ⟨hb1, hb2⟩ := D2.out.cellB LB.out k hk
  rw [hBk] at hb1
  obtain ⟨y0, y1, y2, y3⟩ := Y2.out.c4
  obtain ⟨c0, c1, c2⟩ := X2.out.c3
  obtain ⟨r0, r1, r2⟩ := Z2.out.c3
  have f0 := Z2.out.frozen 0
  have f1 := Z2.out.frozen 1
  have f2 := Z2.out.frozen 2
  have XF := hide (Z2.out.store3 (.slice (some ⟨gp, 0, none⟩) n cp) (.slice (some ⟨gh, 0, none⟩) n ch) (.slice (some ⟨gb, 0, none⟩) n cb))
  have c6 := Chg.store3 (lo := w.heap.size + 1 + 1) (hi := w.heap.size + 1 + 1 + 1) u2 (w.heap.size + 1 + 1) (.slice (some ⟨gp, 0, none⟩) n cp) (.slice (some ⟨gh, 0, none⟩) n ch) (.slice (some ⟨gb, 0, none⟩) n cb) (Nat.le_refl _) (by omega)
  have CC := hide (chg_new C2.out c6 (by omega))
  clear c6
  go_wp2
  exact bodyPost_ret (res_dsk2 rfl _ _ (w.heap.size + 1 + 1) _ _ _ (0, 0) rfl XF.out) rfl ⟨rfl, fun h => by simp at h, CC.out⟩

set_option linter.unusedSimpArgs false in
set_option maxRecDepth 100000 in
set_option maxHeartbeats 1600000 in
theorem s_6 (p h b vk : Value) (P H : List ByteArray) (B : List Bool) (lo hi n : Nat) (k : Nat) (w : World) (d : DskV w lo hi p h b P H B) (hhi : hi ≤ w.heap.size) (hP : P.length = n) (hH : H.length = n) (hB : B.length = n) (hn : 0 < n ∧ n ≤ 24) (kv : ∀ w', Chg lo hi w w' → Rd w' vk ([] : List Int)) (hk : k < n) (hBk : B.getD k false = true) :
    Calls Tryz.prog 89 #[.agg #[p, h, b], .agg #[.int .i64 6, .int .i64 (k : Int), .string ⟨#[]⟩, vk]] w fun e w' => e = .returned (.tuple #[.agg #[p, h, b], .bool true]) ∧ (true = true → DskV w' lo hi p h b (P.set k ⟨#[]⟩) H (B.set k false)) ∧ Chg lo hi w w' := by
  obtain ⟨gp, cp, gh, ch, gb, cb, rfl, rfl, rfl, n1, n2, n3, ⟨t1, t2, t3⟩, _⟩ := d.blocks hP hH hB hn.1
  have KV := hide kv
  obtain ⟨av, cv, ev', mv, _⟩ := (kv w (Chg.refl _ _ _)).sl
  have ev : vk = .slice av 0 cv := ev'
  clear ev'
  subst ev
  obtain ⟨F0, CF0, W0, E0, C0, X0, Y0, Z0, D0, KV0, s0⟩ := s_pro w lo hi #[.slice (some ⟨gp, 0, none⟩) n cp, .slice (some ⟨gh, 0, none⟩) n ch, .slice (some ⟨gb, 0, none⟩) n cb] #[.int .i64 6, .int .i64 (k : Int), .string ⟨#[]⟩, .slice av 0 cv] kv d
  have LP := hide hP
  have LH := hide hH
  have LB := hide hB
  clear kv d hP hH hB
  have hk0 : (0 : Int) ≤ (k : Int) := by omega
  have hk' : (k : Int) < (n : Int) := by omega
  go_enter Tryz.func89, Tryz.ntmps89
  go_wp2_with fail
  rw [E0.out]
  refine (l7There_yes _ _ _ _ _ _ _ hk0 hk' (by omega)).mono ?_
  rintro e u1 ⟨rfl, q⟩
  have X1 := hide (X0.out.below q)
  have Y1 := hide (Y0.out.below q)
  have Z1 := hide (Z0.out.below q)
  have D1 := hide (D0.out.below q)
  have C1 := hide (C0.out.trans (Chg.ofBelow q))
  have s1 := q.size
  clear q X0 Y0 Z0 D0 C0 KV0 E0
  obtain ⟨y0, y1, y2, y3⟩ := Y1.out.c4
  obtain ⟨c0, c1, c2⟩ := X1.out.c3
  go_wp2
  go_quiet (fail)
  have q := below_drewN (Below.refl u1.heap.size u1) nq
  have X2 := hide (X1.out.below q)
  have Y2 := hide (Y1.out.below q)
  have Z2 := hide (Z1.out.below q)
  have D2 := hide (D1.out.below q)
  have C2 := hide (C1.out.trans (Chg.ofBelow q))
  have s2 := q.size
  generalize u1.drewN nq = u2 at *
  clear q X1 Y1 Z1 D1 C1
  obtain ⟨y0, y1, y2, y3⟩ := Y2.out.c4
  obtain ⟨q1a, q1b⟩ := (D2.out).cellB LB.out k hk
  rw [hBk] at q1a
  obtain ⟨dp1, cp1⟩ := (D2.out).putB LB.out k false
  obtain ⟨x1a, x1b, x1c⟩ := (X2.out.chg (cp1) (.inr hhi)).c3
  obtain ⟨v1a, v1b, v1c, v1d⟩ := (Y2.out.chg (cp1) (.inr (by omega))).c4
  obtain ⟨q2a, q2b⟩ := (dp1).cellP LP.out k hk
  obtain ⟨dp2, cp2⟩ := (dp1).putP LP.out k ⟨#[]⟩ (Nat.zero_le _)
  obtain ⟨x2a, x2b, x2c⟩ := (X2.out.chg ((cp1).trans cp2) (.inr hhi)).c3
  obtain ⟨v2a, v2b, v2c, v2d⟩ := (Y2.out.chg ((cp1).trans cp2) (.inr (by omega))).c4
  have X9 := hide (X2.out.chg ((cp1).trans cp2) (.inr hhi))
  have Y9 := hide (Y2.out.chg ((cp1).trans cp2) (.inr (by omega)))
  have Z9 := hide (Z2.out.chg ((cp1).trans cp2) (.inr (by omega)))
  have D9 := hide dp2
  have C9 := hide (C2.out.trans ((cp1).trans cp2))
  have s9 := ((cp1).trans cp2).size
  clear dp1 cp1 dp2 cp2
  obtain ⟨c0, c1, c2⟩ := X9.out.c3
  obtain ⟨r0, r1, r2⟩ := Z9.out.c3
  have f0 := Z9.out.frozen 0
  have f1 := Z9.out.frozen 1
  have f2 := Z9.out.frozen 2
  have XF := hide (Z9.out.store3 (.slice (some ⟨gp, 0, none⟩) n cp) (.slice (some ⟨gh, 0, none⟩) n ch) (.slice (some ⟨gb, 0, none⟩) n cb))
  have c6 := Chg.store3 (lo := w.heap.size + 1 + 1) (hi := w.heap.size + 1 + 1 + 1) ((u2.setCell ⟨gb, k, none⟩ (.bool false)).setCell ⟨gp, k, none⟩ (.string ⟨#[]⟩)) (w.heap.size + 1 + 1) (.slice (some ⟨gp, 0, none⟩) n cp) (.slice (some ⟨gh, 0, none⟩) n ch) (.slice (some ⟨gb, 0, none⟩) n cb) (Nat.le_refl _) (by omega)
  have CC := hide (chg_new C9.out c6 (by omega))
  have DD := hide (D9.out.chg c6 (.inl (by omega)))
  clear c6
  clear c0 c1 c2
  obtain ⟨c0, c1, c2⟩ := X2.out.c3
  have m1 : gb ≠ w.heap.size := by omega
  have m2 : gh ≠ w.heap.size := by omega
  have m3 : gp ≠ w.heap.size := by omega
  have m4 : gb ≠ w.heap.size + 1 := by omega
  have m5 : gh ≠ w.heap.size + 1 := by omega
  have m6 : gp ≠ w.heap.size + 1 := by omega
  have m7 : gb ≠ w.heap.size + 1 + 1 := by omega
  have m8 : gh ≠ w.heap.size + 1 + 1 := by omega
  have m9 : gp ≠ w.heap.size + 1 + 1 := by omega
  go_wp2
  exact bodyPost_ret (res_dsk2 rfl _ _ (w.heap.size + 1 + 1) _ _ _ (0, 0) rfl XF.out) rfl ⟨rfl, by first | exact fun _ => DD.out | exact DD.out, CC.out⟩

set_option linter.unusedSimpArgs false in
set_option maxRecDepth 100000 in
set_option maxHeartbeats 1600000 in
theorem s_4a (p h b vk : Value) (P H : List ByteArray) (B : List Bool) (lo hi n : Nat) (k : Nat) (T : ByteArray) (w : World) (d : DskV w lo hi p h b P H B) (hhi : hi ≤ w.heap.size) (hP : P.length = n) (hH : H.length = n) (hB : B.length = n) (hn : 0 < n ∧ n ≤ 24) (kv : ∀ w', Chg lo hi w w' → Rd w' vk ([] : List Int)) (hk : k < n) (hz : ¬ H.getD k ⟨#[]⟩ = ⟨#[]⟩) :
    Calls Tryz.prog 89 #[.agg #[p, h, b], .agg #[.int .i64 4, .int .i64 (k : Int), .string T, vk]] w fun e w' => e = .returned (.tuple #[.agg #[p, h, b], .bool false]) ∧ (false = true → DskV w' lo hi p h b P H B) ∧ Chg lo hi w w' := by
  obtain ⟨gp, cp, gh, ch, gb, cb, rfl, rfl, rfl, n1, n2, n3, ⟨t1, t2, t3⟩, _⟩ := d.blocks hP hH hB hn.1
  have KV := hide kv
  obtain ⟨av, cv, ev', mv, _⟩ := (kv w (Chg.refl _ _ _)).sl
  have ev : vk = .slice av 0 cv := ev'
  clear ev'
  subst ev
  obtain ⟨F0, CF0, W0, E0, C0, X0, Y0, Z0, D0, KV0, s0⟩ := s_pro w lo hi #[.slice (some ⟨gp, 0, none⟩) n cp, .slice (some ⟨gh, 0, none⟩) n ch, .slice (some ⟨gb, 0, none⟩) n cb] #[.int .i64 4, .int .i64 (k : Int), .string T, .slice av 0 cv] kv d
  have LP := hide hP
  have LH := hide hH
  have LB := hide hB
  clear kv d hP hH hB
  obtain ⟨zz1, zz2⟩ := toList_ne hz
  clear hz
  have hk0 : (0 : Int) ≤ (k : Int) := by omega
  have hk' : (k : Int) < (n : Int) := by omega
  go_enter Tryz.func89, Tryz.ntmps89
  go_wp2_with fail
  rw [E0.out]
  refine (l7There_yes _ _ _ _ _ _ _ hk0 hk' (by omega)).mono ?_
  rintro e u1 ⟨rfl, q⟩
  have X1 := hide (X0.out.below q)
  have Y1 := hide (Y0.out.below q)
  have Z1 := hide (Z0.out.below q)
  have D1 := hide (D0.out.below q)
  have C1 := hide (C0.out.trans (Chg.ofBelow q))
  have s1 := q.size
  clear q X0 Y0 Z0 D0 C0 KV0 E0
  obtain ⟨hp1, _⟩ := D1.out.cellP LP.out k hk
  obtain ⟨hh1, _⟩ := D1.out.cellH LH.out k hk
  obtain ⟨y0, y1, y2, y3⟩ := Y1.out.c4
  obtain ⟨c0, c1, c2⟩ := X1.out.c3
  generalize H.getD k ⟨#[]⟩ = z at *
  generalize P.getD k ⟨#[]⟩ = s at *
  go_wp2
  go_quiet (fail)
  have q := below_drewN (Below.refl u1.heap.size u1) nq
  have X2 := hide (X1.out.below q)
  have Y2 := hide (Y1.out.below q)
  have Z2 := hide (Z1.out.below q)
  have D2 := hide (D1.out.below q)
  have C2 := hide (C1.out.trans (Chg.ofBelow q))
  have s2 := q.size
  generalize u1.drewN nq = u2 at *
  clear q X1 Y1 Z1 D1 C1 hp1 hh1 y0 y1 y2 y3 c0 c1 c2
  obtain ⟨y0, y1, y2, y3⟩ := Y2.out.c4
  obtain ⟨c0, c1, c2⟩ := X2.out.c3
  obtain ⟨r0, r1, r2⟩ := Z2.out.c3
  have f0 := Z2.out.frozen 0
  have f1 := Z2.out.frozen 1
  have f2 := Z2.out.frozen 2
  have XF := hide (Z2.out.store3 (.slice (some ⟨gp, 0, none⟩) n cp) (.slice (some ⟨gh, 0, none⟩) n ch) (.slice (some ⟨gb, 0, none⟩) n cb))
  have c6 := Chg.store3 (lo := w.heap.size + 1 + 1) (hi := w.heap.size + 1 + 1 + 1) u2 (w.heap.size + 1 + 1) (.slice (some ⟨gp, 0, none⟩) n cp) (.slice (some ⟨gh, 0, none⟩) n ch) (.slice (some ⟨gb, 0, none⟩) n cb) (Nat.le_refl _) (by omega)
  have CC := hide (chg_new C2.out c6 (by omega))
  clear c6
  go_wp2
  exact bodyPost_ret (res_dsk2 rfl _ _ (w.heap.size + 1 + 1) _ _ _ (0, 0) rfl XF.out) rfl ⟨rfl, fun h => by simp at h, CC.out⟩

set_option linter.unusedSimpArgs false in
set_option maxRecDepth 100000 in
set_option maxHeartbeats 1600000 in
theorem s_4b (p h b vk : Value) (P H : List ByteArray) (B : List Bool) (lo hi n : Nat) (k : Nat) (T : ByteArray) (w : World) (d : DskV w lo hi p h b P H B) (hhi : hi ≤ w.heap.size) (hP : P.length = n) (hH : H.length = n) (hB : B.length = n) (hn : 0 < n ∧ n ≤ 24) (kv : ∀ w', Chg lo hi w w' → Rd w' vk ([] : List Int)) (hk : k < n) (hz : H.getD k ⟨#[]⟩ = ⟨#[]⟩) (hs : P.getD k ⟨#[]⟩ = ⟨#[]⟩) :
    Calls Tryz.prog 89 #[.agg #[p, h, b], .agg #[.int .i64 4, .int .i64 (k : Int), .string T, vk]] w fun e w' => e = .returned (.tuple #[.agg #[p, h, b], .bool false]) ∧ (false = true → DskV w' lo hi p h b P H B) ∧ Chg lo hi w w' := by
  obtain ⟨gp, cp, gh, ch, gb, cb, rfl, rfl, rfl, n1, n2, n3, ⟨t1, t2, t3⟩, _⟩ := d.blocks hP hH hB hn.1
  have KV := hide kv
  obtain ⟨av, cv, ev', mv, _⟩ := (kv w (Chg.refl _ _ _)).sl
  have ev : vk = .slice av 0 cv := ev'
  clear ev'
  subst ev
  obtain ⟨F0, CF0, W0, E0, C0, X0, Y0, Z0, D0, KV0, s0⟩ := s_pro w lo hi #[.slice (some ⟨gp, 0, none⟩) n cp, .slice (some ⟨gh, 0, none⟩) n ch, .slice (some ⟨gb, 0, none⟩) n cb] #[.int .i64 4, .int .i64 (k : Int), .string T, .slice av 0 cv] kv d
  have LP := hide hP
  have LH := hide hH
  have LB := hide hB
  clear kv d hP hH hB
  have hk0 : (0 : Int) ≤ (k : Int) := by omega
  have hk' : (k : Int) < (n : Int) := by omega
  go_enter Tryz.func89, Tryz.ntmps89
  go_wp2_with fail
  rw [E0.out]
  refine (l7There_yes _ _ _ _ _ _ _ hk0 hk' (by omega)).mono ?_
  rintro e u1 ⟨rfl, q⟩
  have X1 := hide (X0.out.below q)
  have Y1 := hide (Y0.out.below q)
  have Z1 := hide (Z0.out.below q)
  have D1 := hide (D0.out.below q)
  have C1 := hide (C0.out.trans (Chg.ofBelow q))
  have s1 := q.size
  clear q X0 Y0 Z0 D0 C0 KV0 E0
  obtain ⟨hp1, _⟩ := D1.out.cellP LP.out k hk
  obtain ⟨hh1, _⟩ := D1.out.cellH LH.out k hk
  obtain ⟨y0, y1, y2, y3⟩ := Y1.out.c4
  obtain ⟨c0, c1, c2⟩ := X1.out.c3
  rw [hz] at hh1
  rw [hs] at hp1
  go_wp2
  go_quiet (fail)
  have q := below_drewN (Below.refl u1.heap.size u1) nq
  have X2 := hide (X1.out.below q)
  have Y2 := hide (Y1.out.below q)
  have Z2 := hide (Z1.out.below q)
  have D2 := hide (D1.out.below q)
  have C2 := hide (C1.out.trans (Chg.ofBelow q))
  have s2 := q.size
  generalize u1.drewN nq = u2 at *
  clear q X1 Y1 Z1 D1 C1 hp1 hh1 y0 y1 y2 y3 c0 c1 c2
  obtain ⟨y0, y1, y2, y3⟩ := Y2.out.c4
  obtain ⟨c0, c1, c2⟩ := X2.out.c3
  obtain ⟨r0, r1, r2⟩ := Z2.out.c3
  have f0 := Z2.out.frozen 0
  have f1 := Z2.out.frozen 1
  have f2 := Z2.out.frozen 2
  have XF := hide (Z2.out.store3 (.slice (some ⟨gp, 0, none⟩) n cp) (.slice (some ⟨gh, 0, none⟩) n ch) (.slice (some ⟨gb, 0, none⟩) n cb))
  have c6 := Chg.store3 (lo := w.heap.size + 1 + 1) (hi := w.heap.size + 1 + 1 + 1) u2 (w.heap.size + 1 + 1) (.slice (some ⟨gp, 0, none⟩) n cp) (.slice (some ⟨gh, 0, none⟩) n ch) (.slice (some ⟨gb, 0, none⟩) n cb) (Nat.le_refl _) (by omega)
  have CC := hide (chg_new C2.out c6 (by omega))
  clear c6
  go_wp2
  exact bodyPost_ret (res_dsk2 rfl _ _ (w.heap.size + 1 + 1) _ _ _ (0, 0) rfl XF.out) rfl ⟨rfl, fun h => by simp at h, CC.out⟩

set_option linter.unusedSimpArgs false in
set_option maxRecDepth 100000 in
set_option maxHeartbeats 1600000 in
theorem s_4c (p h b vk : Value) (P H : List ByteArray) (B : List Bool) (lo hi n : Nat) (k : Nat) (T : ByteArray) (w : World) (d : DskV w lo hi p h b P H B) (hhi : hi ≤ w.heap.size) (hP : P.length = n) (hH : H.length = n) (hB : B.length = n) (hn : 0 < n ∧ n ≤ 24) (kv : ∀ w', Chg lo hi w w' → Rd w' vk ([] : List Int)) (hk : k < n) (hz : H.getD k ⟨#[]⟩ = ⟨#[]⟩) (hs : ¬ P.getD k ⟨#[]⟩ = ⟨#[]⟩) (hT : T.size ≤ 1048576) (h28 : (P.getD k ⟨#[]⟩).size ≤ 28) (h1 : ¬ (1 ≤ T.size ∧ T.size ≤ (P.getD k ⟨#[]⟩).size)) :
    Calls Tryz.prog 89 #[.agg #[p, h, b], .agg #[.int .i64 4, .int .i64 (k : Int), .string T, vk]] w fun e w' => e = .returned (.tuple #[.agg #[p, h, b], .bool false]) ∧ (false = true → DskV w' lo hi p h b P H B) ∧ Chg lo hi w w' := by
  obtain ⟨gp, cp, gh, ch, gb, cb, rfl, rfl, rfl, n1, n2, n3, ⟨t1, t2, t3⟩, _⟩ := d.blocks hP hH hB hn.1
  have KV := hide kv
  obtain ⟨av, cv, ev', mv, _⟩ := (kv w (Chg.refl _ _ _)).sl
  have ev : vk = .slice av 0 cv := ev'
  clear ev'
  subst ev
  obtain ⟨F0, CF0, W0, E0, C0, X0, Y0, Z0, D0, KV0, s0⟩ := s_pro w lo hi #[.slice (some ⟨gp, 0, none⟩) n cp, .slice (some ⟨gh, 0, none⟩) n ch, .slice (some ⟨gb, 0, none⟩) n cb] #[.int .i64 4, .int .i64 (k : Int), .string T, .slice av 0 cv] kv d
  have LP := hide hP
  have LH := hide hH
  have LB := hide hB
  clear kv d hP hH hB
  obtain ⟨ss1, ss2⟩ := toList_ne hs
  clear hs
  have hk0 : (0 : Int) ≤ (k : Int) := by omega
  have hk' : (k : Int) < (n : Int) := by omega
  go_enter Tryz.func89, Tryz.ntmps89
  go_wp2_with fail
  rw [E0.out]
  refine (l7There_yes _ _ _ _ _ _ _ hk0 hk' (by omega)).mono ?_
  rintro e u1 ⟨rfl, q⟩
  have X1 := hide (X0.out.below q)
  have Y1 := hide (Y0.out.below q)
  have Z1 := hide (Z0.out.below q)
  have D1 := hide (D0.out.below q)
  have C1 := hide (C0.out.trans (Chg.ofBelow q))
  have s1 := q.size
  clear q X0 Y0 Z0 D0 C0 KV0 E0
  obtain ⟨hp1, _⟩ := D1.out.cellP LP.out k hk
  obtain ⟨hh1, _⟩ := D1.out.cellH LH.out k hk
  obtain ⟨y0, y1, y2, y3⟩ := Y1.out.c4
  obtain ⟨c0, c1, c2⟩ := X1.out.c3
  rw [hz] at hh1
  generalize P.getD k ⟨#[]⟩ = s at *
  have CF : Hid (∀ u, Calls Tryz.prog 57 #[.int .i64 (T.size : Int), .int .i64 1, .int .i64 (s.size : Int)] u fun e w' => e = .returned (.bool false) ∧ u = w') := fun u => l1In_no _ _ _ _ (by omega)
  go_wp2
  go_quiet ((go_at_call 57; exact quiet_in (CF.out _)))
  have q := below_drewN (Below.refl u1.heap.size u1) nq
  have X2 := hide (X1.out.below q)
  have Y2 := hide (Y1.out.below q)
  have Z2 := hide (Z1.out.below q)
  have D2 := hide (D1.out.below q)
  have C2 := hide (C1.out.trans (Chg.ofBelow q))
  have s2 := q.size
  generalize u1.drewN nq = u2 at *
  clear q X1 Y1 Z1 D1 C1 hp1 hh1 y0 y1 y2 y3 c0 c1 c2
  obtain ⟨y0, y1, y2, y3⟩ := Y2.out.c4
  obtain ⟨c0, c1, c2⟩ := X2.out.c3
  obtain ⟨r0, r1, r2⟩ := Z2.out.c3
  have f0 := Z2.out.frozen 0
  have f1 := Z2.out.frozen 1
  have f2 := Z2.out.frozen 2
  have XF := hide (Z2.out.store3 (.slice (some ⟨gp, 0, none⟩) n cp) (.slice (some ⟨gh, 0, none⟩) n ch) (.slice (some ⟨gb, 0, none⟩) n cb))
  have c6 := Chg.store3 (lo := w.heap.size + 1 + 1) (hi := w.heap.size + 1 + 1 + 1) u2 (w.heap.size + 1 + 1) (.slice (some ⟨gp, 0, none⟩) n cp) (.slice (some ⟨gh, 0, none⟩) n ch) (.slice (some ⟨gb, 0, none⟩) n cb) (Nat.le_refl _) (by omega)
  have CC := hide (chg_new C2.out c6 (by omega))
  clear c6
  go_wp2
  exact bodyPost_ret (res_dsk2 rfl _ _ (w.heap.size + 1 + 1) _ _ _ (0, 0) rfl XF.out) rfl ⟨rfl, fun h => by simp at h, CC.out⟩

set_option linter.unusedSimpArgs false in
set_option maxRecDepth 100000 in
set_option maxHeartbeats 1600000 in
theorem s_4 (p h b vk : Value) (P H : List ByteArray) (B : List Bool) (lo hi n : Nat) (k : Nat) (T : ByteArray) (w : World) (d : DskV w lo hi p h b P H B) (hhi : hi ≤ w.heap.size) (hP : P.length = n) (hH : H.length = n) (hB : B.length = n) (hn : 0 < n ∧ n ≤ 24) (kv : ∀ w', Chg lo hi w w' → Rd w' vk ([] : List Int)) (hk : k < n) (hz : H.getD k ⟨#[]⟩ = ⟨#[]⟩) (h28 : (P.getD k ⟨#[]⟩).size ≤ 28) (h1 : 1 ≤ T.size) (h2 : T.size ≤ (P.getD k ⟨#[]⟩).size) :
    Calls Tryz.prog 89 #[.agg #[p, h, b], .agg #[.int .i64 4, .int .i64 (k : Int), .string T, vk]] w fun e w' => e = .returned (.tuple #[.agg #[p, h, b], .bool true]) ∧ (true = true → DskV w' lo hi p h b (P.set k (rotT (P.getD k ⟨#[]⟩) T)) H B) ∧ Chg lo hi w w' := by
  obtain ⟨gp, cp, gh, ch, gb, cb, rfl, rfl, rfl, n1, n2, n3, ⟨t1, t2, t3⟩, _⟩ := d.blocks hP hH hB hn.1
  have KV := hide kv
  obtain ⟨av, cv, ev', mv, _⟩ := (kv w (Chg.refl _ _ _)).sl
  have ev : vk = .slice av 0 cv := ev'
  clear ev'
  subst ev
  obtain ⟨F0, CF0, W0, E0, C0, X0, Y0, Z0, D0, KV0, s0⟩ := s_pro w lo hi #[.slice (some ⟨gp, 0, none⟩) n cp, .slice (some ⟨gh, 0, none⟩) n ch, .slice (some ⟨gb, 0, none⟩) n cb] #[.int .i64 4, .int .i64 (k : Int), .string T, .slice av 0 cv] kv d
  have LP := hide hP
  have LH := hide hH
  have LB := hide hB
  clear kv d hP hH hB
  have hs : ¬ P.getD k ⟨#[]⟩ = ⟨#[]⟩ := fun e => by
    have : (P.getD k ⟨#[]⟩).size = 0 := by rw [e]; rfl
    omega
  obtain ⟨ss1, ss2⟩ := toList_ne hs
  clear hs
  have hk0 : (0 : Int) ≤ (k : Int) := by omega
  have hk' : (k : Int) < (n : Int) := by omega
  go_enter Tryz.func89, Tryz.ntmps89
  go_wp2_with fail
  rw [E0.out]
  refine (l7There_yes _ _ _ _ _ _ _ hk0 hk' (by omega)).mono ?_
  rintro e u1 ⟨rfl, q⟩
  have X1 := hide (X0.out.below q)
  have Y1 := hide (Y0.out.below q)
  have Z1 := hide (Z0.out.below q)
  have D1 := hide (D0.out.below q)
  have C1 := hide (C0.out.trans (Chg.ofBelow q))
  have s1 := q.size
  clear q X0 Y0 Z0 D0 C0 KV0 E0
  obtain ⟨hp1, _⟩ := D1.out.cellP LP.out k hk
  obtain ⟨hh1, _⟩ := D1.out.cellH LH.out k hk
  obtain ⟨y0, y1, y2, y3⟩ := Y1.out.c4
  obtain ⟨c0, c1, c2⟩ := X1.out.c3
  rw [hz] at hh1
  obtain ⟨s, es⟩ : ∃ s, s = P.getD k ⟨#[]⟩ := ⟨_, rfl⟩
  rw [← es] at hp1 h28 h2 ss1 ss2
  have ES := hide es
  clear es
  have CF : Hid (∀ u, Calls Tryz.prog 57 #[.int .i64 (T.size : Int), .int .i64 1, .int .i64 (s.size : Int)] u fun e w' => e = .returned (.bool true) ∧ u = w') := fun u => l1In_yes _ _ _ _ (by omega) (by omega)
  go_wp2
  go_quiet ((go_at_call 57; exact quiet_in (CF.out _)))
  have q := below_drewN (Below.refl u1.heap.size u1) nq
  have X2 := hide (X1.out.below q)
  have Y2 := hide (Y1.out.below q)
  have Z2 := hide (Z1.out.below q)
  have D2 := hide (D1.out.below q)
  have C2 := hide (C1.out.trans (Chg.ofBelow q))
  have s2 := q.size
  generalize u1.drewN nq = u2 at *
  clear q X1 Y1 Z1 D1 C1 hp1 hh1 y0 y1 y2 y3 c0 c1 c2
  obtain ⟨y0, y1, y2, y3⟩ := Y2.out.c4
  obtain ⟨c0, c1, c2⟩ := X2.out.c3
  go_wp2
  clear c0 c1 c2 y0 y1 y2 y3
  refine wp_region_noPanic ?_
  refine wp_region_held_drew (S := fun w' => (w'.cell? ⟨w.heap.size, 0, none⟩ = some (.slice (some ⟨gp, 0, none⟩) n cp) ∧ w'.cell? ⟨w.heap.size, 1, none⟩ = some (.slice (some ⟨gh, 0, none⟩) n ch) ∧ w'.cell? ⟨w.heap.size, 2, none⟩ = some (.slice (some ⟨gb, 0, none⟩) n cb)) ∧ (w'.cell? ⟨w.heap.size + 1, 0, none⟩ = some (.int .i64 4) ∧ w'.cell? ⟨w.heap.size + 1, 1, none⟩ = some (.int .i64 (k : Int)) ∧ w'.cell? ⟨w.heap.size + 1, 2, none⟩ = some (.string T) ∧ w'.cell? ⟨w.heap.size + 1, 3, none⟩ = some (.slice av 0 cv))) (by kernel_rfl) (⟨(X2.out.below (Below.refl _ _).drew).c3, (Y2.out.below (Below.refl _ _).drew).c4⟩) (fun hHeld => ?_)
  have q := (Below.refl u2.heap.size u2).drew
  have X3 := hide (X2.out.below q)
  have Y3 := hide (Y2.out.below q)
  have Z3 := hide (Z2.out.below q)
  have D3 := hide (D2.out.below q)
  have C3 := hide (C2.out.trans (Chg.ofBelow q))
  have s3 := q.size
  generalize u2.drew = u3 at *
  clear q X2 Y2 Z2 D2 C2
  refine wpAnyH_take (i := 0) (v := ?v3) rfl (by kernel_rfl) (by kernel_rfl) (by kernel_rfl) (fun _ _ _ h => h) (Or.inl ⟨by rfl, ?hy3⟩) (by assumption) ?rest3
  case hy3 => (intro w' hSw; dsimp only [List.getElem_toArray, List.getElem_cons_zero, List.getElem_cons_succ] at hSw ⊢; go_simp; try (with_reducible rfl))
  try simp only [Act.put, List.getElem_toArray, List.getElem_cons_zero, List.getElem_cons_succ, List.setIfInBounds_toArray, List.set_cons_zero, List.set_cons_succ]
  refine wpAnyH_take (i := 1) (v := ?v4) rfl (by kernel_rfl) (by kernel_rfl) (by kernel_rfl) (fun _ _ _ h => h) (Or.inl ⟨by rfl, ?hy4⟩) (by assumption) ?rest4
  case hy4 => (intro w' hSw; dsimp only [List.getElem_toArray, List.getElem_cons_zero, List.getElem_cons_succ] at hSw ⊢; go_simp; try (with_reducible rfl))
  try simp only [Act.put, List.getElem_toArray, List.getElem_cons_zero, List.getElem_cons_succ, List.setIfInBounds_toArray, List.set_cons_zero, List.set_cons_succ]
  refine wpAnyH_take (i := 2) (v := ?v5) rfl (by kernel_rfl) (by kernel_rfl) (by kernel_rfl) (fun _ _ _ h => h) (Or.inl ⟨by rfl, ?hy5⟩) (by assumption) ?rest5
  case hy5 => (intro w' hSw; dsimp only [List.getElem_toArray, List.getElem_cons_zero, List.getElem_cons_succ] at hSw ⊢; go_simp; try (with_reducible rfl))
  try simp only [Act.put, List.getElem_toArray, List.getElem_cons_zero, List.getElem_cons_succ, List.setIfInBounds_toArray, List.set_cons_zero, List.set_cons_succ]
  refine wpAnyH_take (i := 3) (v := ?v6) rfl (by kernel_rfl) (by kernel_rfl) (by kernel_rfl) (fun _ _ _ h => h) (Or.inl ⟨by rfl, ?hy6⟩) (by assumption) ?rest6
  case hy6 => (intro w' hSw; dsimp only [List.getElem_toArray, List.getElem_cons_zero, List.getElem_cons_succ] at hSw ⊢; go_simp; try (with_reducible rfl))
  try simp only [Act.put, List.getElem_toArray, List.getElem_cons_zero, List.getElem_cons_succ, List.setIfInBounds_toArray, List.set_cons_zero, List.set_cons_succ]
  refine wpAnyH_take (i := 4) (v := ?v7) rfl (by kernel_rfl) (by kernel_rfl) (by kernel_rfl) (fun _ _ _ h => h) (Or.inl ⟨by rfl, ?hy7⟩) (by assumption) ?rest7
  case hy7 => (intro w' hSw; dsimp only [List.getElem_toArray, List.getElem_cons_zero, List.getElem_cons_succ] at hSw ⊢; go_simp; try (with_reducible rfl))
  try simp only [Act.put, List.getElem_toArray, List.getElem_cons_zero, List.getElem_cons_succ, List.setIfInBounds_toArray, List.set_cons_zero, List.set_cons_succ]
  refine wpAnyH_take (i := 5) (v := ?v8) rfl (by kernel_rfl) (by kernel_rfl) (by kernel_rfl) (fun _ _ _ h => h) (Or.inl ⟨by rfl, ?hy8⟩) (by assumption) ?rest8
  case hy8 => (intro w' hSw; dsimp only [List.getElem_toArray, List.getElem_cons_zero, List.getElem_cons_succ] at hSw ⊢; go_simp; try (with_reducible rfl))
  try simp only [Act.put, List.getElem_toArray, List.getElem_cons_zero, List.getElem_cons_succ, List.setIfInBounds_toArray, List.set_cons_zero, List.set_cons_succ]
  refine wpAnyH_take (i := 6) (v := ?v9) rfl (by kernel_rfl) (by kernel_rfl) (by kernel_rfl) (fun _ _ _ h => h) (Or.inl ⟨by rfl, ?hy9⟩) (by assumption) ?rest9
  case hy9 => (intro w' hSw; dsimp only [List.getElem_toArray, List.getElem_cons_zero, List.getElem_cons_succ] at hSw ⊢; go_simp; try (with_reducible rfl))
  try simp only [Act.put, List.getElem_toArray, List.getElem_cons_zero, List.getElem_cons_succ, List.setIfInBounds_toArray, List.set_cons_zero, List.set_cons_succ]
  refine wpAnyH_take (i := 7) (v := ?v10) rfl (by kernel_rfl) (by kernel_rfl) (by kernel_rfl) (fun _ _ _ h => h) (Or.inl ⟨by rfl, ?hy10⟩) (by assumption) ?rest10
  case hy10 => (intro w' hSw; dsimp only [List.getElem_toArray, List.getElem_cons_zero, List.getElem_cons_succ] at hSw ⊢; go_simp; try (with_reducible rfl))
  try simp only [Act.put, List.getElem_toArray, List.getElem_cons_zero, List.getElem_cons_succ, List.setIfInBounds_toArray, List.set_cons_zero, List.set_cons_succ]
  refine wpAnyH_take (i := 8) (v := ?v11) rfl (by kernel_rfl) (by kernel_rfl) (by kernel_rfl) (fun _ _ _ h => h) (Or.inl ⟨by rfl, ?hy11⟩) (by assumption) ?rest11
  case hy11 => (intro w' hSw; dsimp only [List.getElem_toArray, List.getElem_cons_zero, List.getElem_cons_succ] at hSw ⊢; go_simp; try (with_reducible rfl))
  try simp only [Act.put, List.getElem_toArray, List.getElem_cons_zero, List.getElem_cons_succ, List.setIfInBounds_toArray, List.set_cons_zero, List.set_cons_succ]
  refine wpAnyH_take (i := 10) (v := ?v12) rfl (by kernel_rfl) (by kernel_rfl) (by kernel_rfl) (fun _ _ _ h => h) (Or.inl ⟨by rfl, ?hy12⟩) (by assumption) ?rest12
  case hy12 => (intro w' hSw; dsimp only [List.getElem_toArray, List.getElem_cons_zero, List.getElem_cons_succ] at hSw ⊢; go_simp; try (with_reducible rfl))
  try simp only [Act.put, List.getElem_toArray, List.getElem_cons_zero, List.getElem_cons_succ, List.setIfInBounds_toArray, List.set_cons_zero, List.set_cons_succ]
  refine wpAnyH_take (i := 11) (v := ?v13) rfl (by kernel_rfl) (by kernel_rfl) (by kernel_rfl) (fun _ _ _ h => h) (Or.inl ⟨by rfl, ?hy13⟩) (by assumption) ?rest13
  case hy13 => (intro w' hSw; dsimp only [List.getElem_toArray, List.getElem_cons_zero, List.getElem_cons_succ] at hSw ⊢; go_simp; try (with_reducible rfl))
  try simp only [Act.put, List.getElem_toArray, List.getElem_cons_zero, List.getElem_cons_succ, List.setIfInBounds_toArray, List.set_cons_zero, List.set_cons_succ]
  refine wpAnyH_ready (rs := [9]) (by kernel_rfl) (by simp) ?_
  refine AllReadyH.cons rfl (fun K hK => ?_) AllReadyH.nil
  have hp3 := (D3.out.cellP LP.out k hk).1
  rw [← ES.out] at hp3
  dsimp only [List.getElem_toArray, List.getElem_cons_zero, List.getElem_cons_succ]
  go_simp
  clear hp3 hHeld
  refine hK.out _ _ (⟨X3.out.c3, Y3.out.c4⟩) (fun hHeld => ?_)
  clear hK K
  try simp only [Act.put, List.getElem_toArray, List.getElem_cons_zero, List.getElem_cons_succ, List.setIfInBounds_toArray, List.set_cons_zero, List.set_cons_succ]
  refine wpAnyH_ready (rs := [12]) (by kernel_rfl) (by simp) ?_
  refine AllReadyH.cons rfl (fun K hK => ?_) AllReadyH.nil
  dsimp only [List.getElem_toArray, List.getElem_cons_zero, List.getElem_cons_succ]
  go_simp
  refine (l7Rot_calls s T _ h28 h2).mono ?_
  rintro e' u4 ⟨rfl, q⟩
  have X4 := hide (X3.out.below q)
  have Y4 := hide (Y3.out.below q)
  have Z4 := hide (Z3.out.below q)
  have D4 := hide (D3.out.below q)
  have C4 := hide (C3.out.trans (Chg.ofBelow q))
  have s4 := q.size
  clear q hHeld X3 Y3 Z3 D3 C3
  refine hK.out _ _ (⟨X4.out.c3, Y4.out.c4⟩) (fun hHeld => ?_)
  clear hK K
  try simp only [Act.put, List.getElem_toArray, List.getElem_cons_zero, List.getElem_cons_succ, List.setIfInBounds_toArray, List.set_cons_zero, List.set_cons_succ]
  refine wpAnyH_take (i := 13) (v := ?v14) rfl (by kernel_rfl) (by kernel_rfl) (by kernel_rfl) (fun _ _ _ h => h) (Or.inl ⟨by rfl, ?hy14⟩) (by assumption) ?rest14
  case hy14 => (intro w' hSw; dsimp only [List.getElem_toArray, List.getElem_cons_zero, List.getElem_cons_succ] at hSw ⊢; go_simp; try (with_reducible rfl))
  try simp only [Act.put, List.getElem_toArray, List.getElem_cons_zero, List.getElem_cons_succ, List.setIfInBounds_toArray, List.set_cons_zero, List.set_cons_succ]
  refine wpAnyH_ready (rs := [14]) (by kernel_rfl) (by simp) ?_
  refine AllReadyH.cons rfl (fun K hK => ?_) AllReadyH.nil
  clear hHeld
  obtain ⟨q1a, q1b⟩ := (D4.out).cellP LP.out k hk
  obtain ⟨dp1, cp1⟩ := (D4.out).putP LP.out k (rotT s T) (by rw [rotT_size]; unfold maxLen; omega)
  obtain ⟨x1a, x1b, x1c⟩ := (X4.out.chg (cp1) (.inr hhi)).c3
  obtain ⟨v1a, v1b, v1c, v1d⟩ := (Y4.out.chg (cp1) (.inr (by omega))).c4
  have X9 := hide (X4.out.chg (cp1) (.inr hhi))
  have Y9 := hide (Y4.out.chg (cp1) (.inr (by omega)))
  have Z9 := hide (Z4.out.chg (cp1) (.inr (by omega)))
  have D9 := hide dp1
  have C9 := hide (C4.out.trans (cp1))
  have s9 := (cp1).size
  clear dp1 cp1
  clear x1a x1b x1c v1a v1b v1c v1d
  dsimp only [List.getElem_toArray, List.getElem_cons_zero, List.getElem_cons_succ]
  go_simp
  refine hK.out _ _ (⟨X9.out.c3, Y9.out.c4⟩) (fun hHeld => ?_)
  clear hK K
  try simp only [Act.put, List.getElem_toArray, List.getElem_cons_zero, List.getElem_cons_succ, List.setIfInBounds_toArray, List.set_cons_zero, List.set_cons_succ]
  refine wpAnyH_done (by kernel_rfl) ?_ _
  refine NoPanic.normal ?_
  clear q1a q1b
  generalize (u4.setCell ⟨gp, k, none⟩ (.string (rotT s T))) = u9 at *
  rw [ES.out] at D9
  obtain ⟨c0, c1, c2⟩ := X9.out.c3
  obtain ⟨r0, r1, r2⟩ := Z9.out.c3
  have f0 := Z9.out.frozen 0
  have f1 := Z9.out.frozen 1
  have f2 := Z9.out.frozen 2
  have XF := hide (Z9.out.store3 (.slice (some ⟨gp, 0, none⟩) n cp) (.slice (some ⟨gh, 0, none⟩) n ch) (.slice (some ⟨gb, 0, none⟩) n cb))
  have c6 := Chg.store3 (lo := w.heap.size + 1 + 1) (hi := w.heap.size + 1 + 1 + 1) u9 (w.heap.size + 1 + 1) (.slice (some ⟨gp, 0, none⟩) n cp) (.slice (some ⟨gh, 0, none⟩) n ch) (.slice (some ⟨gb, 0, none⟩) n cb) (Nat.le_refl _) (by omega)
  have CC := hide (chg_new C9.out c6 (by omega))
  have DD := hide (D9.out.chg c6 (.inl (by omega)))
  clear c6
  go_wp2
  exact bodyPost_ret (res_dsk2 rfl _ _ (w.heap.size + 1 + 1) _ _ _ (0, 0) rfl XF.out) rfl ⟨rfl, by first | exact fun _ => DD.out | exact DD.out, CC.out⟩
end Go.Proofs.YtbgadbokejaomaaGreatDoor

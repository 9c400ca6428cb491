/-
  A step done on a disk of the call's own, kind by kind: the program's doStep, call by call. Each contract says what it asks. Fields that a step has no use for: the program's test, call by call. The contract says what it asks.
-/
import Derived.Test.YthdbacihhmilbaaGreatDoorStripesB33
import Derived.Test.YthdbacihhmilbaaGreatDoorStripesB17
import Derived.Test.YthdbacihhmilbaaGreatDoorStripesB9
import Derived.Test.YthdbacihhmilbaaGreatDoorStripesB0
set_option linter.unusedVariables false
set_option linter.unusedSimpArgs false
set_option maxRecDepth 100000
set_option maxHeartbeats 6400000
namespace Go.Proofs.YthdbacihhmilbaaGreatDoor
open Go.RowKit
theorem doStep_1 (p h b vk : Value) (P H : List ByteArray) (B : List Bool) (ks : List Int) (lo hi n : Nat) (k : Nat) (T : ByteArray) (y : Bool) (w : World) (d : DskV w lo hi p h b P H B) (hhi : hi ≤ w.heap.size) (hP : P.length = n) (hH : H.length = n) (hB : B.length = n) (hn : 0 < n ∧ n ≤ 24) (kv : ∀ w', Chg lo hi w w' → Rd w' vk ks) (hk : k < n) (hT : T.size ≤ 1048576) (hy : y = true ↔ hoOk B k T) :
    Calls Tryz.prog 54 #[.agg #[p, h, b], .agg #[.int .i64 1, .int .i64 (k : Int), .string T, vk]] w fun e w' => e = .returned (.bool y) ∧ (y = true → DskV w' lo hi p h b P (H.set k T) B) ∧ Chg lo hi w w' := by
 obtain ⟨gp, cp, gh, ch, gb, cb, rfl, rfl, rfl, n1, n2, n3, ⟨t1, t2, t3⟩, _⟩ := d.blocks hP hH hB hn.1
 have KV := hide kv
 obtain ⟨av, cv, ev, _, _⟩ := (kv w (Chg.refl _ _ _)).sl
 subst ev
 obtain ⟨W0, e0⟩ : ∃ W0, W0 = (w.alloc (.cells #[.slice (some ⟨gp, 0, none⟩) n cp, .slice (some ⟨gh, 0, none⟩) n ch, .slice (some ⟨gb, 0, none⟩) n cb] 26)).alloc (.cells #[.int .i64 1, .int .i64 (k : Int), .string T, .slice av ks.length cv] 42) := ⟨_, rfl⟩
 have b0 : Below w.heap.size w W0 := by rw [e0]; exact (below_box w _).trans ((below_box _ _).mono (by simp))
 have x0 : BoxAt W0 w.heap.size #[.slice (some ⟨gp, 0, none⟩) n cp, .slice (some ⟨gh, 0, none⟩) n ch, .slice (some ⟨gb, 0, none⟩) n cb] 26 := by rw [e0]; exact (BoxAt.new w _ _).below (below_box _ _)
 have y0 : BoxAt W0 (w.heap.size + 1) #[.int .i64 1, .int .i64 (k : Int), .string T, .slice av ks.length cv] 42 := by
  rw [e0]
  have := BoxAt.new (w.alloc (.cells #[.slice (some ⟨gp, 0, none⟩) n cp, .slice (some ⟨gh, 0, none⟩) n ch, .slice (some ⟨gb, 0, none⟩) n cb] 26)) #[.int .i64 1, .int .i64 (k : Int), .string T, .slice av ks.length cv] 42
  simpa only [World.size_alloc] using this
 have s0 : w.heap.size + 1 < W0.heap.size := y0.lt
 have E0 := hide e0.symm
 have C0 := hide (Chg.ofBelow (lo := lo) (hi := hi) b0)
 have X0 := hide x0
 have Y0 := hide y0
 have D0 := hide (d.below b0)
 have LP := hide hP
 have LH := hide hH
 have LB := hide hB
 have KV0 : Hid (∀ w', Chg lo hi W0 w' → Rd w' (.slice av ks.length cv) ks) := fun w' hc => KV.out _ (C0.out.trans hc)
 clear kv d b0 x0 y0 e0 hP hH hB
 have HY := hide hy
 clear hy
 have hk0 : (0 : Int) ≤ (k : Int) := by omega
 have hk' : (k : Int) < (n : Int) := by omega
 go_enter Tryz.func54, Tryz.ntmps54
 go_wp2_with fail
 rw [E0.out]
 refine (hasSector_yes _ _ _ _ _ _ _ hk0 hk' (by omega)).mono ?_
 rintro e u1 ⟨rfl, q⟩
 have D1 := hide (D0.out.below q)
 have C1 := hide (C0.out.trans (Chg.ofBelow q))
 have s1 := q.size
 obtain ⟨c0, c1, c2⟩ := (X0.out.below q).c3
 obtain ⟨y0, y1, y2, y3⟩ := (Y0.out.below q).c4
 clear q
 go_wp2_with fail
 refine (holdText_calls _ _ _ P H B lo hi n k T y _ D1.out (by omega) LP.out LH.out LB.out hn hk hT HY.out).mono ?_
 rintro e u2 ⟨rfl, d2, c2'⟩
 have D2 := hide d2
 have C2 := hide (C1.out.trans c2')
 clear d2 c2' c0 c1 c2 y0 y1 y2 y3
 go_wp2
 go_ret
 exact ⟨rfl, D2.out, C2.out⟩
theorem doStep_6 (p h b vk : Value) (P H : List ByteArray) (B : List Bool) (ks : List Int) (lo hi n : Nat) (k : Nat) (y : Bool) (w : World) (d : DskV w lo hi p h b P H B) (hhi : hi ≤ w.heap.size) (hP : P.length = n) (hH : H.length = n) (hB : B.length = n) (hn : 0 < n ∧ n ≤ 24) (kv : ∀ w', Chg lo hi w w' → Rd w' vk ks) (hk : k < n) (hy : B.getD k false = y) :
    Calls Tryz.prog 54 #[.agg #[p, h, b], .agg #[.int .i64 6, .int .i64 (k : Int), .string ⟨#[]⟩, vk]] w fun e w' => e = .returned (.bool y) ∧ (y = true → DskV w' lo hi p h b (P.set k ⟨#[]⟩) H (B.set k false)) ∧ Chg lo hi w w' := by
 obtain ⟨gp, cp, gh, ch, gb, cb, rfl, rfl, rfl, n1, n2, n3, ⟨t1, t2, t3⟩, _⟩ := d.blocks hP hH hB hn.1
 have KV := hide kv
 obtain ⟨av, cv, ev, _, _⟩ := (kv w (Chg.refl _ _ _)).sl
 subst ev
 obtain ⟨W0, e0⟩ : ∃ W0, W0 = (w.alloc (.cells #[.slice (some ⟨gp, 0, none⟩) n cp, .slice (some ⟨gh, 0, none⟩) n ch, .slice (some ⟨gb, 0, none⟩) n cb] 26)).alloc (.cells #[.int .i64 6, .int .i64 (k : Int), .string ⟨#[]⟩, .slice av ks.length cv] 42) := ⟨_, rfl⟩
 have b0 : Below w.heap.size w W0 := by rw [e0]; exact (below_box w _).trans ((below_box _ _).mono (by simp))
 have x0 : BoxAt W0 w.heap.size #[.slice (some ⟨gp, 0, none⟩) n cp, .slice (some ⟨gh, 0, none⟩) n ch, .slice (some ⟨gb, 0, none⟩) n cb] 26 := by rw [e0]; exact (BoxAt.new w _ _).below (below_box _ _)
 have y0 : BoxAt W0 (w.heap.size + 1) #[.int .i64 6, .int .i64 (k : Int), .string ⟨#[]⟩, .slice av ks.length cv] 42 := by
  rw [e0]
  have := BoxAt.new (w.alloc (.cells #[.slice (some ⟨gp, 0, none⟩) n cp, .slice (some ⟨gh, 0, none⟩) n ch, .slice (some ⟨gb, 0, none⟩) n cb] 26)) #[.int .i64 6, .int .i64 (k : Int), .string ⟨#[]⟩, .slice av ks.length cv] 42
  simpa only [World.size_alloc] using this
 have s0 : w.heap.size + 1 < W0.heap.size := y0.lt
 have E0 := hide e0.symm
 have C0 := hide (Chg.ofBelow (lo := lo) (hi := hi) b0)
 have X0 := hide x0
 have Y0 := hide y0
 have D0 := hide (d.below b0)
 have LP := hide hP
 have LH := hide hH
 have LB := hide hB
 have KV0 : Hid (∀ w', Chg lo hi W0 w' → Rd w' (.slice av ks.length cv) ks) := fun w' hc => KV.out _ (C0.out.trans hc)
 clear kv d b0 x0 y0 e0 hP hH hB
 have HY := hide hy
 clear hy
 have hk0 : (0 : Int) ≤ (k : Int) := by omega
 have hk' : (k : Int) < (n : Int) := by omega
 go_enter Tryz.func54, Tryz.ntmps54
 go_wp2_with fail
 rw [E0.out]
 refine (hasSector_yes _ _ _ _ _ _ _ hk0 hk' (by omega)).mono ?_
 rintro e u1 ⟨rfl, q⟩
 have D1 := hide (D0.out.below q)
 have C1 := hide (C0.out.trans (Chg.ofBelow q))
 have s1 := q.size
 obtain ⟨c0, c1, c2⟩ := (X0.out.below q).c3
 obtain ⟨y0, y1, y2, y3⟩ := (Y0.out.below q).c4
 clear q
 go_wp2_with fail
 refine (healSector_calls _ _ _ P H B lo hi n k _ D1.out (by omega) LP.out LH.out LB.out hn hk y HY.out).mono ?_
 rintro e u2 ⟨rfl, d2, c2'⟩
 have D2 := hide d2
 have C2 := hide (C1.out.trans c2')
 clear d2 c2' c0 c1 c2 y0 y1 y2 y3
 go_wp2
 go_ret
 exact ⟨rfl, D2.out, C2.out⟩
theorem doStep_5 (p h b vk : Value) (P H : List ByteArray) (B : List Bool) (ks : List Int) (lo hi n : Nat) (k : Nat) (w : World) (d : DskV w lo hi p h b P H B) (hhi : hi ≤ w.heap.size) (hP : P.length = n) (hH : H.length = n) (hB : B.length = n) (hn : 0 < n ∧ n ≤ 24) (kv : ∀ w', Chg lo hi w w' → Rd w' vk ks) (hk : k < n) :
    Calls Tryz.prog 54 #[.agg #[p, h, b], .agg #[.int .i64 5, .int .i64 (k : Int), .string ⟨#[]⟩, vk]] w fun e w' => e = .returned (.bool true) ∧ (true = true → DskV w' lo hi p h b P (H.set k ⟨#[]⟩) (B.set k true)) ∧ Chg lo hi w w' := by
 obtain ⟨gp, cp, gh, ch, gb, cb, rfl, rfl, rfl, n1, n2, n3, ⟨t1, t2, t3⟩, _⟩ := d.blocks hP hH hB hn.1
 have KV := hide kv
 obtain ⟨av, cv, ev, _, _⟩ := (kv w (Chg.refl _ _ _)).sl
 subst ev
 obtain ⟨W0, e0⟩ : ∃ W0, W0 = (w.alloc (.cells #[.slice (some ⟨gp, 0, none⟩) n cp, .slice (some ⟨gh, 0, none⟩) n ch, .slice (some ⟨gb, 0, none⟩) n cb] 26)).alloc (.cells #[.int .i64 5, .int .i64 (k : Int), .string ⟨#[]⟩, .slice av ks.length cv] 42) := ⟨_, rfl⟩
 have b0 : Below w.heap.size w W0 := by rw [e0]; exact (below_box w _).trans ((below_box _ _).mono (by simp))
 have x0 : BoxAt W0 w.heap.size #[.slice (some ⟨gp, 0, none⟩) n cp, .slice (some ⟨gh, 0, none⟩) n ch, .slice (some ⟨gb, 0, none⟩) n cb] 26 := by rw [e0]; exact (BoxAt.new w _ _).below (below_box _ _)
 have y0 : BoxAt W0 (w.heap.size + 1) #[.int .i64 5, .int .i64 (k : Int), .string ⟨#[]⟩, .slice av ks.length cv] 42 := by
  rw [e0]
  have := BoxAt.new (w.alloc (.cells #[.slice (some ⟨gp, 0, none⟩) n cp, .slice (some ⟨gh, 0, none⟩) n ch, .slice (some ⟨gb, 0, none⟩) n cb] 26)) #[.int .i64 5, .int .i64 (k : Int), .string ⟨#[]⟩, .slice av ks.length cv] 42
  simpa only [World.size_alloc] using this
 have s0 : w.heap.size + 1 < W0.heap.size := y0.lt
 have E0 := hide e0.symm
 have C0 := hide (Chg.ofBelow (lo := lo) (hi := hi) b0)
 have X0 := hide x0
 have Y0 := hide y0
 have D0 := hide (d.below b0)
 have LP := hide hP
 have LH := hide hH
 have LB := hide hB
 have KV0 : Hid (∀ w', Chg lo hi W0 w' → Rd w' (.slice av ks.length cv) ks) := fun w' hc => KV.out _ (C0.out.trans hc)
 clear kv d b0 x0 y0 e0 hP hH hB
 have hk0 : (0 : Int) ≤ (k : Int) := by omega
 have hk' : (k : Int) < (n : Int) := by omega
 go_enter Tryz.func54, Tryz.ntmps54
 go_wp2_with fail
 rw [E0.out]
 refine (hasSector_yes _ _ _ _ _ _ _ hk0 hk' (by omega)).mono ?_
 rintro e u1 ⟨rfl, q⟩
 have D1 := hide (D0.out.below q)
 have C1 := hide (C0.out.trans (Chg.ofBelow q))
 have X1 := hide (X0.out.below q)
 have Y1 := hide (Y0.out.below q)
 obtain ⟨c0, c1, c2⟩ := X1.out.c3
 obtain ⟨y0, y1, y2, y3⟩ := Y1.out.c4
 clear q D0 C0 X0 Y0 E0 KV0
 go_wp2
 clear c0 c1 c2 y0 y1 y2 y3
 refine wp_region_noPanic ?_
 refine wp_region_held_drew (S := fun w' => (w'.cell? ⟨w.heap.size, 0, none⟩ = some (.slice (some ⟨gp, 0, none⟩) n cp) ∧ w'.cell? ⟨w.heap.size, 1, none⟩ = some (.slice (some ⟨gh, 0, none⟩) n ch) ∧ w'.cell? ⟨w.heap.size, 2, none⟩ = some (.slice (some ⟨gb, 0, none⟩) n cb)) ∧ w'.cell? ⟨w.heap.size + 1, 1, none⟩ = some (.int .i64 (k : Int))) (by kernel_rfl) (⟨(X1.out.below (Below.refl _ _).drew).c3, (Y1.out.below (Below.refl _ _).drew).c4.2.1⟩) (fun hHeld => ?_)
 have DV := hide (D1.out.below (Below.refl _ _).drew)
 have XV := hide (X1.out.below (Below.refl _ _).drew)
 have YV := hide (Y1.out.below (Below.refl _ _).drew)
 have CV : Hid (Chg lo hi w u1.drew) := C1.out.trans (Chg.ofBelow (Below.refl _ _).drew)
 clear D1 X1 Y1 C1
 generalize u1.drew = V0 at *
 refine qt 0 ?v3 rfl (by kernel_rfl) (by kernel_rfl) (by kernel_rfl) (by rfl) ?hy3 (by assumption) (fun _ _ _ h => h) ?rest3
 case hy3 => intro _ s; dsimp only [qa,qb,qc] at s ⊢; go_simp; try with_reducible rfl
 try simp only [Act.put,qa,qb,qc,qd,qe,qf]
 refine qt 1 ?v4 rfl (by kernel_rfl) (by kernel_rfl) (by kernel_rfl) (by rfl) ?hy4 (by assumption) (fun _ _ _ h => h) ?rest4
 case hy4 => intro _ s; dsimp only [qa,qb,qc] at s ⊢; go_simp; try with_reducible rfl
 try simp only [Act.put,qa,qb,qc,qd,qe,qf]
 refine qt 2 ?v5 rfl (by kernel_rfl) (by kernel_rfl) (by kernel_rfl) (by rfl) ?hy5 (by assumption) (fun _ _ _ h => h) ?rest5
 case hy5 => intro _ s; dsimp only [qa,qb,qc] at s ⊢; go_simp; try with_reducible rfl
 try simp only [Act.put,qa,qb,qc,qd,qe,qf]
 refine qt 3 ?v6 rfl (by kernel_rfl) (by kernel_rfl) (by kernel_rfl) (by rfl) ?hy6 (by assumption) (fun _ _ _ h => h) ?rest6
 case hy6 => intro _ s; dsimp only [qa,qb,qc] at s ⊢; go_simp; try with_reducible rfl
 try simp only [Act.put,qa,qb,qc,qd,qe,qf]
 refine qt 4 ?v7 rfl (by kernel_rfl) (by kernel_rfl) (by kernel_rfl) (by rfl) ?hy7 (by assumption) (fun _ _ _ h => h) ?rest7
 case hy7 => intro _ s; dsimp only [qa,qb,qc] at s ⊢; go_simp; try with_reducible rfl
 try simp only [Act.put,qa,qb,qc,qd,qe,qf]
 refine qt 5 ?v8 rfl (by kernel_rfl) (by kernel_rfl) (by kernel_rfl) (by rfl) ?hy8 (by assumption) (fun _ _ _ h => h) ?rest8
 case hy8 => intro _ s; dsimp only [qa,qb,qc] at s ⊢; go_simp; try with_reducible rfl
 try simp only [Act.put,qa,qb,qc,qd,qe,qf]
 refine qt 6 ?v9 rfl (by kernel_rfl) (by kernel_rfl) (by kernel_rfl) (by rfl) ?hy9 (by assumption) (fun _ _ _ h => h) ?rest9
 case hy9 => intro _ s; dsimp only [qa,qb,qc] at s ⊢; go_simp; try with_reducible rfl
 try simp only [Act.put,qa,qb,qc,qd,qe,qf]
 refine qt 7 ?v10 rfl (by kernel_rfl) (by kernel_rfl) (by kernel_rfl) (by rfl) ?hy10 (by assumption) (fun _ _ _ h => h) ?rest10
 case hy10 => intro _ s; dsimp only [qa,qb,qc] at s ⊢; go_simp; try with_reducible rfl
 try simp only [Act.put,qa,qb,qc,qd,qe,qf]
 refine qt 8 ?v11 rfl (by kernel_rfl) (by kernel_rfl) (by kernel_rfl) (by rfl) ?hy11 (by assumption) (fun _ _ _ h => h) ?rest11
 case hy11 => intro _ s; dsimp only [qa,qb,qc] at s ⊢; go_simp; try with_reducible rfl
 try simp only [Act.put,qa,qb,qc,qd,qe,qf]
 refine qs 9 (by kernel_rfl) rfl (fun K hK => ?_)
 obtain ⟨q1, q2⟩ := DV.out.cellB LB.out k hk
 obtain ⟨dp, cpp⟩ := DV.out.putB LB.out k true
 have D2 := hide dp
 have C2 := hide (CV.out.trans cpp)
 have X2 := hide (XV.out.chg cpp (.inr hhi))
 have Y2 := hide (YV.out.chg cpp (.inr (by omega)))
 clear dp cpp hHeld DV CV XV YV
 dsimp only [qa,qb,qc]
 go_simp
 clear q1 q2
 refine hK.out _ _ (⟨X2.out.c3, Y2.out.c4.2.1⟩) (fun hHeld => ?_)
 clear hK K
 try simp only [Act.put,qa,qb,qc,qd,qe,qf]
 refine qt 10 ?v12 rfl (by kernel_rfl) (by kernel_rfl) (by kernel_rfl) (by rfl) ?hy12 (by assumption) (fun _ _ _ h => h) ?rest12
 case hy12 => intro _ s; dsimp only [qa,qb,qc] at s ⊢; go_simp; try with_reducible rfl
 try simp only [Act.put,qa,qb,qc,qd,qe,qf]
 refine qs 11 (by kernel_rfl) rfl (fun K hK => ?_)
 obtain ⟨q1, q2⟩ := D2.out.cellH LH.out k hk
 obtain ⟨dp, cpp⟩ := D2.out.putH LH.out k ⟨#[]⟩ (Nat.zero_le _)
 have D3 := hide dp
 have C3 := hide (C2.out.trans cpp)
 have X3 := hide (X2.out.chg cpp (.inr hhi))
 have Y3 := hide (Y2.out.chg cpp (.inr (by omega)))
 clear dp cpp hHeld D2 C2 X2 Y2
 dsimp only [qa,qb,qc]
 go_simp
 refine hK.out _ _ (⟨X3.out.c3, Y3.out.c4.2.1⟩) (fun hHeld => ?_)
 clear hK K
 try simp only [Act.put,qa,qb,qc,qd,qe,qf]
 refine wpAnyH_done (by kernel_rfl) ?_ _
 refine NoPanic.normal ?_
 go_wp2
 go_ret
 exact ⟨rfl, fun _ => D3.out, C3.out⟩
def lzOk (K A : Int) (T : ByteArray) (ks : List Int) : Prop :=
 ((K = 1 ∨ K = 4) ∧ ks = []) ∨ (K = 2 ∧ A = 0 ∧ T = ⟨#[]⟩ ∧ ks = []) ∨ (K = 3 ∧ A = 0 ∧ T = ⟨#[]⟩) ∨ ((K = 5 ∨ K = 6) ∧ T = ⟨#[]⟩ ∧ ks = [])
theorem bool_eq {x y : Bool} (h : x = true ↔ y = true) : x = y := by
 cases x <;> cases y <;> simp_all
theorem leaves_calls (K A : Int) (T : ByteArray) (vk : Value) (ks : List Int) (g : Bool) (w : World) (hv : Rd w vk ks) (hg : g = true ↔ lzOk K A T ks) :
    Calls Tryz.prog 52 #[.agg #[.int .i64 K, .int .i64 A, .string T, vk]] w fun e w' => e = .returned (.bool g) ∧ Below w.heap.size w w' := by
 obtain ⟨av, cv, rfl, mv, _⟩ := hv.sl
 have B0 := hide (below_box w (.cells #[.int .i64 K, .int .i64 A, .string T, .slice av ks.length cv] 42))
 have HG := hide hg
 clear hv hg
 obtain ⟨a, ha⟩ : ∃ a : Bool, a = (A == 0) := ⟨_, rfl⟩
 obtain ⟨t, ht⟩ : ∃ t : Bool, t = T.toList.isEmpty := ⟨_, rfl⟩
 obtain ⟨k, hk⟩ : ∃ k : Bool, k = ((ks.length : Int) == 0) := ⟨_, rfl⟩
 have QA : Hid (a = true ↔ A = 0) := by show _ ↔ _; rw [ha]; simp
 have QT : Hid (t = true ↔ T = ⟨#[]⟩) := by
  show _ ↔ _
  rw [ht]
  constructor
  ·intro h
   by_cases e : T = ⟨#[]⟩
   ·exact e
   ·exact absurd (List.isEmpty_iff.1 h) (toList_ne e).1
  ·rintro rfl
   rw [ByteArray.toList_eq]
   rfl
 have QK : Hid (k = true ↔ ks = []) := by
  show _ ↔ _
  rw [hk]
  constructor
  ·intro h
   have : (ks.length : Int) = 0 := by simpa using h
   exact List.eq_nil_of_length_eq_zero (by omega)
  ·rintro rfl
   rfl
 have HG2 : Hid (g = true ↔ (((K = 1 ∨ K = 4) ∧ k = true) ∨ (K = 2 ∧ a = true ∧ t = true ∧ k = true) ∨ (K = 3 ∧ a = true ∧ t = true) ∨ ((K = 5 ∨ K = 6) ∧ t = true ∧ k = true))) := by
  show _ ↔ _
  rw [HG.out, QA.out, QT.out, QK.out]
  rfl
 have HA := hide ha
 have HT := hide ht
 have HKK := hide hk
 clear ha ht hk HG QA QT QK
 go_enter Tryz.func52, Tryz.ntmps52
 go_wp2
 go_quiet (fail)
 rw [← HA.out, ← HT.out, ← HKK.out]
 clear HA HT HKK
 have X0 := hide (BoxAt.new w #[.int .i64 K, .int .i64 A, .string T, .slice av ks.length cv] 42)
 by_cases k1 : K = 1
 ·subst k1
  go_wp2
  go_ret
  exact ⟨ret_bool (bool_eq (by rw [HG2.out]; simp)), below_drewN B0.out _⟩
 by_cases k4 : K = 4
 ·subst k4
  clear k1
  go_wp2
  go_ret
  exact ⟨ret_bool (bool_eq (by rw [HG2.out]; simp)), below_drewN B0.out _⟩
 by_cases k2 : K = 2
 ·subst k2
  clear k1 k4
  cases a <;> cases t <;> cases k
  all_goals
   go_wp2
   go_ret
   exact ⟨ret_bool (bool_eq (by rw [HG2.out]; simp)), below_drewN B0.out _⟩
 by_cases k3 : K = 3
 ·subst k3
  clear k1 k4 k2
  cases a <;> cases t
  all_goals
   go_wp2
   go_ret
   exact ⟨ret_bool (bool_eq (by rw [HG2.out]; simp)), below_drewN B0.out _⟩
 by_cases k5 : K = 5
 ·subst k5
  clear k1 k4 k2 k3
  cases t <;> cases k
  all_goals
   go_wp2
   go_ret
   exact ⟨ret_bool (bool_eq (by rw [HG2.out]; simp)), below_drewN B0.out _⟩
 by_cases k6 : K = 6
 ·subst k6
  clear k1 k4 k2 k3 k5
  cases t <;> cases k
  all_goals
   go_wp2
   go_ret
   exact ⟨ret_bool (bool_eq (by rw [HG2.out]; simp)), below_drewN B0.out _⟩
 have e1 : (K == 1) = false := by simpa using k1
 have e2 : (K == 2) = false := by simpa using k2
 have e3 : (K == 3) = false := by simpa using k3
 have e4 : (K == 4) = false := by simpa using k4
 have e5 : (K == 5) = false := by simpa using k5
 have e6 : (K == 6) = false := by simpa using k6
 have G0 : Hid (g = false) := by
  show g = false
  cases g with
  | false => rfl
  | true =>
   have := HG2.out.1 rfl
   omega
 go_wp2
 go_ret
 exact ⟨ret_bool G0.out.symm, below_drewN B0.out _⟩
def stOk (P H : List ByteArray) (B : List Bool) (n : Nat) (K A : Int) (T : ByteArray) (ks : List Int) : Prop :=
 (K = 1 ∧ ks = [] ∧ (0 ≤ A ∧ A < (n : Int)) ∧ hoOk B A.toNat T) ∨ (K = 2 ∧ A = 0 ∧ T = ⟨#[]⟩ ∧ ks = []) ∨ (K = 3 ∧ A = 0 ∧ T = ⟨#[]⟩ ∧ kpOk H ks) ∨
 (K = 4 ∧ ks = [] ∧ (0 ≤ A ∧ A < (n : Int)) ∧ roOk P H A.toNat T) ∨ (K = 5 ∧ T = ⟨#[]⟩ ∧ ks = [] ∧ (0 ≤ A ∧ A < (n : Int))) ∨ (K = 6 ∧ T = ⟨#[]⟩ ∧ ks = [] ∧ (0 ≤ A ∧ A < (n : Int)) ∧ B.getD A.toNat false = true)
theorem st_bool (P H : List ByteArray) (B : List Bool) (n : Nat) (K A : Int) (T : ByteArray) (ks : List Int) : ∃ g : Bool, g = true ↔ stOk P H B n K A T ks := by
 by_cases hh : stOk P H B n K A T ks
 ·exact ⟨true, fun _ => hh, fun _ => rfl⟩
 ·exact ⟨false, fun h => by simp at h, fun h => absurd h hh⟩
def stP (P H : List ByteArray) (n : Nat) (K A : Int) (T : ByteArray) (ks : List Int) : List ByteArray :=
 if K = 2 then crP P H (hpl H n) else if K = 3 then crP P H ks else if K = 4 then P.set A.toNat (rotT (P.getD A.toNat ⟨#[]⟩) T) else if K = 6 then P.set A.toNat ⟨#[]⟩ else P
def stH (H : List ByteArray) (K A : Int) (T : ByteArray) : List ByteArray := if K = 1 then H.set A.toNat T else if K = 2 then crH H else if K = 3 then crH H else if K = 5 then H.set A.toNat ⟨#[]⟩ else H
def stB (B : List Bool) (K A : Int) : List Bool := if K = 5 then B.set A.toNat true else if K = 6 then B.set A.toNat false else B
def StepPost (lo hi : Nat) (p h b : Value) (P H : List ByteArray) (B : List Bool) (n : Nat) (K A : Int) (T : ByteArray) (ks : List Int) (ok : Bool) (w w' : World) : Prop :=
 (ok = true → DskV w' lo hi p h b (stP P H n K A T ks) (stH H K A T) (stB B K A)) ∧ Chg lo hi w w'
theorem Hand.three (w : World) (c1 c2 c3 : Array Value) (T1 T2 T3 : TypeId) : Hand w (((w.alloc (.cells c1 T1)).alloc (.cells c2 T2)).alloc (.cells c3 T3)) [TBox (w.heap.size + 1 + 1) c3 T3, TBox (w.heap.size + 1) c2 T2, TBox w.heap.size c1 T1] := by
 have h := (((Hand.start w).box c1 T1).box c2 T2).box c3 T3
 simpa only [World.size_alloc] using h
def sdP (ok : Bool) (P H : List ByteArray) (K A : Int) (T : ByteArray) (ks : List Int) : List ByteArray := if ok = true then stP P H P.length K A T ks else []
def sdH (ok : Bool) (H : List ByteArray) (K A : Int) (T : ByteArray) : List ByteArray := if ok = true then stH H K A T else []
def sdB (ok : Bool) (B : List Bool) (K A : Int) : List Bool := if ok = true then stB B K A else []
theorem stP_len (P H : List ByteArray) (n : Nat) (K A : Int) (T : ByteArray) (ks : List Int) : (stP P H n K A T ks).length = P.length := by
 unfold stP
 split
 ·exact crP_len _ _ _
 split
 ·exact crP_len _ _ _
 split
 ·exact List.length_set
 split
 ·exact List.length_set
 ·rfl
theorem stH_len (H : List ByteArray) (K A : Int) (T : ByteArray) : (stH H K A T).length = H.length := by
 unfold stH
 split
 ·exact List.length_set
 split
 ·simp [crH]
 split
 ·simp [crH]
 split
 ·exact List.length_set
 ·rfl
theorem stB_len (B : List Bool) (K A : Int) : (stB B K A).length = B.length := by
 unfold stB
 split
 ·exact List.length_set
 split
 ·exact List.length_set
 ·rfl
theorem sd_bool (P H : List ByteArray) (B : List Bool) (K A : Int) (T : ByteArray) (ks : List Int) : ∃ ok : Bool, ok = true ↔ (gkP P H B ∧ stOk P H B P.length K A T ks) := by
 by_cases hh : gkP P H B ∧ stOk P H B P.length K A T ks
 ·exact ⟨true, fun _ => hh, fun _ => rfl⟩
 ·exact ⟨false, fun h => by simp at h, fun h => absurd h hh⟩
open Gf (ci nat)
def scT (A : Nat) (E : Int) (row : List Nat) : ByteArray := (frR 2 (A : Int) E (ofN row)).1
def wrTo (H : List ByteArray) (A : Nat) (E : Int) (m : List (List Nat)) (ks : List Nat) : Nat → List ByteArray
 | 0 => H
 | j + 1 => (wrTo H A E m ks j).set (A + ks.getD j 0) (scT (A + ks.getD j 0) E (m.getD (ks.getD j 0) []))
def wOk (B : List Bool) (A : Nat) (E : Int) (ks : List Nat) (n : Nat) : Prop := ∀ j, j < n → (0 ≤ E ∧ E ≤ 60000) ∧ B.getD (A + ks.getD j 0) false = false
def ifT {α : Type} (ok : Bool) (l : List α) : List α := if ok = true then l else []
theorem wrTo_length (H : List ByteArray) (A : Nat) (E : Int) (m : List (List Nat)) (ks : List Nat) : ∀ j, (wrTo H A E m ks j).length = H.length
 | 0 => rfl
 | j + 1 => by rw [wrTo, List.length_set, wrTo_length H A E m ks j]
theorem sc_good {A : Nat} {E : Int} {row : List Nat} (hA : A ≤ 24) (hE : 0 ≤ E ∧ E ≤ 60000) (hr : row.length = 16) : frR 2 (A : Int) E (ofN row) = (scT A E row, true) ∧ (scT A E row).size = 28 := by
 have hg : goodF 2 (A : Int) E (ofN row).size := ⟨⟨by omega, by omega, by omega⟩, hE, by rw [ofN_size]; omega⟩
 have e : frR 2 (A : Int) E (ofN row) = (ofN (frB (2 : Int).toNat (A : Int).toNat E.toNat (bs (ofN row))), true) := if_pos hg
 have e2 : scT A E row = ofN (frB (2 : Int).toNat (A : Int).toNat E.toNat (bs (ofN row))) := by unfold scT; rw [e]
 rw [e2]
 refine ⟨e, ?_⟩
 rw [ofN_size, frB_length (by rw [bs_length, ofN_size]; omega)]
theorem sc_bad {A : Nat} {E : Int} {row : List Nat} (hE : ¬ (0 ≤ E ∧ E ≤ 60000)) : frR 2 (A : Int) E (ofN row) = (⟨#[]⟩, false) := if_neg (fun h => hE h.2.1)
theorem rd_nil' (w : World) : Rd w (.slice none 0 0) [] := ⟨none, 0, rfl, Nat.le_refl _, ⟨Nat.zero_le _, fun _ => rfl⟩, .inl rfl⟩
theorem Rd.nth {w : World} {a : Option Addr} {n cap : Nat} {xs : List Int} (h : Rd w (.slice a n cap) xs) (k : Nat) (hk : k < xs.length) : ∃ b off, a = some ⟨b, off, none⟩ ∧ w.cell? ⟨b, off + k, none⟩ = some (.int .i64 (xs.getD k 0)) := by
 obtain ⟨a', cap', e, h1, h2, h3⟩ := h
 simp only [Value.slice.injEq] at e
 obtain ⟨rfl, _, rfl⟩ := e
 rcases h3 with h3 | ⟨b, off, rfl, hlt, hc⟩
 ·subst h3; simp at hk
 ·exact ⟨b, off, rfl, hc k hk⟩
theorem writePieces_calls (p h b : Value) (P H : List ByteArray) (B : List Bool) (A : Nat) (E : Int) (vm : Value) (m : List (List Nat)) (vk : Value) (ks : List Nat) (ok : Bool) (w : World) (gk : gkP P H B) (hA : A + 5 ≤ P.length)
    (hm : RdM w vm (m.map ci)) (ml : m.length = 5) (mr : ∀ i, i < 5 → (m.getD i []).length = 16 ∧ ∀ x ∈ m.getD i [], x < 256) (hk : Rd w vk (ci ks)) (kl : ks.length ≤ 5) (kr : ∀ j, j < ks.length → ks.getD j 0 < 5) (hok : ok = true ↔ wOk B A E ks ks.length)
    (hp : RdT w p P) (hh : RdT w h H) (hb : RdZ w b B) :
    Calls Tryz.prog 37 #[.agg #[p, h, b], .int .i64 (A : Int), .int .i64 E, vm, vk] w fun e w' => ∃ p' h' b', e = .returned (.tuple #[.agg #[p', h', b'], .bool ok]) ∧ DskV w' w.heap.size w'.heap.size p' h' b' (ifT ok P) (ifT ok (wrTo H A E m ks ks.length)) (ifT ok B) ∧ Below w.heap.size w w' := by
 have RP := hide hp
 have RH := hide hh
 have RB := hide hb
 have RM := hide hm
 have RK := hide hk
 have GK := hide gk
 have HOK := hide hok
 have MR := hide mr
 have KR := hide kr
 have ML := hide ml
 have h24 : P.length ≤ 24 := gk.1.2
 have C0 := hide (fun W h1 h2 h3 => copyDisk_calls p h b P H B W h1 h2 h3 ⟨by omega, h24⟩ (by rw [gk.2.1]; omega) (by rw [gk.2.2.1]; omega) gk.2.2.2.1 (by rw [gk.2.1]; exact gk.2.2.2.2.1))
 have S28 := hide gk.2.2.2.1
 have LH := hide gk.2.1
 have LB := hide gk.2.2.1
 have A0 : Hid (Hand w ((w.alloc (.cells #[p, h, b] 26)).alloc (.cells nil3 26)) [TBox (w.heap.size + 1) nil3 26, TBox w.heap.size #[p, h, b] 26]) := by
  show Hand _ _ _
  have := ((Hand.start w).box #[p, h, b] 26).box nil3 26
  simpa using this
 obtain ⟨ak, ck, hvk, _⟩ := hk
 rw [Gf.ci_length] at hvk
 subst hvk
 obtain ⟨am, cm, hvm, _⟩ := hm
 rw [List.length_map] at hvm
 subst hvm
 obtain ⟨mn, hmn⟩ : ∃ mn, mn = m.length := ⟨_, rfl⟩
 rw [← hmn] at RM ⊢
 have MN : Hid (mn = 5) := by show _ = _; rw [hmn, ml]
 clear gk hp hh hb hok mr kr hmn ml
 obtain ⟨c0, c1, c2⟩ := (A0.out.atBox 1 rfl).c3
 go_enter Tryz.func37, Tryz.ntmps37
 go_wp2_with fail
 refine (C0.out _ (RP.out.below A0.out.below) (RH.out.below A0.out.below) (RB.out.below A0.out.below)).mono ?_
 rintro e w1 ⟨p1, h1, b1, rfl, d1, q⟩
 obtain ⟨ap, cp, ah, ch, ab, cb, rfl, rfl, rfl⟩ := d1.sl
 have A1 := hide ((A0.out.add q (TDsk.st _ _ _ _ _ _) d1).box #[.slice ap P.length cp, .slice ah H.length ch, .slice ab B.length cb] 26)
 clear q d1 A0 c0 c1 c2
 obtain ⟨gn, hgn⟩ : ∃ gn, gn = w1.heap.size := ⟨_, rfl⟩
 rw [← hgn] at A1
 have HGN := hide hgn
 clear hgn
 obtain ⟨np, hnp⟩ : ∃ x, x = P.length := ⟨_, rfl⟩
 obtain ⟨nh, hnh⟩ : ∃ x, x = H.length := ⟨_, rfl⟩
 obtain ⟨nb, hnb⟩ : ∃ x, x = B.length := ⟨_, rfl⟩
 have hB5 : A + 5 ≤ np := by rw [hnp]; exact hA
 have hnp24 : np ≤ 24 := by rw [hnp]; exact h24
 rw [← hnp, ← hnh, ← hnb] at A1 ⊢
 have NP := hide hnp
 have NH : Hid (nh = np) := by show _ = _; rw [hnh, hnp]; exact LH.out
 have NB : Hid (nb = np) := by show _ = _; rw [hnb, hnp]; exact LB.out
 clear hnp hnh hnb hA h24
 go_wp2
 rw [← HGN.out]
 go_loopw [14, 15, 16, 21] (fun _ _ _ vi wr => ∃ k : Nat, k ≤ ks.length ∧ vi = .int .i64 k ∧ Hand w wr [TBox gn #[.slice ap np cp, .slice ah nh ch, .slice ab nb cb] 26, TDsk (.slice ap np cp) (.slice ah nh ch) (.slice ab nb cb) P (wrTo H A E m ks k) B, TBox (w.heap.size + 1) nil3 26, TBox w.heap.size #[p, h, b] 26] ∧ wOk B A E ks k) (fun _ _ _ vi _ => ks.length - (intOf vi).toNat)
 case atStart => exact ⟨0, Nat.zero_le _, rfl, A1.out, fun j hj => by omega⟩
 case round =>
  clear A1
  obtain ⟨k, hk, rfl, hH, hw⟩ := hrel
  have AH := hide hH
  have WO := hide hw
  clear hH hw
  by_cases hlt : k < ks.length
  ·have hlt' : (k : Int) < (ks.length : Int) := by omega
   obtain ⟨kb, ko, hka, hkc⟩ := (RK.out.below AH.out.below).nth k (by rw [Gf.ci_length]; exact hlt)
   subst hka
   rw [Gf.ci_getD] at hkc
   have hz5 := KR.out k hlt
   have WS : Hid (wrTo H A E m ks (k + 1) = (wrTo H A E m ks k).set (A + ks.getD k 0) (scT (A + ks.getD k 0) E (m.getD (ks.getD k 0) []))) := rfl
   have WK : Hid (∀ hh : (0 ≤ E ∧ E ≤ 60000) ∧ B.getD (A + ks.getD k 0) false = false, wOk B A E ks (k + 1)) := fun hh j hj => by
    by_cases e : j = k
    ·subst e; exact hh
    ·exact WO.out j (by omega)
   have WN : Hid (ok = true → (0 ≤ E ∧ E ≤ 60000) ∧ B.getD (A + ks.getD k 0) false = false) := fun e => HOK.out.1 e k hlt
   generalize hzz : ks.getD k 0 = z at *
   clear hzz
   have LW := hide (wrTo_length H A E m ks k)
   generalize wrTo H A E m ks k = Hk at *
   have hzi : (z : Int) < (mn : Int) := by rw [MN.out]; omega
   obtain ⟨mb, mo, u, hma, _, hmc, hu⟩ := (RM.out.below AH.out.below).rowAt z (by rw [List.length_map, ML.out]; exact hz5)
   subst hma
   obtain ⟨r1, r2⟩ := MR.out z hz5
   have hmg : (m.map ci).getD z [] = ci (m.getD z []) := by
    simp only [qg]
    rw [List.getElem?_map, List.getElem?_eq_getElem (by rw [ML.out]; exact hz5)]
    rfl
   rw [hmg] at hu
   have U := hide hu
   obtain ⟨ua, uc, hu2, _⟩ := hu
   rw [Gf.ci_length, r1] at hu2
   subst hu2
   have C1 := hide (fun W v hv => bodyOf_calls v (m.getD z []) W hv r2 (by omega))
   have E5 : Hid ((A : Int) + (z : Int) = ((A + z : Nat) : Int)) := by show _ = _; omega
   have C2 := hide (fun W => frameBytes_calls 2 ((A + z : Nat) : Int) E (ofN (m.getD z [])) W (by rw [ofN_size, r1]; unfold maxLen; omega))
   have R1 := hide r1
   clear hmg r1 r2
   by_cases hE : 0 ≤ E ∧ E ≤ 60000
   ·obtain ⟨g1, g2⟩ := sc_good (A := A + z) (by omega) hE R1.out
    rw [g1] at C2
    generalize scT (A + z) E (m.getD z []) = T at *
    generalize ofN (m.getD z []) = bo at *
    go_wp2_with fail
    refine (C1.out _ _ U.out).mono ?_
    rintro e w2 ⟨rfl, q⟩
    have A2 := hide (AH.out.step q)
    clear q AH hkc hmc
    go_wp2_with fail
    rw [E5.out]
    refine (C2.out _).mono ?_
    rintro e w3 ⟨rfl, q⟩
    have A3 := hide (A2.out.step q)
    clear q A2
    obtain ⟨c0, c1, c2⟩ := (A3.out.atBox 0 rfl).c3
    obtain ⟨lo, hi, d3, lw, hw3, put⟩ := A3.out.open 1 rfl
    have D3 : Hid (DskV w3 lo hi (.slice ap np cp) (.slice ah nh ch) (.slice ab nb cb) P Hk B) := d3
    have PUT := hide put
    clear d3 put
    obtain ⟨y, hy⟩ : ∃ y : Bool, y = true ↔ stOk P Hk B np 1 ((A + z : Nat) : Int) T [] := st_bool _ _ _ _ _ _ _ _
    have YB : Hid (y = true ↔ B.getD (A + z) false = false) := by
     show _ ↔ _
     rw [hy]
     unfold stOk hoOk
     simp only [Int.toNat_natCast]
     constructor
     ·rintro (⟨_, _, _, h1, _⟩ | ⟨h0, _⟩ | ⟨h0, _⟩ | ⟨h0, _⟩ | ⟨h0, _⟩ | ⟨h0, _⟩)
      ·exact h1
      all_goals (exact absurd h0 (by decide))
     ·intro h1
      exact .inl ⟨by trivial, by trivial, ⟨by omega, by omega⟩, h1, by rw [g2]; omega, by rw [g2]; omega⟩
    have hy2 : y = true ↔ hoOk B (A + z) T := by
     rw [hy]
     unfold stOk
     simp only [Int.toNat_natCast]
     constructor
     ·rintro (⟨_, _, _, h1⟩ | ⟨h0, _⟩ | ⟨h0, _⟩ | ⟨h0, _⟩ | ⟨h0, _⟩ | ⟨h0, _⟩)
      ·exact h1
      all_goals (exact absurd h0 (by decide))
     ·intro h1
      exact .inl ⟨by trivial, by trivial, ⟨by omega, by omega⟩, h1⟩
    have C3 := hide (doStep_1 (.slice ap np cp) (.slice ah nh ch) (.slice ab nb cb) (.slice none 0 0) P Hk B [] lo hi np (A + z) T y w3 D3.out hw3 NP.out.symm (by rw [LW.out, LH.out, NP.out]) (by rw [LB.out, NP.out]) ⟨by omega, hnp24⟩ (fun _ _ => rd_nil' _) (by omega) (by rw [g2]; omega) hy2)
    go_wp2_with fail
    rw [E5.out]
    refine C3.out.mono ?_
    rintro e w4 ⟨rfl, sp1, sp2⟩
    cases y with
    | true =>
     have d4 := sp1 rfl
     have A4 := hide (PUT.out w4 (TDsk (.slice ap np cp) (.slice ah nh ch) (.slice ab nb cb) P (Hk.set (A + z) T) B) (TDsk.st _ _ _ _ _ _) d4 sp2)
     have WKK := hide (WK.out ⟨hE, YB.out.1 rfl⟩)
     clear sp1 sp2 d4 PUT D3 C3 A3 c0 c1 c2 hw3 lw hy hy2 YB WK WN
     go_wp2
     go_roundw
     case rel =>
      refine ⟨k + 1, by omega, by go_num, ?_, WKK.out⟩
      rw [WS.out]
      exact A4.out
     case measure => simp [intOf]; omega
    | false =>
     have okf : ok = false := by
      cases ok with
      | false => rfl
      | true => have := YB.out.2 (WN.out rfl).2; simp at this
     subst okf
     have A4 := hide (PUT.out w4 (fun _ _ _ => True) (fun _ _ _ _ _ _ _ _ _ => trivial) trivial sp2)
     clear sp1 sp2 PUT D3 C3 A3 c0 c1 c2 hw3 lw hy hy2 YB WK WN
     obtain ⟨d0, d1, d2⟩ := (A4.out.atBox 2 rfl).c3
     have g0 := (A4.out.atBox 2 rfl).frozen 0
     have g1' := (A4.out.atBox 2 rfl).frozen 1
     have g2' := (A4.out.atBox 2 rfl).frozen 2
     have AZ := hide (A4.out.store3 2 rfl (.slice none 0 0) (.slice none 0 0) (.slice none 0 0))
     go_wp2
     exact bodyPost_ret (res_dsk2 rfl _ _ (w.heap.size + 1) _ _ _ (0, 0) rfl (AZ.out.atBox 2 rfl)) rfl ⟨_, _, _, rfl, DskV.nil _ _ _, AZ.out.below⟩
   ·have okf : ok = false := by
      cases ok with
      | false => rfl
      | true => exact absurd (WN.out rfl).1 hE
    subst okf
    rw [sc_bad hE] at C2
    generalize ofN (m.getD z []) = bo at *
    go_wp2_with fail
    refine (C1.out _ _ U.out).mono ?_
    rintro e w2 ⟨rfl, q⟩
    have A2 := hide (AH.out.step q)
    clear q AH hkc hmc
    go_wp2_with fail
    rw [E5.out]
    refine (C2.out _).mono ?_
    rintro e w3 ⟨rfl, q⟩
    have A3 := hide (A2.out.step q)
    clear q A2
    obtain ⟨d0, d1, d2⟩ := (A3.out.atBox 2 rfl).c3
    have g0 := (A3.out.atBox 2 rfl).frozen 0
    have g1' := (A3.out.atBox 2 rfl).frozen 1
    have g2' := (A3.out.atBox 2 rfl).frozen 2
    have AZ := hide (A3.out.store3 2 rfl (.slice none 0 0) (.slice none 0 0) (.slice none 0 0))
    go_wp2
    exact bodyPost_ret (res_dsk2 rfl _ _ (w.heap.size + 1) _ _ _ (0, 0) rfl (AZ.out.atBox 2 rfl)) rfl ⟨_, _, _, rfl, DskV.nil _ _ _, AZ.out.below⟩
  ·obtain rfl : k = ks.length := by omega
   have okt : ok = true := HOK.out.2 WO.out
   subst okt
   obtain ⟨c0, c1, c2⟩ := (AH.out.atBox 0 rfl).c3
   obtain ⟨d0, d1, d2⟩ := (AH.out.atBox 2 rfl).c3
   have g0 := (AH.out.atBox 2 rfl).frozen 0
   have g1' := (AH.out.atBox 2 rfl).frozen 1
   have g2' := (AH.out.atBox 2 rfl).frozen 2
   have AZ := hide (AH.out.store3 2 rfl (.slice ap np cp) (.slice ah nh ch) (.slice ab nb cb))
   go_wp2
   obtain ⟨lo, hi, d3, lw, hw3, _⟩ := AZ.out.open 1 rfl
   have D3 : DskV _ lo hi (.slice ap np cp) (.slice ah nh ch) (.slice ab nb cb) P (wrTo H A E m ks ks.length) B := d3
   exact bodyPost_ret (res_dsk2 rfl _ _ (w.heap.size + 1) _ _ _ (0, 0) rfl (AZ.out.atBox 2 rfl)) rfl ⟨_, _, _, rfl, D3.wider lw hw3, AZ.out.below⟩
end Go.Proofs.YthdbacihhmilbaaGreatDoor

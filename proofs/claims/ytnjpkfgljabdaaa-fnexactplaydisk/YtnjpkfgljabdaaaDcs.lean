/-
  A crash, on a disk of the call's own: the model's, call by call. The contract says what it asks.
-/
import Derived.Test.YtnjpkfgljabdaaaDsw
namespace Go.Proofs.Ytnjpkfgljabdaaa
open Go.RowKit
set_option linter.unusedVariables false

theorem has_bool (x : Int) (ks : List Int) : ∃ y : Bool, y = true ↔ x ∈ ks := by
  by_cases hh : x ∈ ks
  · exact ⟨true, fun _ => hh, fun _ => rfl⟩
  · exact ⟨false, fun h => by simp at h, fun h => absurd h hh⟩

set_option maxRecDepth 100000 in
set_option maxHeartbeats 1600000 in
theorem l7Crash_calls (p h b v : Value) (P H : List ByteArray) (B : List Bool) (ks : List Int) (lo hi n : Nat) (w : World) (d : DskV w lo hi p h b P H B) (hhi : hi ≤ w.heap.size) (hP : P.length = n) (hH : H.length = n) (hB : B.length = n) (hn : 0 < n ∧ n ≤ 24)
    (kv : ∀ w', Chg lo hi w w' → Rd w' v ks) :
    Calls Try.prog 69 #[.agg #[p, h, b], v] w fun e w' => e = .returned (.agg #[p, h, b]) ∧ DskV w' lo hi p h b (crP P H ks) (crH H) B ∧ Chg lo hi w w' := by
  obtain ⟨gp, cp, gh, ch, gb, cb, rfl, rfl, rfl, n1, n2, n3, ⟨t1, t2, t3⟩, _⟩ := d.blocks hP hH hB hn.1
  have KV := hide kv
  obtain ⟨av, cv, ev, _, _⟩ := (kv w (Chg.refl _ _ _)).sl
  obtain ⟨W0, e0⟩ : ∃ W0, W0 = (w.alloc (.cells #[.slice (some ⟨gp, 0, none⟩) n cp, .slice (some ⟨gh, 0, none⟩) n ch, .slice (some ⟨gb, 0, none⟩) n cb] 25)).alloc (.cells nil3 25) := ⟨_, rfl⟩
  have b0 : Below w.heap.size w W0 := by rw [e0]; exact (below_box w _).trans ((below_box _ _).mono (by simp))
  have x0 : BoxAt W0 w.heap.size #[.slice (some ⟨gp, 0, none⟩) n cp, .slice (some ⟨gh, 0, none⟩) n ch, .slice (some ⟨gb, 0, none⟩) n cb] 25 := by rw [e0]; exact (BoxAt.new w _ _).below (below_box _ _)
  have y0 : BoxAt W0 (w.heap.size + 1) nil3 25 := by
    rw [e0]
    have := BoxAt.new (w.alloc (.cells #[.slice (some ⟨gp, 0, none⟩) n cp, .slice (some ⟨gh, 0, none⟩) n ch, .slice (some ⟨gb, 0, none⟩) n cb] 25)) nil3 25
    simpa only [World.size_alloc] using this
  have E0 := hide e0.symm
  have C0 := hide (Chg.ofBelow (lo := lo) (hi := hi) b0)
  have X0 := hide x0
  have Y0 := hide y0
  have D0 := hide (d.below b0)
  have SH := hide d.sh
  have LP := hide hP
  have LH := hide hH
  have LB := hide hB
  have s0 : w.heap.size + 1 < W0.heap.size := y0.lt
  have SZ : Hid (∀ i, (H.getD i ⟨#[]⟩).size ≤ maxLen) := by
    show ∀ i, _
    intro i
    have := d.rh.szAt i
    unfold maxLen
    exact this
  clear kv d b0 x0 y0 e0 hP hH hB
  subst ev
  go_enter Try.func69, Try.ntmps69
  go_wp2
  rw [E0.out]
  go_loopw [5, 6, 10] (fun _ _ vi wr => ∃ k : Nat, k ≤ n ∧ vi = .int .i64 k ∧ DskV wr lo hi (.slice (some ⟨gp, 0, none⟩) n cp) (.slice (some ⟨gh, 0, none⟩) n ch) (.slice (some ⟨gb, 0, none⟩) n cb) (crPk P H ks k) (crHk H k) B ∧ Chg lo hi W0 wr) (fun _ _ vi _ => n - (intOf vi).toNat)
  case atStart =>
    refine ⟨0, Nat.zero_le _, rfl, ?_, Chg.refl _ _ _⟩
    rw [crPk_zero, crHk_zero]
    exact D0.out
  case round =>
    obtain ⟨k, hk, rfl, dk, ck⟩ := hrel
    have DK := hide dk
    have CK := hide ck
    have X1 := hide (X0.out.chg ck (.inr hhi))
    have Y1 := hide (Y0.out.chg ck (.inr (by omega)))
    have hs := ck.size
    obtain ⟨c0, c1, c2⟩ := X1.out.c3
    by_cases hlt : k < n
    · obtain ⟨hc, hf⟩ := dk.cellH (by rw [crHk_len]; exact LH.out) k hlt
      rw [crHk_at H k k (by rw [LH.out]; exact hlt), if_neg (by omega)] at hc
      have ST := hide (crHk_step H k (by rw [LH.out]; exact hlt))
      have YES := hide (crPk_yes P H ks k (by rw [LP.out]; exact hlt))
      have NO := hide (crPk_no P H ks k)
      have hz := SZ.out k
      obtain ⟨z, hzz⟩ : ∃ z, z = H.getD k ⟨#[]⟩ := ⟨_, rfl⟩
      rw [← hzz] at hc hz YES
      have HZ := hide hz
      clear hzz dk ck hz
      obtain ⟨y, hy⟩ := has_bool (k : Int) ks
      have HY := hide hy
      have CH : Hid (Calls Try.prog 78 #[.slice av ks.length cv, .int .i64 (k : Int)] wr fun e w' => e = .returned (.bool y) ∧ wr = w') := l1Has_calls _ ks (k : Int) y wr (KV.out _ (C0.out.trans CK.out)) hy
      have hlt' : (k : Int) < (n : Int) := by omega
      clear hy
      cases y with
      | true =>
        have hin : (k : Int) ∈ ks := HY.out.1 rfl
        obtain ⟨hp1, hp2⟩ := DK.out.cellP (by rw [crPk_len]; exact LP.out) k hlt
        obtain ⟨dp, cpp⟩ := DK.out.putP (by rw [crPk_len]; exact LP.out) k z HZ.out
        rw [YES.out hin] at dp
        obtain ⟨hq1, hq2⟩ := dp.cellH (by rw [crHk_len]; exact LH.out) k hlt
        obtain ⟨dq, cq⟩ := dp.putH (by rw [crHk_len]; exact LH.out) k ⟨#[]⟩ (Nat.zero_le _)
        rw [ST.out] at dq
        obtain ⟨e0, e1, e2⟩ := (X1.out.chg cpp (.inr hhi)).c3
        have DQ := hide dq
        have CQ := hide ((CK.out.trans cpp).trans cq)
        clear dp cpp dq cq hin
        go_wp2_with (go_at_call 78; refine CH.out.mono ?_; rintro e w' ⟨rfl, rfl⟩)
        go_roundw
        case rel => exact ⟨k + 1, by omega, by go_num, DQ.out, CQ.out⟩
        case measure => simp [intOf]; omega
      | false =>
        have hin : ¬ (k : Int) ∈ ks := fun h => by have := HY.out.2 h; simp at this
        obtain ⟨dq, cq⟩ := DK.out.putH (by rw [crHk_len]; exact LH.out) k ⟨#[]⟩ (Nat.zero_le _)
        rw [ST.out, NO.out hin] at dq
        have DQ := hide dq
        have CQ := hide (CK.out.trans cq)
        clear dq cq hin
        go_wp2_with (go_at_call 78; refine CH.out.mono ?_; rintro e w' ⟨rfl, rfl⟩)
        go_roundw
        case rel => exact ⟨k + 1, by omega, by go_num, DQ.out, CQ.out⟩
        case measure => simp [intOf]; omega
    · obtain rfl : k = n := by omega
      have dd := DK.out
      rw [show crPk P H ks k = crP P H ks from by unfold crP; rw [LP.out], show crHk H k = crH H from by rw [← crHk_end, LH.out]] at dd
      have DD := hide dd
      have g0 := Y1.out.frozen 0
      have g1 := Y1.out.frozen 1
      have g2 := Y1.out.frozen 2
      obtain ⟨d0, d1, d2⟩ := Y1.out.c3
      have XF := hide (Y1.out.store3 (.slice (some ⟨gp, 0, none⟩) k cp) (.slice (some ⟨gh, 0, none⟩) k ch) (.slice (some ⟨gb, 0, none⟩) k cb))
      have C6 := Chg.store3 (lo := w.heap.size + 1) (hi := w.heap.size + 1 + 1) wr (w.heap.size + 1) (.slice (some ⟨gp, 0, none⟩) k cp) (.slice (some ⟨gh, 0, none⟩) k ch) (.slice (some ⟨gb, 0, none⟩) k cb) (Nat.le_refl _) (by omega)
      have D6 := hide (dd.chg C6 (.inl (by omega)))
      have K6 : Hid (Chg lo hi w _) := chg_new (C0.out.trans CK.out) C6 (Nat.le_succ _)
      clear dd dk ck C6
      go_wp2
      exact bodyPost_ret (res_dsk rfl _ _ (w.heap.size + 1) _ _ _ (0, 0) rfl XF.out) rfl ⟨rfl, D6.out, K6.out⟩
end Go.Proofs.Ytnjpkfgljabdaaa

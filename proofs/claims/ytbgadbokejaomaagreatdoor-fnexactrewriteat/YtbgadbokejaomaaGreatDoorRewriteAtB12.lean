/-
  One sector of a disk of the call's own is written; what a crash leaves. No condition; no call is walked here. A crash, on a disk of the call's own: the model's, call by call. The contract says what it asks. What is kept goes to the plate through a channel: the program's putOnPlate, call by call, by the machine's own steps. The contract says what it asks. What is kept goes to the plate through a channel: the program's putOnPlate as a whole. The contract says what it asks.
-/
import Derived.Test.YtbgadbokejaomaaGreatDoorRewriteAtB11
import Derived.Conc.LoneCalls
import Derived.Conc.LoneSelect
namespace Go.Proofs.YtbgadbokejaomaaGreatDoor
open Go.RowKit
set_option linter.unusedVariables false

section
variable {w : World} {lo hi g c n : Nat} {p h b : Value} {P H : List ByteArray} {B : List Bool}
theorem mem_set_small {P : List ByteArray} (hs : ∀ s ∈ P, s.size ≤ maxLen) (i : Nat) {z : ByteArray} (hz : z.size ≤ maxLen) : ∀ s ∈ P.set i z, s.size ≤ maxLen := by
  intro s h
  rcases List.mem_or_eq_of_mem_set h with h | h
  · exact hs s h
  · rw [h]; exact hz
theorem DskV.putP (d : DskV w lo hi (.slice (some ⟨g, 0, none⟩) n c) h b P H B) (hn : P.length = n) (i : Nat) (z : ByteArray) (hz : z.size ≤ maxLen) :
    DskV (w.setCell ⟨g, i, none⟩ (.string z)) lo hi (.slice (some ⟨g, 0, none⟩) n c) h b (P.set i z) H B ∧ Chg lo hi w (w.setCell ⟨g, i, none⟩ (.string z)) := by
  subst hn
  have st := World.ownsRow.stored d.plate i (.string z)
  rw [← List.map_set] at st
  have hg : w.grownBy (w.setCell ⟨g, i, none⟩ (.string z)) (some g) := st.2
  refine ⟨d.setP ?_ (mem_set_small d.sp i hz) hg, d.chgP hg⟩
  show World.ownsRow _ _ _ _ _ (P.set i z).length _
  rw [List.length_set]
  exact st.1
theorem DskV.putH (d : DskV w lo hi p (.slice (some ⟨g, 0, none⟩) n c) b P H B) (hn : H.length = n) (i : Nat) (z : ByteArray) (hz : z.size ≤ maxLen) :
    DskV (w.setCell ⟨g, i, none⟩ (.string z)) lo hi p (.slice (some ⟨g, 0, none⟩) n c) b P (H.set i z) B ∧ Chg lo hi w (w.setCell ⟨g, i, none⟩ (.string z)) := by
  subst hn
  have st := World.ownsRow.stored d.held i (.string z)
  rw [← List.map_set] at st
  have hg : w.grownBy (w.setCell ⟨g, i, none⟩ (.string z)) (some g) := st.2
  refine ⟨d.setH ?_ (mem_set_small d.sh i hz) hg, d.chgH hg⟩
  show World.ownsRow _ _ _ _ _ (H.set i z).length _
  rw [List.length_set]
  exact st.1
theorem DskV.putB (d : DskV w lo hi p h (.slice (some ⟨g, 0, none⟩) n c) P H B) (hn : B.length = n) (i : Nat) (z : Bool) :
    DskV (w.setCell ⟨g, i, none⟩ (.bool z)) lo hi p h (.slice (some ⟨g, 0, none⟩) n c) P H (B.set i z) ∧ Chg lo hi w (w.setCell ⟨g, i, none⟩ (.bool z)) := by
  subst hn
  have st := World.ownsRow.stored d.bad i (.bool z)
  rw [← List.map_set] at st
  have hg : w.grownBy (w.setCell ⟨g, i, none⟩ (.bool z)) (some g) := st.2
  refine ⟨d.setB ?_ hg, d.chgB hg⟩
  show World.ownsRow _ _ _ _ _ (B.set i z).length _
  rw [List.length_set]
  exact st.1
theorem DskV.cellP (d : DskV w lo hi (.slice (some ⟨g, 0, none⟩) n c) h b P H B) (hn : P.length = n) (i : Nat) (hi' : i < n) : w.cell? ⟨g, i, none⟩ = some (.string (P.getD i ⟨#[]⟩)) ∧ w.frozen? ⟨g, i, none⟩ = false := by
  subst hn
  refine ⟨?_, World.ownsRow.frozenAt d.plate i⟩
  rw [World.ownsRow.cellAt d.plate i (by omega), List.getElem?_map, List.getD_eq_getElem?_getD, List.getElem?_eq_getElem hi']
  rfl
theorem DskV.cellH (d : DskV w lo hi p (.slice (some ⟨g, 0, none⟩) n c) b P H B) (hn : H.length = n) (i : Nat) (hi' : i < n) : w.cell? ⟨g, i, none⟩ = some (.string (H.getD i ⟨#[]⟩)) ∧ w.frozen? ⟨g, i, none⟩ = false := by
  subst hn
  refine ⟨?_, World.ownsRow.frozenAt d.held i⟩
  rw [World.ownsRow.cellAt d.held i (by omega), List.getElem?_map, List.getD_eq_getElem?_getD, List.getElem?_eq_getElem hi']
  rfl
theorem DskV.cellB (d : DskV w lo hi p h (.slice (some ⟨g, 0, none⟩) n c) P H B) (hn : B.length = n) (i : Nat) (hi' : i < n) : w.cell? ⟨g, i, none⟩ = some (.bool (B.getD i false)) ∧ w.frozen? ⟨g, i, none⟩ = false := by
  subst hn
  refine ⟨?_, World.ownsRow.frozenAt d.bad i⟩
  rw [World.ownsRow.cellAt d.bad i (by omega), List.getElem?_map, List.getD_eq_getElem?_getD, List.getElem?_eq_getElem hi']
  rfl
/-- The three rows' blocks. -/
theorem DskV.blocks (d : DskV w lo hi p h b P H B) (hP : P.length = n) (hH : H.length = n) (hB : B.length = n) (h0 : 0 < n) :
    ∃ gp cp gh ch gb cb, p = .slice (some ⟨gp, 0, none⟩) n cp ∧ h = .slice (some ⟨gh, 0, none⟩) n ch ∧ b = .slice (some ⟨gb, 0, none⟩) n cb ∧ gp ≠ gh ∧ gp ≠ gb ∧ gh ≠ gb ∧ (gp < hi ∧ gh < hi ∧ gb < hi) ∧ (lo ≤ gp ∧ lo ≤ gh ∧ lo ≤ gb) := by
  rcases d.plate.2 with ⟨_, h0⟩ | ⟨gp, cp, _, rfl, lp, _⟩
  · omega
  rcases d.held.2 with ⟨_, h0⟩ | ⟨gh, ch, _, rfl, lh, _⟩
  · omega
  rcases d.bad.2 with ⟨_, h0⟩ | ⟨gb, cb, _, rfl, lb, _⟩
  · omega
  refine ⟨gp, cp, gh, ch, gb, cb, by rw [hP], by rw [hH], by rw [hB], ?_, ?_, ?_, ⟨d.tp gp rfl, d.th gh rfl, d.tb gb rfl⟩, lp, lh, lb⟩
  · have := d.ph
    simpa [Value.ownBlock] using this
  · have := (bol_txt d.bad d.plate).2
    simpa [Value.ownBlock] using this
  · have := (bol_txt d.bad d.held).2
    simpa [Value.ownBlock] using this
end

theorem ext_getD {l m : List ByteArray} (hl : l.length = m.length) (h : ∀ i, i < l.length → l.getD i ⟨#[]⟩ = m.getD i ⟨#[]⟩) : l = m := by
  apply List.ext_getElem hl
  intro i h1 h2
  have := h i h1
  rwa [List.getD_eq_getElem?_getD, List.getD_eq_getElem?_getD, List.getElem?_eq_getElem h1, List.getElem?_eq_getElem h2] at this
theorem getD_setT (l : List ByteArray) (i j : Nat) (x : ByteArray) (h : i < l.length) : (l.set i x).getD j ⟨#[]⟩ = if j = i then x else l.getD j ⟨#[]⟩ := by
  simp only [List.getD_eq_getElem?_getD, List.getElem?_set]
  by_cases e : i = j
  · subst e; simp [h]
  · rw [if_neg e, if_neg (fun h => e h.symm)]
/-- The plate behind a crash, so far. -/
def crPk (P H : List ByteArray) (ks : List Int) (k : Nat) : List ByteArray := (List.range P.length).map fun i => if i < k ∧ (i : Int) ∈ ks then H.getD i ⟨#[]⟩ else P.getD i ⟨#[]⟩
def crHk (H : List ByteArray) (k : Nat) : List ByteArray := (List.range H.length).map fun i => if i < k then ⟨#[]⟩ else H.getD i ⟨#[]⟩
/-- The plate behind a crash. -/
def crP (P H : List ByteArray) (ks : List Int) : List ByteArray := crPk P H ks P.length
def crH (H : List ByteArray) : List ByteArray := List.replicate H.length ⟨#[]⟩
theorem crPk_len (P H : List ByteArray) (ks : List Int) (k : Nat) : (crPk P H ks k).length = P.length := by simp [crPk]
theorem crHk_len (H : List ByteArray) (k : Nat) : (crHk H k).length = H.length := by simp [crHk]
theorem crPk_at (P H : List ByteArray) (ks : List Int) (k i : Nat) (h : i < P.length) : (crPk P H ks k).getD i ⟨#[]⟩ = if i < k ∧ (i : Int) ∈ ks then H.getD i ⟨#[]⟩ else P.getD i ⟨#[]⟩ := by
  unfold crPk
  rw [List.getD_eq_getElem?_getD, List.getElem?_map, List.getElem?_range h]
  rfl
theorem crHk_at (H : List ByteArray) (k i : Nat) (h : i < H.length) : (crHk H k).getD i ⟨#[]⟩ = if i < k then ⟨#[]⟩ else H.getD i ⟨#[]⟩ := by
  unfold crHk
  rw [List.getD_eq_getElem?_getD, List.getElem?_map, List.getElem?_range h]
  rfl
theorem crPk_zero (P H : List ByteArray) (ks : List Int) : crPk P H ks 0 = P := by
  refine ext_getD (crPk_len _ _ _ _) fun i hi => ?_
  rw [crPk_len] at hi
  rw [crPk_at P H ks 0 i hi, if_neg (fun h => by omega)]
theorem crHk_zero (H : List ByteArray) : crHk H 0 = H := by
  refine ext_getD (crHk_len _ _) fun i hi => ?_
  rw [crHk_len] at hi
  rw [crHk_at H 0 i hi, if_neg (by omega)]
theorem crPk_yes (P H : List ByteArray) (ks : List Int) (k : Nat) (hk : k < P.length) (h : (k : Int) ∈ ks) : (crPk P H ks k).set k (H.getD k ⟨#[]⟩) = crPk P H ks (k + 1) := by
  refine ext_getD (by rw [List.length_set, crPk_len, crPk_len]) fun i hi => ?_
  rw [List.length_set, crPk_len] at hi
  rw [getD_setT _ _ _ _ (by rw [crPk_len]; exact hk), crPk_at P H ks _ i hi, crPk_at P H ks _ i hi]
  by_cases e : i = k
  · subst e; rw [if_pos rfl, if_pos ⟨by omega, h⟩]
  · rw [if_neg e]
    by_cases h2 : i < k ∧ (i : Int) ∈ ks
    · rw [if_pos h2, if_pos ⟨by omega, h2.2⟩]
    · rw [if_neg h2, if_neg (fun h3 => h2 ⟨by omega, h3.2⟩)]
theorem crPk_no (P H : List ByteArray) (ks : List Int) (k : Nat) (h : ¬ (k : Int) ∈ ks) : crPk P H ks k = crPk P H ks (k + 1) := by
  refine ext_getD (by rw [crPk_len, crPk_len]) fun i hi => ?_
  rw [crPk_len] at hi
  rw [crPk_at P H ks _ i hi, crPk_at P H ks _ i hi]
  by_cases h2 : i < k ∧ (i : Int) ∈ ks
  · rw [if_pos h2, if_pos ⟨by omega, h2.2⟩]
  · rw [if_neg h2, if_neg (fun h3 => h2 ⟨?_, h3.2⟩)]
    have : ¬ i = k := fun e => h (by rw [← e]; exact h3.2)
    omega
theorem crHk_step (H : List ByteArray) (k : Nat) (hk : k < H.length) : (crHk H k).set k ⟨#[]⟩ = crHk H (k + 1) := by
  refine ext_getD (by rw [List.length_set, crHk_len, crHk_len]) fun i hi => ?_
  rw [List.length_set, crHk_len] at hi
  rw [getD_setT _ _ _ _ (by rw [crHk_len]; exact hk), crHk_at H _ i hi, crHk_at H _ i hi]
  by_cases e : i = k
  · subst e; rw [if_pos rfl, if_pos (by omega)]
  · rw [if_neg e]
    by_cases h2 : i < k
    · rw [if_pos h2, if_pos (by omega)]
    · rw [if_neg h2, if_neg (by omega)]
theorem crHk_end (H : List ByteArray) : crHk H H.length = crH H := by
  refine ext_getD (by rw [crHk_len, crH, List.length_replicate]) fun i hi => ?_
  rw [crHk_len] at hi
  rw [crHk_at H _ i hi, if_pos hi, crH, List.getD_eq_getElem?_getD, List.getElem?_replicate, if_pos hi]
  rfl
end Go.Proofs.YtbgadbokejaomaaGreatDoor

namespace Go.Proofs.YtbgadbokejaomaaGreatDoor
open Go.RowKit
set_option linter.unusedVariables false

theorem has_bool (x : Int) (ks : List Int) : ∃ y : Bool, y = true ↔ x ∈ ks := by
  by_cases hh : x ∈ ks
  · exact ⟨true, fun _ => hh, fun _ => rfl⟩
  · exact ⟨false, fun h => by simp at h, fun h => absurd h hh⟩

set_option maxRecDepth 100000 in
set_option maxHeartbeats 1600000 in
theorem l7Crash_calls (p h b v : Value) (P H : List ByteArray) (B : List Bool) (ks : List Int) (lo hi n : Nat) (w : World) (d : DskV w lo hi p h b P H B) (hhi : hi ≤ w.heap.size) (hP : P.length = n) (hH : H.length = n) (hB : B.length = n) (hn : 0 < n ∧ n ≤ 24)
    (kv : ∀ w', Chg lo hi w w' → Rd w' v ks) :
    Calls Tryz.prog 59 #[.agg #[p, h, b], v] w fun e w' => e = .returned (.agg #[p, h, b]) ∧ DskV w' lo hi p h b (crP P H ks) (crH H) B ∧ Chg lo hi w w' := by
  obtain ⟨gp, cp, gh, ch, gb, cb, rfl, rfl, rfl, n1, n2, n3, ⟨t1, t2, t3⟩, _⟩ := d.blocks hP hH hB hn.1
  have KV := hide kv
  obtain ⟨av, cv, ev, _, _⟩ := (kv w (Chg.refl _ _ _)).sl
  obtain ⟨W0, e0⟩ : ∃ W0, W0 = (w.alloc (.cells #[.slice (some ⟨gp, 0, none⟩) n cp, .slice (some ⟨gh, 0, none⟩) n ch, .slice (some ⟨gb, 0, none⟩) n cb] 26)).alloc (.cells nil3 26) := ⟨_, rfl⟩
  have b0 : Below w.heap.size w W0 := by rw [e0]; exact (below_box w _).trans ((below_box _ _).mono (by simp))
  have x0 : BoxAt W0 w.heap.size #[.slice (some ⟨gp, 0, none⟩) n cp, .slice (some ⟨gh, 0, none⟩) n ch, .slice (some ⟨gb, 0, none⟩) n cb] 26 := by rw [e0]; exact (BoxAt.new w _ _).below (below_box _ _)
  have y0 : BoxAt W0 (w.heap.size + 1) nil3 26 := by
    rw [e0]
    have := BoxAt.new (w.alloc (.cells #[.slice (some ⟨gp, 0, none⟩) n cp, .slice (some ⟨gh, 0, none⟩) n ch, .slice (some ⟨gb, 0, none⟩) n cb] 26)) nil3 26
    simpa only [World.size_alloc] using this
  have E0 := hide e0.symm
  have C0 := hide (Chg.ofBelow (lo := lo) (hi := hi) b0)
  have X0 := hide x0
  have Y0 := hide y0
  have D0 := hide (d.below b0)
  have SH := hide d.sh
  have LP := hide hP
  have LH := hide hH
  have LB := hide hB
  have s0 : w.heap.size + 1 < W0.heap.size := y0.lt
  have SZ : Hid (∀ i, (H.getD i ⟨#[]⟩).size ≤ maxLen) := by
    show ∀ i, _
    intro i
    have := d.rh.szAt i
    unfold maxLen
    exact this
  clear kv d b0 x0 y0 e0 hP hH hB
  subst ev
  go_enter Tryz.func59, Tryz.ntmps59
  go_wp2
  rw [E0.out]
  go_loopw [5, 6, 10] (fun _ _ vi wr => ∃ k : Nat, k ≤ n ∧ vi = .int .i64 k ∧ DskV wr lo hi (.slice (some ⟨gp, 0, none⟩) n cp) (.slice (some ⟨gh, 0, none⟩) n ch) (.slice (some ⟨gb, 0, none⟩) n cb) (crPk P H ks k) (crHk H k) B ∧ Chg lo hi W0 wr) (fun _ _ vi _ => n - (intOf vi).toNat)
  case atStart =>
    refine ⟨0, Nat.zero_le _, rfl, ?_, Chg.refl _ _ _⟩
    rw [crPk_zero, crHk_zero]
    exact D0.out
  case round =>
    obtain ⟨k, hk, rfl, dk, ck⟩ := hrel
    have DK := hide dk
    have CK := hide ck
    have X1 := hide (X0.out.chg ck (.inr hhi))
    have Y1 := hide (Y0.out.chg ck (.inr (by omega)))
    have hs := ck.size
    obtain ⟨c0, c1, c2⟩ := X1.out.c3
    by_cases hlt : k < n
    · obtain ⟨hc, hf⟩ := dk.cellH (by rw [crHk_len]; exact LH.out) k hlt
      rw [crHk_at H k k (by rw [LH.out]; exact hlt), if_neg (by omega)] at hc
      have ST := hide (crHk_step H k (by rw [LH.out]; exact hlt))
      have YES := hide (crPk_yes P H ks k (by rw [LP.out]; exact hlt))
      have NO := hide (crPk_no P H ks k)
      have hz := SZ.out k
      obtain ⟨z, hzz⟩ : ∃ z, z = H.getD k ⟨#[]⟩ := ⟨_, rfl⟩
      rw [← hzz] at hc hz YES
      have HZ := hide hz
      clear hzz dk ck hz
      obtain ⟨y, hy⟩ := has_bool (k : Int) ks
      have HY := hide hy
      have CH : Hid (Calls Tryz.prog 111 #[.slice av ks.length cv, .int .i64 (k : Int)] wr fun e w' => e = .returned (.bool y) ∧ wr = w') := l1Has_calls _ ks (k : Int) y wr (KV.out _ (C0.out.trans CK.out)) hy
      have hlt' : (k : Int) < (n : Int) := by omega
      clear hy
      cases y with
      | true =>
        have hin : (k : Int) ∈ ks := HY.out.1 rfl
        obtain ⟨hp1, hp2⟩ := DK.out.cellP (by rw [crPk_len]; exact LP.out) k hlt
        obtain ⟨dp, cpp⟩ := DK.out.putP (by rw [crPk_len]; exact LP.out) k z HZ.out
        rw [YES.out hin] at dp
        obtain ⟨hq1, hq2⟩ := dp.cellH (by rw [crHk_len]; exact LH.out) k hlt
        obtain ⟨dq, cq⟩ := dp.putH (by rw [crHk_len]; exact LH.out) k ⟨#[]⟩ (Nat.zero_le _)
        rw [ST.out] at dq
        obtain ⟨e0, e1, e2⟩ := (X1.out.chg cpp (.inr hhi)).c3
        have DQ := hide dq
        have CQ := hide ((CK.out.trans cpp).trans cq)
        clear dp cpp dq cq hin
        go_wp2_with (go_at_call 111; refine CH.out.mono ?_; rintro e w' ⟨rfl, rfl⟩)
        go_roundw
        case rel => exact ⟨k + 1, by omega, by go_num, DQ.out, CQ.out⟩
        case measure => simp [intOf]; omega
      | false =>
        have hin : ¬ (k : Int) ∈ ks := fun h => by have := HY.out.2 h; simp at this
        obtain ⟨dq, cq⟩ := DK.out.putH (by rw [crHk_len]; exact LH.out) k ⟨#[]⟩ (Nat.zero_le _)
        rw [ST.out, NO.out hin] at dq
        have DQ := hide dq
        have CQ := hide (CK.out.trans cq)
        clear dq cq hin
        go_wp2_with (go_at_call 111; refine CH.out.mono ?_; rintro e w' ⟨rfl, rfl⟩)
        go_roundw
        case rel => exact ⟨k + 1, by omega, by go_num, DQ.out, CQ.out⟩
        case measure => simp [intOf]; omega
    · obtain rfl : k = n := by omega
      have dd := DK.out
      rw [show crPk P H ks k = crP P H ks from by unfold crP; rw [LP.out], show crHk H k = crH H from by rw [← crHk_end, LH.out]] at dd
      have DD := hide dd
      have g0 := Y1.out.frozen 0
      have g1 := Y1.out.frozen 1
      have g2 := Y1.out.frozen 2
      obtain ⟨d0, d1, d2⟩ := Y1.out.c3
      have XF := hide (Y1.out.store3 (.slice (some ⟨gp, 0, none⟩) k cp) (.slice (some ⟨gh, 0, none⟩) k ch) (.slice (some ⟨gb, 0, none⟩) k cb))
      have C6 := Chg.store3 (lo := w.heap.size + 1) (hi := w.heap.size + 1 + 1) wr (w.heap.size + 1) (.slice (some ⟨gp, 0, none⟩) k cp) (.slice (some ⟨gh, 0, none⟩) k ch) (.slice (some ⟨gb, 0, none⟩) k cb) (Nat.le_refl _) (by omega)
      have D6 := hide (dd.chg C6 (.inl (by omega)))
      have K6 : Hid (Chg lo hi w _) := chg_new (C0.out.trans CK.out) C6 (Nat.le_succ _)
      clear dd dk ck C6
      go_wp2
      exact bodyPost_ret (res_dsk rfl _ _ (w.heap.size + 1) _ _ _ (0, 0) rfl XF.out) rfl ⟨rfl, D6.out, K6.out⟩
end Go.Proofs.YtbgadbokejaomaaGreatDoor

namespace Go.Proofs.YtbgadbokejaomaaGreatDoor
open Go.RowKit Go.Conc
set_option linter.unusedVariables false

def cSeq1 : Code → Code | .seq x _ => x | c => c
def cSeq2 : Code → Code | .seq _ y => y | c => c
def cBlk : Code → Code | .block _ c => c | c => c
def cLoop : Code → Code | .loop c => c | c => c
/-- The pieces of the function's own text. -/
def plT (c : Code) : Code := cSeq2 (cSeq2 c)
def plB2 (c : Code) : Code := cSeq2 (plT c)
def plL1 (c : Code) : Code := cLoop (cBlk (cSeq2 (cSeq1 (plT c))))
def plL2 (c : Code) : Code := cLoop (cBlk (plB2 c))

/-- What is sent for the places from j on. -/
def msg (H : List ByteArray) (x : Int) : Value := .agg #[.int .i64 x, .string (H.getD x.toNat ⟨#[]⟩)]
def msgs (H : List ByteArray) (ks : List Int) : Array Value := (ks.map (msg H)).toArray
theorem crP_snoc (P H : List ByteArray) (ks : List Int) (j k : Nat) (hj : j < ks.length) (hk : ks.getD j 0 = (k : Int)) (hkP : k < P.length) : (crP P H (ks.take j)).set k (H.getD k ⟨#[]⟩) = crP P H (ks.take (j + 1)) := by
  have hmem : ∀ i : Nat, (i : Int) ∈ ks.take (j + 1) ↔ (i = k ∨ (i : Int) ∈ ks.take j) := by
    intro i
    rw [List.take_succ_eq_append_getElem hj, List.mem_append, List.mem_singleton]
    have e : ks[j] = (k : Int) := by rw [← hk, List.getD_eq_getElem?_getD, List.getElem?_eq_getElem hj, Option.getD_some]
    rw [e]
    constructor
    · rintro (h | h)
      · exact .inr h
      · exact .inl (by omega)
    · rintro (h | h)
      · exact .inr (by omega)
      · exact .inl h
  unfold crP
  refine ext_getD (by rw [List.length_set, crPk_len, crPk_len]) fun i hi => ?_
  rw [List.length_set, crPk_len] at hi
  rw [getD_setT _ _ _ _ (by rw [crPk_len]; exact hkP), crPk_at P H _ _ i hi, crPk_at P H _ _ i hi]
  by_cases e : i = k
  · subst e; rw [if_pos rfl, if_pos ⟨hi, (hmem i).2 (.inl rfl)⟩]
  · rw [if_neg e]
    by_cases h2 : i < P.length ∧ (i : Int) ∈ ks.take j
    · rw [if_pos h2, if_pos ⟨hi, (hmem i).2 (.inr h2.2)⟩]
    · rw [if_neg h2, if_neg (fun h3 => h2 ⟨hi, ((hmem i).1 h3.2).resolve_left e⟩)]
theorem crP_nil (P H : List ByteArray) : crP P H [] = P := by
  refine ext_getD (crPk_len _ _ _ _) fun i hi => ?_
  unfold crP at *
  rw [crPk_len] at hi
  rw [crPk_at P H [] _ i hi, if_neg (fun h => by simp at h)]

theorem Chg.ofSetChan {lo hi : Nat} (w : World) (c cap : Nat) (buf : Array Value) (cl : Bool) (s r : Nat) (tm : Bool) (h1 : lo ≤ c) (h2 : c < hi) : Chg lo hi w (w.setChan c cap buf cl s r tm) := by
  refine ⟨rfl, rfl, rfl, by simp [World.setChan], fun k hk ho => ?_⟩
  simp only [World.setChan]
  rw [Array.getElem?_setIfInBounds_ne (by omega)]
theorem msgs_cons (H : List ByteArray) (x : Int) (l : List Int) : 0 < (msgs H (x :: l)).size ∧ (msgs H (x :: l)).getD 0 undef = msg H x ∧ (msgs H (x :: l)).extract 1 (msgs H (x :: l)).size = msgs H l := by
  refine ⟨by simp [msgs], by simp [msgs], ?_⟩
  apply Array.ext'
  simp [msgs, List.take_of_length_le]

set_option maxRecDepth 100000 in
set_option maxHeartbeats 1600000 in
theorem pl_loop2 (R : Ending → World → Prop) (gp cp gh ch gb cb n N c : Nat) (v : Value) (P H : List ByteArray) (B : List Bool) (ks : List Int) (lo hi : Nat) (w0 : World) (cs : List Frame)
    (hP : P.length = n) (hH : H.length = n) (hhi : hi ≤ N) (hN : w0.heap.size = N) (hc : c = N + 1) (kr : ∀ i, i < ks.length → 0 ≤ ks.getD i 0 ∧ ks.getD i 0 < (n : Int)) (hn : n ≤ 24)
    (fin : ∀ w', DskV w' lo hi (.slice (some ⟨gp, 0, none⟩) n cp) (.slice (some ⟨gh, 0, none⟩) n ch) (.slice (some ⟨gb, 0, none⟩) n cb) (crP P H ks) H B → Chg lo hi w0 w' → R (.returned (.tuple #[])) w') :
    ∀ (m j : Nat) (w : World) (u3 u5 u6 u7 u8 u9 u10 u11 u12 u13 u14 u15 u16 u17 u18 u19 u20 u21 u22 u23 u24 u25 u26 u27 u28 u29 u30 u31 u32 u33 u34 u35 u36 u37 : Value) (s r : Nat),
      m = ks.length - j → j ≤ ks.length → w.heap[c]? = some (.chan ks.length (msgs H (ks.drop j)) false s r false) → BoxAt w N #[.slice (some ⟨gp, 0, none⟩) n cp, .slice (some ⟨gh, 0, none⟩) n ch, .slice (some ⟨gb, 0, none⟩) n cb] 26 →
      DskV w lo hi (.slice (some ⟨gp, 0, none⟩) n cp) (.slice (some ⟨gh, 0, none⟩) n ch) (.slice (some ⟨gb, 0, none⟩) n cb) (crP P H (ks.take j)) H B → Chg lo hi w0 w →
      LoneTo Tryz.prog (fun g' w' => ∃ e fr, g' = G fr cs ∧ R e w' ∧ fr.fn = 166 ∧ fr.leaving Tryz.prog w' e)
        (G ((base 166).at ⟨#[.agg #[.slice (some ⟨gp, 0, none⟩) n cp, .slice (some ⟨gh, 0, none⟩) n ch, .slice (some ⟨gb, 0, none⟩) n cb], v, .pointer (some ⟨N, 0, none⟩), u3, .chan (some c), u5, u6, u7, u8, u9, u10, u11, u12, u13, u14, u15, u16, u17, u18, u19, u20, u21, u22, u23, u24, u25, u26, u27, u28, u29, u30, u31, u32, u33, u34, u35, u36, u37], []⟩ [.code (plL2 (Tryz.f166.body.getD .skip)), .inLoop (plL2 (Tryz.f166.body.getD .skip)), .inBlock 2]) cs) w := by
  have LP := hide hP
  have LH := hide hH
  have HN := hide hN
  have HC := hide hc
  have KR := hide kr
  have FIN := hide fin
  clear hP hH hN hc kr fin
  intro m
  induction m with
  | zero =>
    intro j w u3 u5 u6 u7 u8 u9 u10 u11 u12 u13 u14 u15 u16 u17 u18 u19 u20 u21 u22 u23 u24 u25 u26 u27 u28 u29 u30 u31 u32 u33 u34 u35 u36 u37 s r hm hj hch hbox hd hchg
    obtain rfl : j = ks.length := by omega
    rw [List.take_length] at hd
    rw [List.drop_length] at hch
    have CH := hide hch
    have BX := hide hbox
    have DD := hide hd
    have CG := hide hchg
    clear hm hj hch hbox hd hchg
    refine LoneTo.goes (n := 7) ?_
    simp only [plL2, plB2, plT, cSeq2, cBlk, cLoop, Tryz.f166, Option.getD_some]
    s_c stepG_block
    s_c stepG_seq
    s_reg
    s_op
    s_c stepG_region_end
    s_c stepG_seq
    s_reg
    s_stop
    refine LoneTo.step (step_lone_select_default (c := c) (z := .agg #[.int .i64 0, .string ⟨#[]⟩]) (cap := ks.length) (s := s) (r := r) (tm := false) (stepG_comm (cases := #[rcase c (.agg #[.int .i64 0, .string ⟨#[]⟩])]) (blocking := false) (shape := .select) (w' := w) rfl rfl (by decide) (by simp [go_sem, execOp, rcase, Act.eval])) CH.out) ?_
    rw [Frame.finish_at]
    walk_nrm
    refine LoneTo.goes (n := 6) ?_
    s_op
    s_op
    s_c stepG_region_end
    s_c stepG_block
    s_cond false
    s_c stepG_ret'
    s_stop
    exact LoneTo.done ⟨.returned (.tuple #[]), _, rfl, FIN.out _ DD.out CG.out, rfl, rfl, rfl, rfl, _, Tryz.func166, by simp [results, Tryz.f166]⟩
  | succ m ih =>
    intro j w u3 u5 u6 u7 u8 u9 u10 u11 u12 u13 u14 u15 u16 u17 u18 u19 u20 u21 u22 u23 u24 u25 u26 u27 u28 u29 u30 u31 u32 u33 u34 u35 u36 u37 s r hm hj hch hbox hd hchg
    have IH := hide ih
    have hjl : j < ks.length := by omega
    obtain ⟨k0, k1⟩ := KR.out j hjl
    obtain ⟨k, hk⟩ : ∃ k : Nat, ks.getD j 0 = (k : Int) := ⟨(ks.getD j 0).toNat, by omega⟩
    have hkn : k < n := by omega
    have hdrop : ks.drop j = (k : Int) :: ks.drop (j + 1) := by
      rw [List.drop_eq_getElem_cons hjl, ← hk, List.getD_eq_getElem?_getD, List.getElem?_eq_getElem hjl, Option.getD_some]
    rw [hdrop] at hch
    obtain ⟨q1, q2, q3⟩ := msgs_cons H (k : Int) (ks.drop (j + 1))
    have SN := hide (crP_snoc P H ks j k hjl hk (by rw [LP.out]; exact hkn))
    have hz : (H.getD k ⟨#[]⟩).size ≤ maxLen := by
      have := hd.rh.szAt k
      unfold maxLen
      exact this
    have eM : msg H (k : Int) = .agg #[.int .i64 (k : Int), .string (H.getD k ⟨#[]⟩)] := by unfold msg; rw [Int.toNat_natCast]
    rw [eM] at q2
    generalize H.getD k ⟨#[]⟩ = z at q2 SN hz
    have CH := hide hch
    have Q1 := hide q1
    have Q2 := hide q2
    have Q3 := hide q3
    have HZ := hide hz
    have BX := hide hbox
    have DD := hide hd
    have CG := hide hchg
    have HM : Hid (m = ks.length - (j + 1)) := by show _ = _; omega
    have hcl : c < w.heap.size := (Array.getElem?_eq_some_iff.1 hch).1
    have HCL := hide hcl
    clear ih hm hj hch hbox hd hchg k0 k1 hk hdrop q1 q2 q3 eM hz hcl
    refine LoneTo.goes (n := 7) ?_
    simp only [plL2, plB2, plT, cSeq2, cBlk, cLoop, Tryz.f166, Option.getD_some]
    s_c stepG_block
    s_c stepG_seq
    s_reg
    s_op
    s_c stepG_region_end
    s_c stepG_seq
    s_reg
    s_stop
    refine LoneTo.step (step_lone_select_recv_buf (c := c) (z := .agg #[.int .i64 0, .string ⟨#[]⟩]) (stepG_comm (cases := #[rcase c (.agg #[.int .i64 0, .string ⟨#[]⟩])]) (blocking := false) (shape := .select) (w' := w) rfl rfl (by decide) (by simp [go_sem, execOp, rcase, Act.eval])) CH.out Q1.out) ?_
    rw [Q2.out, Q3.out]
    rw [Frame.finish_at]
    walk_nrm
    have ck := Chg.ofSetChan (lo := N + 1) (hi := N + 1 + 1) w c ks.length (msgs H (ks.drop (j + 1))) false s (r + 1) false (by have := HC.out; omega) (by have := HC.out; omega)
    have hch1 := heap_setChan w c ks.length (msgs H (ks.drop (j + 1))) false s (r + 1) false HCL.out
    generalize w.setChan c ks.length (msgs H (ks.drop (j + 1))) false s (r + 1) false = w1 at *
    have bx1 := BX.out.chg ck (.inl (by omega))
    have d1 := DD.out.chg ck (.inl (by omega))
    have cg1 := chg_new CG.out ck (by have := HN.out; omega)
    have l1 := bx1.lt
    have bb := below_box w1 (.cells #[.int .i64 (k : Int), .string z] 211)
    have d2 := d1.below bb
    obtain ⟨hp1, hp2⟩ := d2.cellP (by rw [crP, crPk_len]; exact LP.out) k hkn
    obtain ⟨dp, cpp⟩ := d1.putP (by rw [crP, crPk_len]; exact LP.out) k z HZ.out
    rw [SN.out] at dp
    have bx2 := bx1.below bb
    have b3 := below_box (w1.setCell ⟨gp, k, none⟩ (.string z)) (.cells #[.int .i64 (k : Int), .string z] 211)
    obtain ⟨c0, c1, c2⟩ := bx2.c3
    have DP := hide (dp.below b3)
    have CC := hide ((cg1.trans cpp).trans (Chg.ofBelow b3))
    have BF := hide ((bx1.chg cpp (.inr hhi)).below b3)
    have CF : Hid (((w1.setCell ⟨gp, k, none⟩ (.string z)).alloc (.cells #[.int .i64 (k : Int), .string z] 211)).heap[c]? = some (.chan ks.length (msgs H (ks.drop (j + 1))) false s (r + 1) false)) := by
      show _ = _
      have h1 := (Array.getElem?_eq_some_iff.1 hch1).1
      rw [b3.block c (by simp; omega), cpp.block c h1 (.inr (by have := HC.out; omega))]
      exact hch1
    have hk' : (k : Int) < (n : Int) := by omega
    have hgp : gp < w1.heap.size := by
      have := d1.tp gp rfl
      omega
    clear ck hch1 bx1 d1 cg1 bb d2 dp cpp bx2 c1 c2 b3
    refine LoneTo.goes (n := 24) ?_
    s_op
    s_op
    s_c stepG_region_end
    s_c stepG_block
    s_cond true
    s_c stepG_seq
    s_reg
    s_op
    s_op
    s_op
    s_c stepG_region_end
    s_reg
    s_op
    s_op
    s_op
    s_op
    s_op
    s_op
    s_op
    s_op
    s_c stepG_region_end
    s_c stepG_inBlock
    s_c stepG_inBlock
    s_c stepG_inLoop
    s_stop
    exact IH.out (j + 1) _ _ _ _ _ _ _ _ _ _ _ _ _ _ _ _ _ _ _ _ _ _ _ _ _ _ _ _ _ _ _ _ _ _ _ s (r + 1) HM.out hjl CF.out BF.out DP.out CC.out

set_option maxRecDepth 100000 in
set_option maxHeartbeats 1600000 in
theorem pl_loop1 (R : Ending → World → Prop) (gp cp gh ch gb cb n N c : Nat) (av : Option Addr) (cv : Nat) (P H : List ByteArray) (B : List Bool) (ks : List Int) (lo hi : Nat) (w0 : World) (cs : List Frame)
    (hP : P.length = n) (hH : H.length = n) (hhi : hi ≤ N) (hN : w0.heap.size = N) (hc : c = N + 1) (kr : ∀ i, i < ks.length → 0 ≤ ks.getD i 0 ∧ ks.getD i 0 < (n : Int)) (hn : n ≤ 24) (hkl : ks.length ≤ 1048576)
    (kv : ∀ w', Chg lo hi w0 w' → Rd w' (.slice av ks.length cv) ks)
    (fin : ∀ w', DskV w' lo hi (.slice (some ⟨gp, 0, none⟩) n cp) (.slice (some ⟨gh, 0, none⟩) n ch) (.slice (some ⟨gb, 0, none⟩) n cb) (crP P H ks) H B → Chg lo hi w0 w' → R (.returned (.tuple #[])) w') :
    ∀ (m j : Nat) (w : World) (u3 u5 u6 u7 u8 u9 u10 u14 u15 u16 u17 u18 u19 u20 u21 u22 u23 u24 u25 u26 u27 u28 u29 u30 u31 u32 u33 u34 u35 u36 u37 : Value),
      m = ks.length - j → j ≤ ks.length → w.heap[c]? = some (.chan ks.length (msgs H (ks.take j)) false j 0 false) → BoxAt w N #[.slice (some ⟨gp, 0, none⟩) n cp, .slice (some ⟨gh, 0, none⟩) n ch, .slice (some ⟨gb, 0, none⟩) n cb] 26 →
      DskV w lo hi (.slice (some ⟨gp, 0, none⟩) n cp) (.slice (some ⟨gh, 0, none⟩) n ch) (.slice (some ⟨gb, 0, none⟩) n cb) P H B → Chg lo hi w0 w →
      LoneTo Tryz.prog (fun g' w' => ∃ e fr, g' = G fr cs ∧ R e w' ∧ fr.fn = 166 ∧ fr.leaving Tryz.prog w' e)
        (G ((base 166).at ⟨#[.agg #[.slice (some ⟨gp, 0, none⟩) n cp, .slice (some ⟨gh, 0, none⟩) n ch, .slice (some ⟨gb, 0, none⟩) n cb], .slice av ks.length cv, .pointer (some ⟨N, 0, none⟩), u3, .chan (some c), u5, u6, u7, u8, u9, u10, .slice av ks.length cv, .int .i64 (ks.length : Int), .int .i64 (j : Int), u14, u15, u16, u17, u18, u19, u20, u21, u22, u23, u24, u25, u26, u27, u28, u29, u30, u31, u32, u33, u34, u35, u36, u37], []⟩ [.code (plL1 (Tryz.f166.body.getD .skip)), .inLoop (plL1 (Tryz.f166.body.getD .skip)), .inBlock 0, .code (plB2 (Tryz.f166.body.getD .skip))]) cs) w := by
  have LP := hide hP
  have LH := hide hH
  have HN := hide hN
  have HC := hide hc
  have KR := hide kr
  have KV := hide kv
  have FIN := hide fin
  clear hP hH hN hc kr kv fin
  intro m
  induction m with
  | zero =>
    intro j w u3 u5 u6 u7 u8 u9 u10 u14 u15 u16 u17 u18 u19 u20 u21 u22 u23 u24 u25 u26 u27 u28 u29 u30 u31 u32 u33 u34 u35 u36 u37 hm hj hch hbox hd hchg
    obtain rfl : j = ks.length := by omega
    rw [List.take_length] at hch
    have CH := hide hch
    have BX := hide hbox
    have DD := hide hd
    have CG := hide hchg
    clear hm hj hch hbox hd hchg
    refine LoneTo.goes (n := 9) ?_
    simp only [plL1, plB2, plT, cSeq1, cSeq2, cBlk, cLoop, Tryz.f166, Option.getD_some]
    s_c stepG_seq
    s_reg
    s_op
    s_c stepG_region_end
    s_c stepG_seq
    s_cond false
    s_exit
    s_c stepG_block
    s_c stepG_loop
    s_stop
    exact pl_loop2 R gp cp gh ch gb cb n N c _ P H B ks lo hi w0 cs LP.out LH.out hhi HN.out HC.out KR.out hn FIN.out ks.length 0 _ _ _ _ _ _ _ _ _ _ _ _ _ _ _ _ _ _ _ _ _ _ _ _ _ _ _ _ _ _ _ _ _ _ _ ks.length 0 (by omega) (Nat.zero_le _) (by rw [List.drop_zero]; exact CH.out) BX.out (by rw [List.take_zero, crP_nil]; exact DD.out) CG.out
  | succ m ih =>
    intro j w u3 u5 u6 u7 u8 u9 u10 u14 u15 u16 u17 u18 u19 u20 u21 u22 u23 u24 u25 u26 u27 u28 u29 u30 u31 u32 u33 u34 u35 u36 u37 hm hj hch hbox hd hchg
    have IH := hide ih
    have hjl : j < ks.length := by omega
    obtain ⟨k0, k1⟩ := KR.out j hjl
    obtain ⟨b, off, rfl, hcv, _⟩ := (KV.out _ hchg).at j hjl
    obtain ⟨k, hk⟩ : ∃ k : Nat, ks.getD j 0 = (k : Int) := ⟨(ks.getD j 0).toNat, by omega⟩
    have hkn : k < n := by omega
    rw [hk] at hcv
    have hpush : (msgs H (ks.take j)).push (.agg #[.int .i64 (k : Int), .string (H.getD k ⟨#[]⟩)]) = msgs H (ks.take (j + 1)) := by
      have e : ks[j] = (k : Int) := by rw [← hk, List.getD_eq_getElem?_getD, List.getElem?_eq_getElem hjl, Option.getD_some]
      unfold msgs
      rw [List.take_succ_eq_append_getElem hjl, List.map_append, List.map_singleton, e]
      unfold msg
      rw [Int.toNat_natCast]
      simp
    obtain ⟨hh1, _⟩ := hd.cellH LH.out k hkn
    have PU := hide hpush
    have hroom : (msgs H (ks.take j)).size < ks.length := by
      unfold msgs
      simp
      omega
    have RM := hide hroom
    clear hpush hroom
    generalize H.getD k ⟨#[]⟩ = z at PU hh1
    obtain ⟨c0, c1, c2⟩ := hbox.c3
    have CH := hide hch
    have BX := hide hbox
    have DD := hide hd
    have CG := hide hchg
    have HM : Hid (m = ks.length - (j + 1)) := by show _ = _; omega
    have hcl : c < w.heap.size := (Array.getElem?_eq_some_iff.1 hch).1
    have HCL := hide hcl
    have hlt' : (j : Int) < (ks.length : Int) := by omega
    have hk' : (k : Int) < (n : Int) := by omega
    clear ih hm hj hch hbox hd hchg k0 k1 hk hcl c0 c2
    refine LoneTo.goes (n := 24) ?_
    simp only [plL1, plB2, plT, cSeq1, cSeq2, cBlk, cLoop, Tryz.f166, Option.getD_some]
    s_c stepG_seq
    s_reg
    s_op
    s_c stepG_region_end
    s_c stepG_seq
    s_cond true
    s_c stepG_skip
    s_c stepG_seq
    s_c stepG_block
    s_c stepG_seq
    s_reg
    s_op
    s_op
    s_op
    s_c stepG_region_end
    s_reg
    s_op
    s_op
    s_op
    s_op
    s_op
    s_op
    s_op
    s_op
    s_stop
    refine LoneTo.step (step_lone_send_room (c := c) (cap := ks.length) (buf := msgs H (ks.take j)) (s := j) (r := 0) (tm := false) (stepG_comm (cases := #[scase c (.agg #[.int .i64 (k : Int), .string z]) (.tuple #[])]) (blocking := true) (shape := .send) (w' := w) rfl rfl (by decide) (by simp [execOp, scase, Act.eval])) CH.out RM.out) ?_
    rw [PU.out, Frame.finish_at]
    walk_nrm
    have ck := Chg.ofSetChan (lo := N + 1) (hi := N + 1 + 1) w c ks.length (msgs H (ks.take (j + 1))) false (j + 1) 0 false (by have := HC.out; omega) (by have := HC.out; omega)
    have hch1 := heap_setChan w c ks.length (msgs H (ks.take (j + 1))) false (j + 1) 0 false HCL.out
    generalize w.setChan c ks.length (msgs H (ks.take (j + 1))) false (j + 1) 0 false = w1 at *
    have CF := hide hch1
    have BF := hide (BX.out.chg ck (.inl (by omega)))
    have DF := hide (DD.out.chg ck (.inl (by omega)))
    have CC := hide (chg_new CG.out ck (by have := HN.out; omega))
    clear ck hch1
    refine LoneTo.goes (n := 7) ?_
    s_c stepG_region_end
    s_c stepG_inBlock
    s_reg
    s_op
    s_op
    s_c stepG_region_end
    s_c stepG_inLoop
    s_stop
    rw [show IntKind.i64.wrap ((j : Int) + 1) = ((j + 1 : Nat) : Int) from by simp [IntKind.wrap, IntKind.bits, IntKind.signed]; omega]
    exact IH.out (j + 1) _ _ _ _ _ _ _ _ _ _ _ _ _ _ _ _ _ _ _ _ _ _ _ _ _ _ _ _ _ _ _ _ HM.out hjl CF.out BF.out DF.out CC.out
end Go.Proofs.YtbgadbokejaomaaGreatDoor

namespace Go.Proofs.YtbgadbokejaomaaGreatDoor
open Go.RowKit Go.Conc
set_option linter.unusedVariables false

theorem infoSw : (Tryz.prog.info? 211).map (·.bytes) = some 24 := by kernel_rfl
theorem mk_chan (n : Nat) (h : n ≤ 1048576) (W : World) : (Instr.makeChan 209 (.int .i64 (n : Int))).run Tryz.prog W = .ok (.chan (some W.heap.size)) (W.alloc (.chan n #[] false 0 0 false)) := by
  obtain ⟨i, hi, hb⟩ := Option.map_eq_some_iff.1 infoSw
  exact run_makeChan (P := Tryz.prog) (w := W) Tryz.underlying209 hi .i64 n (by omega) (by rw [hb]; omega)

set_option maxRecDepth 100000 in
set_option maxHeartbeats 1600000 in
theorem putOnPlate_calls (p h b v : Value) (P H : List ByteArray) (B : List Bool) (ks : List Int) (lo hi n : Nat) (w : World) (d : DskV w lo hi p h b P H B) (hhi : hi ≤ w.heap.size) (hP : P.length = n) (hH : H.length = n) (hB : B.length = n) (hn : 0 < n ∧ n ≤ 24)
    (kr : ∀ i, i < ks.length → 0 ≤ ks.getD i 0 ∧ ks.getD i 0 < (n : Int)) (hkl : ks.length ≤ 1048576) (kv : ∀ w', Chg lo hi w w' → Rd w' v ks) :
    Calls Tryz.prog 166 #[.agg #[p, h, b], v] w fun e w' => e = .returned (.tuple #[]) ∧ DskV w' lo hi p h b (crP P H ks) H B ∧ Chg lo hi w w' := by
  obtain ⟨gp, cp, gh, ch, gb, cb, rfl, rfl, rfl, n1, n2, n3, ⟨t1, t2, t3⟩, _⟩ := d.blocks hP hH hB hn.1
  obtain ⟨av, cv, ev, _, _⟩ := (kv w (Chg.refl _ _ _)).sl
  subst ev
  refine calls_of_loneTo fun cs => ?_
  have e : Frame.enter Tryz.prog 166 #[.agg #[.slice (some ⟨gp, 0, none⟩) n cp, .slice (some ⟨gh, 0, none⟩) n ch, .slice (some ⟨gb, 0, none⟩) n cb], .slice av ks.length cv] .normal = (base 166).at ⟨#[.agg #[.slice (some ⟨gp, 0, none⟩) n cp, .slice (some ⟨gh, 0, none⟩) n ch, .slice (some ⟨gb, 0, none⟩) n cb], .slice av ks.length cv, undef, undef, undef, undef, undef, undef, undef, undef, undef, undef, undef, undef, undef, undef, undef, undef, undef, undef, undef, undef, undef, undef, undef, undef, undef, undef, undef, undef, undef, undef, undef, undef, undef, undef, undef, undef], []⟩ [.code (Tryz.f166.body.getD .skip)] := by
    simp [Frame.enter, Frame.at, Tryz.func166, base, Tryz.f166]
    try rfl
  rw [e]
  clear e
  have hmc := mk_chan ks.length hkl
  obtain ⟨W1, e1⟩ : ∃ W1, W1 = w.alloc (.cells #[.slice (some ⟨gp, 0, none⟩) n cp, .slice (some ⟨gh, 0, none⟩) n ch, .slice (some ⟨gb, 0, none⟩) n cb] 26) := ⟨_, rfl⟩
  obtain ⟨W2, e2⟩ : ∃ W2, W2 = W1.alloc (.chan ks.length #[] false 0 0 false) := ⟨_, rfl⟩
  have s1 : W1.heap.size = w.heap.size + 1 := by rw [e1]; simp
  have b1 : Below w.heap.size w W1 := by rw [e1]; exact below_box _ _
  have b2 : Below W1.heap.size W1 W2 := by rw [e2]; exact below_box _ _
  have bx : BoxAt W2 w.heap.size #[.slice (some ⟨gp, 0, none⟩) n cp, .slice (some ⟨gh, 0, none⟩) n ch, .slice (some ⟨gb, 0, none⟩) n cb] 26 := by
    refine BoxAt.below ?_ b2
    rw [e1]
    exact BoxAt.new _ _ _
  have hch : W2.heap[w.heap.size + 1]? = some (.chan ks.length (msgs H (ks.take 0)) false 0 0 false) := by
    rw [e2, ← s1]
    exact heap_alloc_new W1 _
  have bz : Below w.heap.size w W2 := b1.trans (b2.mono (by omega))
  have D2 := hide (d.below bz)
  have C2 := hide (Chg.ofBelow (lo := lo) (hi := hi) bz)
  have BX := hide bx
  have CH := hide hch
  have KV := hide kv
  have KR := hide kr
  have LP := hide hP
  have LH := hide hH
  have EW : Hid ((w.alloc (.cells #[.slice (some ⟨gp, 0, none⟩) n cp, .slice (some ⟨gh, 0, none⟩) n ch, .slice (some ⟨gb, 0, none⟩) n cb] 26)).alloc (.chan ks.length #[] false 0 0 false) = W2) := by show _ = _; rw [e2, e1]
  clear d kv kr hP hH hB e1 e2 s1 b1 b2 bx hch bz
  refine LoneTo.goes (n := 19) ?_
  simp only [Tryz.f166, Option.getD_some]
  s_c stepG_seq
  s_reg
  s_op
  s_c stepG_region_end
  s_c stepG_seq
  s_reg
  s_op
  s_op
  s_op
  s_op
  s_c stepG_region_end
  s_c stepG_seq
  s_c stepG_seq
  s_reg
  s_op
  s_op
  s_op
  s_c stepG_region_end
  s_c stepG_block
  s_stop
  refine LoneTo.goes (n := 1) ?_
  s_c stepG_loop
  s_stop
  rw [EW.out]
  exact pl_loop1 _ gp cp gh ch gb cb n w.heap.size (w.heap.size + 1) av cv P H B ks lo hi w cs LP.out LH.out hhi rfl rfl KR.out hn.2 hkl KV.out (fun w' h1 h2 => ⟨rfl, h1, h2⟩) ks.length 0 W2 _ _ _ _ _ _ _ _ _ _ _ _ _ _ _ _ _ _ _ _ _ _ _ _ _ _ _ _ _ _ _ (by omega) (Nat.zero_le _) CH.out BX.out D2.out C2.out
end Go.Proofs.YtbgadbokejaomaaGreatDoor

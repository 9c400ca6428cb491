/-
  Pieces of a code drawn, now and then with one number turned. Each contract says what it asks.
-/
import Derived.Test.YtogopakmebiomaaDoorDrawN
namespace Go.Proofs.YtogopakmebiomaaDoor
open Go.RowKit

theorem drew_grown (w : World) (row : Option Nat) : w.grownBy w.drew row := ⟨rfl, rfl, rfl, Nat.le_refl _, fun _ _ _ => rfl⟩
theorem CurS.drew {w : World} {g k : Nat} {cv : Value} (h : CurS w g cv k) (hrb : ∀ w2, w.drew.grownBy w2 (some g) → RdB w2 cv) : CurS w.drew g cv k :=
  CurS.far h (drew_grown w none) (fun _ hj => by cases hj) hrb

set_option maxRecDepth 100000 in
set_option maxHeartbeats 12800000 in
theorem drawCheckPieces_calls (cv : Value) (w : World) (h : RdB w cv) :
    Calls Tryd.prog 57 #[cv] w fun e w' => ∃ (d q : Nat) (v : Value) (a : List (List Int)), e = .returned (.tuple #[.int .i64 d, .int .i64 q, v]) ∧ RdM w' v a ∧ (d ≤ 5 ∧ q ≤ 4 ∧ a.length ≤ 9) ∧ Below w.heap.size w w' := by
  have C0 := hide (cur_new h)
  have LO := hide (draw_low h)
  obtain ⟨a0, cap0, zs0, rfl, _⟩ := h
  go_enter Tryd.func57, Tryd.ntmps57
  go_wp2_with fail
  refine (coded_calls w.heap.size _ 0 _ C0.out (by omega) LO.out).mono ?_
  rintro e w1 ⟨d, q, vl, vx, rfl, hc⟩
  obtain ⟨d1, d5, q1, q4, ⟨m, L, ⟨vs, hM⟩, hm, hL, hr⟩, _, hcur, hgr⟩ := hc
  have G := hide hgr
  have C := hide hcur
  have m9 : m.length ≤ 9 := by omega
  have m1 : 0 < m.length := by omega
  have M := hide hM
  have LE : Hid (∀ i, i < m.length → (m.getD i []).length = L) := fun i hi => by
    rw [hr _ (by rw [List.getD_eq_getElem?_getD, List.getElem?_eq_getElem hi]; simp)]
  obtain ⟨og, ocap, rfl⟩ : ∃ g cap, vl = .slice (some ⟨g, 0, none⟩) m.length cap := by
    obtain ⟨g, cap, e, _⟩ := hM.open m1
    exact ⟨g, cap, e⟩
  have s0 := hgr.size
  have sw : w.heap.size ≤ w1.heap.size := by simp at s0; omega
  have m1' : (0 : Int) < (m.length : Int) := by omega
  clear hcur hgr hM hr hm C0
  go_wp2_with fail
  refine (one_calls w.heap.size _ 5000 2 _ C.out (by omega) (by omega) (by omega)).mono ?_
  rintro e w2 ⟨b, rfl, hc2, hg2⟩
  have C2 := hide hc2
  have G2 := hide (grown_trans G.out hg2)
  have M2 := hide (M.out.chg (grown_chg hg2) (.inr (by simp)))
  have s2 := hg2.size
  clear hc2 hg2 C
  cases b with
  | false =>
    go_wp2
    go_ret3
    exact ⟨d, q, _, m, rfl, M2.out.rd, ⟨d5, q4, m9⟩, cur_below G2.out⟩
  | true =>
    have hcell := M2.out.cell 0 m1
    obtain ⟨ra, rn, rc, hre⟩ := (M2.out.row 0 m1).shape
    have hrn : rn = L := by
      obtain ⟨a, c, e, _⟩ := (M2.out.row 0 m1).rd
      rw [hre, LE.out 0 m1] at e
      simp at e
      exact e.2.1
    subst hrn
    rw [hre] at hcell
    clear hre
    by_cases hz : rn = 0
    · subst hz
      go_wp2
      go_ret3
      exact ⟨d, q, _, m, rfl, M2.out.rd, ⟨d5, q4, m9⟩, cur_below G2.out⟩
    · have hz' : (0 : Int) < (rn : Int) := by omega
      obtain ⟨W0, hW0⟩ : ∃ W0, W0 = w.alloc (.cells #[Value.slice a0 zs0.length cap0, .int .i64 0, .int .u64 0] 89) := ⟨_, rfl⟩
      obtain ⟨St, hSt⟩ : ∃ St : Nat → World → Prop, St = fun k w' => CurS w' w.heap.size (.slice a0 zs0.length cap0) k ∧ W0.grownBy w' (some w.heap.size) ∧ MatV w' W0.heap.size w1.heap.size (.slice (some ⟨og, 0, none⟩) m.length ocap) vs m := ⟨_, rfl⟩
      have ST := hide hSt
      have HW := hide hW0
      have PK : Hid (∀ (n k : Nat) (w' : World), 1 ≤ n → n ≤ 300 → k ≤ 6000 → St k w' → Calls Tryd.prog 93 #[.pointer (some ⟨w.heap.size, 0, none⟩), .int .i64 n] w' fun e w'' => ∃ i : Nat, i < n ∧ e = .returned (.int .i64 i) ∧ St (k + 2) w'') := by
        intro n k w' h1 h2 h3 hst
        rw [ST.out] at hst ⊢
        obtain ⟨hc, hg, hM⟩ := hst
        refine (pick_calls w.heap.size _ k n _ hc (by omega) h1 (by omega)).mono ?_
        rintro e w'' ⟨i, hi, rfl, hc', hg'⟩
        exact ⟨i, hi, rfl, hc', grown_trans hg hg', hM.chg (grown_chg hg') (.inr (by rw [HW.out]; simp))⟩
      have S2 : Hid (St 5002 w2.drew) := by
        show St 5002 w2.drew
        rw [ST.out]
        refine ⟨CurS.drew C2.out ?_, ?_, ?_⟩
        · intro w' h'
          exact LO.out w' (grown_low (grown_trans (grown_trans G2.out (drew_grown _ _)) h') (by simp))
        · rw [HW.out]; exact grown_trans G2.out (drew_grown _ _)
        · rw [HW.out]; exact M2.out.below (below_drewC (Below.refl _ _))
      have RF : Hid (∀ i, i < m.length → ∃ (rg rcap : Nat) (y : Int), vs.getD i nilRow = .slice (some ⟨rg, 0, none⟩) rn rcap ∧ ∀ k w', St k w' → w'.cell? ⟨og, i, none⟩ = some (.slice (some ⟨rg, 0, none⟩) rn rcap) ∧ w'.frozen? ⟨rg, 0, none⟩ = false ∧ w'.cell? ⟨rg, 0, none⟩ = some (.int .i64 y)) := by
        intro i hi
        obtain ⟨rg, rcap, hre, _⟩ := (M2.out.row i hi).open1 (by rw [LE.out i hi]; omega)
        rw [LE.out i hi] at hre
        refine ⟨rg, rcap, (m.getD i []).getD 0 0, hre, fun k w' hst => ?_⟩
        rw [ST.out] at hst
        obtain ⟨_, _, hM⟩ := hst
        have h1 := hM.cell i hi
        have h2 := hM.row i hi
        rw [hre] at h1 h2
        have h3 := h2.at 0 (by rw [LE.out i hi]; omega)
        exact ⟨h1, h3.1, h3.2⟩
      clear hSt hW0
      go_wp2_with fail
      go_region_with (first | (go_at_call 93; refine (PK.out 4 5004 _ (by omega) (by omega) (by omega) S3.out).mono ?_; rintro e w4 ⟨z, hz4, rfl, st4⟩; obtain ⟨f41, f42, f43⟩ := F.out _ w4 st4; have S4 := hide st4; clear st4) | (go_at_call 93; refine (PK.out m.length 5002 _ (by omega) (by omega) (by omega) S2.out).mono ?_; rintro e w3 ⟨i, hi, rfl, st3⟩; obtain ⟨rg, rcap, y, hrg, hF⟩ := RF.out i hi; have F := hide hF; have RG := hide hrg; have S3 := hide st3; obtain ⟨f31, f32, f33⟩ := hF _ w3 st3; have hi' : (i : Int) < (m.length : Int) := (by omega); clear hF hrg st3))
      all_goals
        go_wp2
        go_ret3
        obtain ⟨hc, hg, hM⟩ : CurS w4 w.heap.size (.slice a0 zs0.length cap0) (5004 + 2) ∧ W0.grownBy w4 (some w.heap.size) ∧ MatV w4 W0.heap.size w1.heap.size (.slice (some ⟨og, 0, none⟩) m.length ocap) vs m := by
          have := S4.out
          rw [ST.out] at this
          exact this
        have hro := hM.row i hi
        rw [RG.out] at hro
        refine ⟨d, q, _, _, rfl, (hM.write i hi _ (by rw [RG.out]; exact (hro.put 0 _).1) (by rw [RG.out]; exact (hro.put 0 _).2)).rd, ⟨d5, q4, by rw [List.length_set]; exact m9⟩, ?_⟩
        have hl := (hro.lt rg rfl).1
        rw [HW.out] at hg hl
        exact cur_below (grown_far hg (hro.put 0 _).2 (fun j hj => by cases hj; exact hl))
end Go.Proofs.YtogopakmebiomaaDoor

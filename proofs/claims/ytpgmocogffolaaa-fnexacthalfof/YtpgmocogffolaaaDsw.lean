/-
  One sector of a disk of the call's own is written; what a crash leaves. No condition; no call is walked here.
-/
import Derived.Test.YtpgmocogffolaaaDkp
namespace Go.Proofs.Ytpgmocogffolaaa
open Go.RowKit
set_option linter.unusedVariables false

section
variable {w : World} {lo hi g c n : Nat} {p h b : Value} {P H : List ByteArray} {B : List Bool}
theorem mem_set_small {P : List ByteArray} (hs : ∀ s ∈ P, s.size ≤ maxLen) (i : Nat) {z : ByteArray} (hz : z.size ≤ maxLen) : ∀ s ∈ P.set i z, s.size ≤ maxLen := by
  intro s h
  rcases List.mem_or_eq_of_mem_set h with h | h
  · exact hs s h
  · rw [h]; exact hz
theorem DskV.putP (d : DskV w lo hi (.slice (some ⟨g, 0, none⟩) n c) h b P H B) (hn : P.length = n) (i : Nat) (z : ByteArray) (hz : z.size ≤ maxLen) :
    DskV (w.setCell ⟨g, i, none⟩ (.string z)) lo hi (.slice (some ⟨g, 0, none⟩) n c) h b (P.set i z) H B ∧ Chg lo hi w (w.setCell ⟨g, i, none⟩ (.string z)) := by
  subst hn
  have st := World.ownsRow.stored d.plate i (.string z)
  rw [← List.map_set] at st
  have hg : w.grownBy (w.setCell ⟨g, i, none⟩ (.string z)) (some g) := st.2
  refine ⟨d.setP ?_ (mem_set_small d.sp i hz) hg, d.chgP hg⟩
  show World.ownsRow _ _ _ _ _ (P.set i z).length _
  rw [List.length_set]
  exact st.1
theorem DskV.putH (d : DskV w lo hi p (.slice (some ⟨g, 0, none⟩) n c) b P H B) (hn : H.length = n) (i : Nat) (z : ByteArray) (hz : z.size ≤ maxLen) :
    DskV (w.setCell ⟨g, i, none⟩ (.string z)) lo hi p (.slice (some ⟨g, 0, none⟩) n c) b P (H.set i z) B ∧ Chg lo hi w (w.setCell ⟨g, i, none⟩ (.string z)) := by
  subst hn
  have st := World.ownsRow.stored d.held i (.string z)
  rw [← List.map_set] at st
  have hg : w.grownBy (w.setCell ⟨g, i, none⟩ (.string z)) (some g) := st.2
  refine ⟨d.setH ?_ (mem_set_small d.sh i hz) hg, d.chgH hg⟩
  show World.ownsRow _ _ _ _ _ (H.set i z).length _
  rw [List.length_set]
  exact st.1
theorem DskV.putB (d : DskV w lo hi p h (.slice (some ⟨g, 0, none⟩) n c) P H B) (hn : B.length = n) (i : Nat) (z : Bool) :
    DskV (w.setCell ⟨g, i, none⟩ (.bool z)) lo hi p h (.slice (some ⟨g, 0, none⟩) n c) P H (B.set i z) ∧ Chg lo hi w (w.setCell ⟨g, i, none⟩ (.bool z)) := by
  subst hn
  have st := World.ownsRow.stored d.bad i (.bool z)
  rw [← List.map_set] at st
  have hg : w.grownBy (w.setCell ⟨g, i, none⟩ (.bool z)) (some g) := st.2
  refine ⟨d.setB ?_ hg, d.chgB hg⟩
  show World.ownsRow _ _ _ _ _ (B.set i z).length _
  rw [List.length_set]
  exact st.1
theorem DskV.cellP (d : DskV w lo hi (.slice (some ⟨g, 0, none⟩) n c) h b P H B) (hn : P.length = n) (i : Nat) (hi' : i < n) : w.cell? ⟨g, i, none⟩ = some (.string (P.getD i ⟨#[]⟩)) ∧ w.frozen? ⟨g, i, none⟩ = false := by
  subst hn
  refine ⟨?_, World.ownsRow.frozenAt d.plate i⟩
  rw [World.ownsRow.cellAt d.plate i (by omega), List.getElem?_map, List.getD_eq_getElem?_getD, List.getElem?_eq_getElem hi']
  rfl
theorem DskV.cellH (d : DskV w lo hi p (.slice (some ⟨g, 0, none⟩) n c) b P H B) (hn : H.length = n) (i : Nat) (hi' : i < n) : w.cell? ⟨g, i, none⟩ = some (.string (H.getD i ⟨#[]⟩)) ∧ w.frozen? ⟨g, i, none⟩ = false := by
  subst hn
  refine ⟨?_, World.ownsRow.frozenAt d.held i⟩
  rw [World.ownsRow.cellAt d.held i (by omega), List.getElem?_map, List.getD_eq_getElem?_getD, List.getElem?_eq_getElem hi']
  rfl
theorem DskV.cellB (d : DskV w lo hi p h (.slice (some ⟨g, 0, none⟩) n c) P H B) (hn : B.length = n) (i : Nat) (hi' : i < n) : w.cell? ⟨g, i, none⟩ = some (.bool (B.getD i false)) ∧ w.frozen? ⟨g, i, none⟩ = false := by
  subst hn
  refine ⟨?_, World.ownsRow.frozenAt d.bad i⟩
  rw [World.ownsRow.cellAt d.bad i (by omega), List.getElem?_map, List.getD_eq_getElem?_getD, List.getElem?_eq_getElem hi']
  rfl
/-- The three rows' blocks. -/
theorem DskV.blocks (d : DskV w lo hi p h b P H B) (hP : P.length = n) (hH : H.length = n) (hB : B.length = n) (h0 : 0 < n) :
    ∃ gp cp gh ch gb cb, p = .slice (some ⟨gp, 0, none⟩) n cp ∧ h = .slice (some ⟨gh, 0, none⟩) n ch ∧ b = .slice (some ⟨gb, 0, none⟩) n cb ∧ gp ≠ gh ∧ gp ≠ gb ∧ gh ≠ gb ∧ (gp < hi ∧ gh < hi ∧ gb < hi) ∧ (lo ≤ gp ∧ lo ≤ gh ∧ lo ≤ gb) := by
  rcases d.plate.2 with ⟨_, h0⟩ | ⟨gp, cp, _, rfl, lp, _⟩
  · omega
  rcases d.held.2 with ⟨_, h0⟩ | ⟨gh, ch, _, rfl, lh, _⟩
  · omega
  rcases d.bad.2 with ⟨_, h0⟩ | ⟨gb, cb, _, rfl, lb, _⟩
  · omega
  refine ⟨gp, cp, gh, ch, gb, cb, by rw [hP], by rw [hH], by rw [hB], ?_, ?_, ?_, ⟨d.tp gp rfl, d.th gh rfl, d.tb gb rfl⟩, lp, lh, lb⟩
  · have := d.ph
    simpa [Value.ownBlock] using this
  · have := (bol_txt d.bad d.plate).2
    simpa [Value.ownBlock] using this
  · have := (bol_txt d.bad d.held).2
    simpa [Value.ownBlock] using this
end

theorem ext_getD {l m : List ByteArray} (hl : l.length = m.length) (h : ∀ i, i < l.length → l.getD i ⟨#[]⟩ = m.getD i ⟨#[]⟩) : l = m := by
  apply List.ext_getElem hl
  intro i h1 h2
  have := h i h1
  rwa [List.getD_eq_getElem?_getD, List.getD_eq_getElem?_getD, List.getElem?_eq_getElem h1, List.getElem?_eq_getElem h2] at this
theorem getD_setT (l : List ByteArray) (i j : Nat) (x : ByteArray) (h : i < l.length) : (l.set i x).getD j ⟨#[]⟩ = if j = i then x else l.getD j ⟨#[]⟩ := by
  simp only [List.getD_eq_getElem?_getD, List.getElem?_set]
  by_cases e : i = j
  · subst e; simp [h]
  · rw [if_neg e, if_neg (fun h => e h.symm)]
/-- The plate behind a crash, so far. -/
def crPk (P H : List ByteArray) (ks : List Int) (k : Nat) : List ByteArray := (List.range P.length).map fun i => if i < k ∧ (i : Int) ∈ ks then H.getD i ⟨#[]⟩ else P.getD i ⟨#[]⟩
def crHk (H : List ByteArray) (k : Nat) : List ByteArray := (List.range H.length).map fun i => if i < k then ⟨#[]⟩ else H.getD i ⟨#[]⟩
/-- The plate behind a crash. -/
def crP (P H : List ByteArray) (ks : List Int) : List ByteArray := crPk P H ks P.length
def crH (H : List ByteArray) : List ByteArray := List.replicate H.length ⟨#[]⟩
theorem crPk_len (P H : List ByteArray) (ks : List Int) (k : Nat) : (crPk P H ks k).length = P.length := by simp [crPk]
theorem crHk_len (H : List ByteArray) (k : Nat) : (crHk H k).length = H.length := by simp [crHk]
theorem crPk_at (P H : List ByteArray) (ks : List Int) (k i : Nat) (h : i < P.length) : (crPk P H ks k).getD i ⟨#[]⟩ = if i < k ∧ (i : Int) ∈ ks then H.getD i ⟨#[]⟩ else P.getD i ⟨#[]⟩ := by
  unfold crPk
  rw [List.getD_eq_getElem?_getD, List.getElem?_map, List.getElem?_range h]
  rfl
theorem crHk_at (H : List ByteArray) (k i : Nat) (h : i < H.length) : (crHk H k).getD i ⟨#[]⟩ = if i < k then ⟨#[]⟩ else H.getD i ⟨#[]⟩ := by
  unfold crHk
  rw [List.getD_eq_getElem?_getD, List.getElem?_map, List.getElem?_range h]
  rfl
theorem crPk_zero (P H : List ByteArray) (ks : List Int) : crPk P H ks 0 = P := by
  refine ext_getD (crPk_len _ _ _ _) fun i hi => ?_
  rw [crPk_len] at hi
  rw [crPk_at P H ks 0 i hi, if_neg (fun h => by omega)]
theorem crHk_zero (H : List ByteArray) : crHk H 0 = H := by
  refine ext_getD (crHk_len _ _) fun i hi => ?_
  rw [crHk_len] at hi
  rw [crHk_at H 0 i hi, if_neg (by omega)]
theorem crPk_yes (P H : List ByteArray) (ks : List Int) (k : Nat) (hk : k < P.length) (h : (k : Int) ∈ ks) : (crPk P H ks k).set k (H.getD k ⟨#[]⟩) = crPk P H ks (k + 1) := by
  refine ext_getD (by rw [List.length_set, crPk_len, crPk_len]) fun i hi => ?_
  rw [List.length_set, crPk_len] at hi
  rw [getD_setT _ _ _ _ (by rw [crPk_len]; exact hk), crPk_at P H ks _ i hi, crPk_at P H ks _ i hi]
  by_cases e : i = k
  · subst e; rw [if_pos rfl, if_pos ⟨by omega, h⟩]
  · rw [if_neg e]
    by_cases h2 : i < k ∧ (i : Int) ∈ ks
    · rw [if_pos h2, if_pos ⟨by omega, h2.2⟩]
    · rw [if_neg h2, if_neg (fun h3 => h2 ⟨by omega, h3.2⟩)]
theorem crPk_no (P H : List ByteArray) (ks : List Int) (k : Nat) (h : ¬ (k : Int) ∈ ks) : crPk P H ks k = crPk P H ks (k + 1) := by
  refine ext_getD (by rw [crPk_len, crPk_len]) fun i hi => ?_
  rw [crPk_len] at hi
  rw [crPk_at P H ks _ i hi, crPk_at P H ks _ i hi]
  by_cases h2 : i < k ∧ (i : Int) ∈ ks
  · rw [if_pos h2, if_pos ⟨by omega, h2.2⟩]
  · rw [if_neg h2, if_neg (fun h3 => h2 ⟨?_, h3.2⟩)]
    have : ¬ i = k := fun e => h (by rw [← e]; exact h3.2)
    omega
theorem crHk_step (H : List ByteArray) (k : Nat) (hk : k < H.length) : (crHk H k).set k ⟨#[]⟩ = crHk H (k + 1) := by
  refine ext_getD (by rw [List.length_set, crHk_len, crHk_len]) fun i hi => ?_
  rw [List.length_set, crHk_len] at hi
  rw [getD_setT _ _ _ _ (by rw [crHk_len]; exact hk), crHk_at H _ i hi, crHk_at H _ i hi]
  by_cases e : i = k
  · subst e; rw [if_pos rfl, if_pos (by omega)]
  · rw [if_neg e]
    by_cases h2 : i < k
    · rw [if_pos h2, if_pos (by omega)]
    · rw [if_neg h2, if_neg (by omega)]
theorem crHk_end (H : List ByteArray) : crHk H H.length = crH H := by
  refine ext_getD (by rw [crHk_len, crH, List.length_replicate]) fun i hi => ?_
  rw [crHk_len] at hi
  rw [crHk_at H _ i hi, if_pos hi, crH, List.getD_eq_getElem?_getD, List.getElem?_replicate, if_pos hi]
  rfl
end Go.Proofs.Ytpgmocogffolaaa

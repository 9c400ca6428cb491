/-
  One sector of a disk of the call's own is written; what a crash leaves. No condition; no call is walked here. A journal's states: their bytes, what is read from such, what a disk's sectors tell. Mathematics; no call is walked here. Texts put together, and counted: the program's JoinChunks and its model's, call by call. Each says what it asks of the texts' sizes.
-/
import Derived.Test.YtpgmocogffolaaaGoodJournalB13
import Derived.Test.YtpgmocogffolaaaGoodJournalB10
import Derived.Test.YtpgmocogffolaaaGoodJournalB4
import Derived.Lib.AppendStr
namespace Go.Proofs.Ytpgmocogffolaaa
open Go.RowKit
set_option linter.unusedVariables false

section
variable {w : World} {lo hi g c n : Nat} {p h b : Value} {P H : List ByteArray} {B : List Bool}
theorem mem_set_small {P : List ByteArray} (hs : ∀ s ∈ P, s.size ≤ maxLen) (i : Nat) {z : ByteArray} (hz : z.size ≤ maxLen) : ∀ s ∈ P.set i z, s.size ≤ maxLen := by
  intro s h
  rcases List.mem_or_eq_of_mem_set h with h | h
  · exact hs s h
  · rw [h]; exact hz
theorem DskV.putP (d : DskV w lo hi (.slice (some ⟨g, 0, none⟩) n c) h b P H B) (hn : P.length = n) (i : Nat) (z : ByteArray) (hz : z.size ≤ maxLen) :
    DskV (w.setCell ⟨g, i, none⟩ (.string z)) lo hi (.slice (some ⟨g, 0, none⟩) n c) h b (P.set i z) H B ∧ Chg lo hi w (w.setCell ⟨g, i, none⟩ (.string z)) := by
  subst hn
  have st := World.ownsRow.stored d.plate i (.string z)
  rw [← List.map_set] at st
  have hg : w.grownBy (w.setCell ⟨g, i, none⟩ (.string z)) (some g) := st.2
  refine ⟨d.setP ?_ (mem_set_small d.sp i hz) hg, d.chgP hg⟩
  show World.ownsRow _ _ _ _ _ (P.set i z).length _
  rw [List.length_set]
  exact st.1
theorem DskV.putH (d : DskV w lo hi p (.slice (some ⟨g, 0, none⟩) n c) b P H B) (hn : H.length = n) (i : Nat) (z : ByteArray) (hz : z.size ≤ maxLen) :
    DskV (w.setCell ⟨g, i, none⟩ (.string z)) lo hi p (.slice (some ⟨g, 0, none⟩) n c) b P (H.set i z) B ∧ Chg lo hi w (w.setCell ⟨g, i, none⟩ (.string z)) := by
  subst hn
  have st := World.ownsRow.stored d.held i (.string z)
  rw [← List.map_set] at st
  have hg : w.grownBy (w.setCell ⟨g, i, none⟩ (.string z)) (some g) := st.2
  refine ⟨d.setH ?_ (mem_set_small d.sh i hz) hg, d.chgH hg⟩
  show World.ownsRow _ _ _ _ _ (H.set i z).length _
  rw [List.length_set]
  exact st.1
theorem DskV.putB (d : DskV w lo hi p h (.slice (some ⟨g, 0, none⟩) n c) P H B) (hn : B.length = n) (i : Nat) (z : Bool) :
    DskV (w.setCell ⟨g, i, none⟩ (.bool z)) lo hi p h (.slice (some ⟨g, 0, none⟩) n c) P H (B.set i z) ∧ Chg lo hi w (w.setCell ⟨g, i, none⟩ (.bool z)) := by
  subst hn
  have st := World.ownsRow.stored d.bad i (.bool z)
  rw [← List.map_set] at st
  have hg : w.grownBy (w.setCell ⟨g, i, none⟩ (.bool z)) (some g) := st.2
  refine ⟨d.setB ?_ hg, d.chgB hg⟩
  show World.ownsRow _ _ _ _ _ (B.set i z).length _
  rw [List.length_set]
  exact st.1
theorem DskV.cellP (d : DskV w lo hi (.slice (some ⟨g, 0, none⟩) n c) h b P H B) (hn : P.length = n) (i : Nat) (hi' : i < n) : w.cell? ⟨g, i, none⟩ = some (.string (P.getD i ⟨#[]⟩)) ∧ w.frozen? ⟨g, i, none⟩ = false := by
  subst hn
  refine ⟨?_, World.ownsRow.frozenAt d.plate i⟩
  rw [World.ownsRow.cellAt d.plate i (by omega), List.getElem?_map, List.getD_eq_getElem?_getD, List.getElem?_eq_getElem hi']
  rfl
theorem DskV.cellH (d : DskV w lo hi p (.slice (some ⟨g, 0, none⟩) n c) b P H B) (hn : H.length = n) (i : Nat) (hi' : i < n) : w.cell? ⟨g, i, none⟩ = some (.string (H.getD i ⟨#[]⟩)) ∧ w.frozen? ⟨g, i, none⟩ = false := by
  subst hn
  refine ⟨?_, World.ownsRow.frozenAt d.held i⟩
  rw [World.ownsRow.cellAt d.held i (by omega), List.getElem?_map, List.getD_eq_getElem?_getD, List.getElem?_eq_getElem hi']
  rfl
theorem DskV.cellB (d : DskV w lo hi p h (.slice (some ⟨g, 0, none⟩) n c) P H B) (hn : B.length = n) (i : Nat) (hi' : i < n) : w.cell? ⟨g, i, none⟩ = some (.bool (B.getD i false)) ∧ w.frozen? ⟨g, i, none⟩ = false := by
  subst hn
  refine ⟨?_, World.ownsRow.frozenAt d.bad i⟩
  rw [World.ownsRow.cellAt d.bad i (by omega), List.getElem?_map, List.getD_eq_getElem?_getD, List.getElem?_eq_getElem hi']
  rfl
/-- The three rows' blocks. -/
theorem DskV.blocks (d : DskV w lo hi p h b P H B) (hP : P.length = n) (hH : H.length = n) (hB : B.length = n) (h0 : 0 < n) :
    ∃ gp cp gh ch gb cb, p = .slice (some ⟨gp, 0, none⟩) n cp ∧ h = .slice (some ⟨gh, 0, none⟩) n ch ∧ b = .slice (some ⟨gb, 0, none⟩) n cb ∧ gp ≠ gh ∧ gp ≠ gb ∧ gh ≠ gb ∧ (gp < hi ∧ gh < hi ∧ gb < hi) ∧ (lo ≤ gp ∧ lo ≤ gh ∧ lo ≤ gb) := by
  rcases d.plate.2 with ⟨_, h0⟩ | ⟨gp, cp, _, rfl, lp, _⟩
  · omega
  rcases d.held.2 with ⟨_, h0⟩ | ⟨gh, ch, _, rfl, lh, _⟩
  · omega
  rcases d.bad.2 with ⟨_, h0⟩ | ⟨gb, cb, _, rfl, lb, _⟩
  · omega
  refine ⟨gp, cp, gh, ch, gb, cb, by rw [hP], by rw [hH], by rw [hB], ?_, ?_, ?_, ⟨d.tp gp rfl, d.th gh rfl, d.tb gb rfl⟩, lp, lh, lb⟩
  · have := d.ph
    simpa [Value.ownBlock] using this
  · have := (bol_txt d.bad d.plate).2
    simpa [Value.ownBlock] using this
  · have := (bol_txt d.bad d.held).2
    simpa [Value.ownBlock] using this
end

theorem ext_getD {l m : List ByteArray} (hl : l.length = m.length) (h : ∀ i, i < l.length → l.getD i ⟨#[]⟩ = m.getD i ⟨#[]⟩) : l = m := by
  apply List.ext_getElem hl
  intro i h1 h2
  have := h i h1
  rwa [List.getD_eq_getElem?_getD, List.getD_eq_getElem?_getD, List.getElem?_eq_getElem h1, List.getElem?_eq_getElem h2] at this
theorem getD_setT (l : List ByteArray) (i j : Nat) (x : ByteArray) (h : i < l.length) : (l.set i x).getD j ⟨#[]⟩ = if j = i then x else l.getD j ⟨#[]⟩ := by
  simp only [List.getD_eq_getElem?_getD, List.getElem?_set]
  by_cases e : i = j
  · subst e; simp [h]
  · rw [if_neg e, if_neg (fun h => e h.symm)]
/-- The plate behind a crash, so far. -/
def crPk (P H : List ByteArray) (ks : List Int) (k : Nat) : List ByteArray := (List.range P.length).map fun i => if i < k ∧ (i : Int) ∈ ks then H.getD i ⟨#[]⟩ else P.getD i ⟨#[]⟩
def crHk (H : List ByteArray) (k : Nat) : List ByteArray := (List.range H.length).map fun i => if i < k then ⟨#[]⟩ else H.getD i ⟨#[]⟩
/-- The plate behind a crash. -/
def crP (P H : List ByteArray) (ks : List Int) : List ByteArray := crPk P H ks P.length
def crH (H : List ByteArray) : List ByteArray := List.replicate H.length ⟨#[]⟩
theorem crPk_len (P H : List ByteArray) (ks : List Int) (k : Nat) : (crPk P H ks k).length = P.length := by simp [crPk]
theorem crHk_len (H : List ByteArray) (k : Nat) : (crHk H k).length = H.length := by simp [crHk]
theorem crPk_at (P H : List ByteArray) (ks : List Int) (k i : Nat) (h : i < P.length) : (crPk P H ks k).getD i ⟨#[]⟩ = if i < k ∧ (i : Int) ∈ ks then H.getD i ⟨#[]⟩ else P.getD i ⟨#[]⟩ := by
  unfold crPk
  rw [List.getD_eq_getElem?_getD, List.getElem?_map, List.getElem?_range h]
  rfl
theorem crHk_at (H : List ByteArray) (k i : Nat) (h : i < H.length) : (crHk H k).getD i ⟨#[]⟩ = if i < k then ⟨#[]⟩ else H.getD i ⟨#[]⟩ := by
  unfold crHk
  rw [List.getD_eq_getElem?_getD, List.getElem?_map, List.getElem?_range h]
  rfl
theorem crPk_zero (P H : List ByteArray) (ks : List Int) : crPk P H ks 0 = P := by
  refine ext_getD (crPk_len _ _ _ _) fun i hi => ?_
  rw [crPk_len] at hi
  rw [crPk_at P H ks 0 i hi, if_neg (fun h => by omega)]
theorem crHk_zero (H : List ByteArray) : crHk H 0 = H := by
  refine ext_getD (crHk_len _ _) fun i hi => ?_
  rw [crHk_len] at hi
  rw [crHk_at H 0 i hi, if_neg (by omega)]
theorem crPk_yes (P H : List ByteArray) (ks : List Int) (k : Nat) (hk : k < P.length) (h : (k : Int) ∈ ks) : (crPk P H ks k).set k (H.getD k ⟨#[]⟩) = crPk P H ks (k + 1) := by
  refine ext_getD (by rw [List.length_set, crPk_len, crPk_len]) fun i hi => ?_
  rw [List.length_set, crPk_len] at hi
  rw [getD_setT _ _ _ _ (by rw [crPk_len]; exact hk), crPk_at P H ks _ i hi, crPk_at P H ks _ i hi]
  by_cases e : i = k
  · subst e; rw [if_pos rfl, if_pos ⟨by omega, h⟩]
  · rw [if_neg e]
    by_cases h2 : i < k ∧ (i : Int) ∈ ks
    · rw [if_pos h2, if_pos ⟨by omega, h2.2⟩]
    · rw [if_neg h2, if_neg (fun h3 => h2 ⟨by omega, h3.2⟩)]
theorem crPk_no (P H : List ByteArray) (ks : List Int) (k : Nat) (h : ¬ (k : Int) ∈ ks) : crPk P H ks k = crPk P H ks (k + 1) := by
  refine ext_getD (by rw [crPk_len, crPk_len]) fun i hi => ?_
  rw [crPk_len] at hi
  rw [crPk_at P H ks _ i hi, crPk_at P H ks _ i hi]
  by_cases h2 : i < k ∧ (i : Int) ∈ ks
  · rw [if_pos h2, if_pos ⟨by omega, h2.2⟩]
  · rw [if_neg h2, if_neg (fun h3 => h2 ⟨?_, h3.2⟩)]
    have : ¬ i = k := fun e => h (by rw [← e]; exact h3.2)
    omega
theorem crHk_step (H : List ByteArray) (k : Nat) (hk : k < H.length) : (crHk H k).set k ⟨#[]⟩ = crHk H (k + 1) := by
  refine ext_getD (by rw [List.length_set, crHk_len, crHk_len]) fun i hi => ?_
  rw [List.length_set, crHk_len] at hi
  rw [getD_setT _ _ _ _ (by rw [crHk_len]; exact hk), crHk_at H _ i hi, crHk_at H _ i hi]
  by_cases e : i = k
  · subst e; rw [if_pos rfl, if_pos (by omega)]
  · rw [if_neg e]
    by_cases h2 : i < k
    · rw [if_pos h2, if_pos (by omega)]
    · rw [if_neg h2, if_neg (by omega)]
theorem crHk_end (H : List ByteArray) : crHk H H.length = crH H := by
  refine ext_getD (by rw [crHk_len, crH, List.length_replicate]) fun i hi => ?_
  rw [crHk_len] at hi
  rw [crHk_at H _ i hi, if_pos hi, crH, List.getD_eq_getElem?_getD, List.getElem?_replicate, if_pos hi]
  rfl
end Go.Proofs.Ytpgmocogffolaaa

namespace Go.Proofs.Ytpgmocogffolaaa
open Go.RowKit
set_option linter.unusedVariables false

/-- A state. -/
def jsP (vs : List Int) : Prop := (∀ i, i < vs.length → 0 ≤ vs.getD i 0 ∧ vs.getD i 0 ≤ 65535) ∧ vs.length = 6
/-- Two bytes a value, the higher one first. -/
def jsB : List Int → List Nat
  | [] => []
  | v :: vs => v.toNat / 256 :: v.toNat % 256 :: jsB vs
theorem jsB_len : ∀ vs : List Int, (jsB vs).length = 2 * vs.length
  | [] => rfl
  | v :: vs => by simp only [jsB, List.length_cons, jsB_len vs]; omega
theorem jsB_small : ∀ vs : List Int, (∀ i, i < vs.length → 0 ≤ vs.getD i 0 ∧ vs.getD i 0 ≤ 65535) → ∀ b ∈ jsB vs, b < 256
  | [], _ => fun b hb => by simp [jsB] at hb
  | v :: vs, h => fun b hb => by
    have h0 := h 0 (by simp)
    simp only [List.getD_cons_zero] at h0
    simp only [jsB, List.mem_cons] at hb
    rcases hb with rfl | rfl | hb
    · omega
    · omega
    · exact jsB_small vs (fun i hi => by have := h (i + 1) (by simpa using hi); simpa using this) b hb
theorem jsB_app : ∀ vs us : List Int, jsB (vs ++ us) = jsB vs ++ jsB us
  | [], us => rfl
  | v :: vs, us => by simp only [jsB, List.cons_append, jsB_app vs us]
/-- The bytes of the values so far, and noughts. -/
def rowJ (vs : List Int) (n k : Nat) : List Nat := jsB (vs.take k) ++ List.replicate (2 * (n - k)) 0
theorem rowJ_len (vs : List Int) (n k : Nat) (h : vs.length = n) (hk : k ≤ n) : (rowJ vs n k).length = 2 * n := by
  unfold rowJ
  rw [List.length_append, jsB_len, List.length_take, List.length_replicate]
  omega
theorem rowJ_zero (vs : List Int) (n : Nat) : rowJ vs n 0 = List.replicate (2 * n) 0 := by simp [rowJ, jsB]
theorem rowJ_end (vs : List Int) (n : Nat) (h : vs.length = n) : rowJ vs n n = jsB vs := by
  unfold rowJ
  rw [List.take_of_length_le (by omega)]
  simp
theorem rowJ_set (vs : List Int) (n k : Nat) (h : vs.length = n) (hk : k < n) : ((rowJ vs n k).set (2 * k) ((vs.getD k 0).toNat / 256)).set (2 * k + 1) ((vs.getD k 0).toNat % 256) = rowJ vs n (k + 1) := by
  have e : vs.take (k + 1) = vs.take k ++ [vs.getD k 0] := by
    rw [List.take_succ_eq_append_getElem (by omega), List.getD_eq_getElem?_getD, List.getElem?_eq_getElem (by omega)]
    rfl
  have hl : (jsB (vs.take k)).length = 2 * k := by rw [jsB_len, List.length_take]; omega
  have e2 : 2 * (n - k) = 2 * (n - (k + 1)) + 1 + 1 := by omega
  unfold rowJ
  rw [e, jsB_app, e2, List.replicate_succ, List.replicate_succ]
  rw [List.set_append_right _ _ (by omega), hl, Nat.sub_self, List.set_cons_zero]
  rw [List.set_append_right _ _ (by omega), hl, Nat.add_sub_cancel_left, List.set_cons_succ, List.set_cons_zero, List.append_assoc]
  rfl
/-- The texts of a state. -/
def jsT (vs : List Int) : List ByteArray := [ofN ((jsB vs).take 6), ofN ((jsB vs).drop 6)]
theorem jsT_size (vs : List Int) (h : vs.length = 6) : ∀ s ∈ jsT vs, s.size = 6 := by
  intro s hs
  simp only [jsT, List.mem_cons, List.not_mem_nil, or_false] at hs
  rcases hs with rfl | rfl
  · rw [ofN_size, List.length_take, jsB_len]; omega
  · rw [ofN_size, List.length_drop, jsB_len]; omega
/-- Texts of which StateFrom tells a state. -/
def jfP (l : List ByteArray) : Prop := l.length = 2 ∧ (∀ i, i < l.length → (l.getD i ⟨#[]⟩).size = 6)
/-- What StateFrom tells of bytes. -/
def jvN (l : List Nat) (k : Nat) : Int := ((l.getD (2 * k) 0 * 256 + l.getD (2 * k + 1) 0 : Nat) : Int)
def jvB (l : List Nat) (n : Nat) : List Int := (List.range n).map (jvN l)
theorem jvB_len (l : List Nat) (n : Nat) : (jvB l n).length = n := by simp [jvB]
theorem jvB_getD (l : List Nat) (n i : Nat) (h : i < n) : (jvB l n).getD i 0 = jvN l i := by
  unfold jvB
  rw [List.getD_eq_getElem?_getD, List.getElem?_map, List.getElem?_range h]
  rfl
theorem jvB_succ (l : List Nat) (k : Nat) : jvB l (k + 1) = jvB l k ++ [jvN l k] := by simp [jvB, List.range_succ]
/-- The row of values so far, and noughts. -/
def rowV15 (l : List Nat) (n k : Nat) : List Int := jvB l k ++ List.replicate (n - k) 0
theorem rowV15_len (l : List Nat) (n k : Nat) (h : k ≤ n) : (rowV15 l n k).length = n := by simp [rowV15, jvB]; omega
theorem rowV15_zero (l : List Nat) (n : Nat) : rowV15 l n 0 = List.replicate n 0 := by simp [rowV15, jvB]
theorem rowV15_end (l : List Nat) (n : Nat) : rowV15 l n n = jvB l n := by simp [rowV15]
theorem rowV15_set (l : List Nat) (n k : Nat) (h : k < n) : (rowV15 l n k).set k (jvN l k) = rowV15 l n (k + 1) := by
  unfold rowV15
  rw [List.set_append_right _ _ (by rw [jvB_len]; exact Nat.le_refl _), jvB_len, Nat.sub_self]
  obtain ⟨m, hm⟩ : ∃ m, n - k = m + 1 := ⟨n - k - 1, by omega⟩
  have hm2 : n - (k + 1) = m := by omega
  rw [hm, hm2, List.replicate_succ, List.set_cons_zero, jvB_succ, List.append_assoc]
  rfl
def jsV (l : List ByteArray) : List Int := jvB (bs (l.getD 0 ⟨#[]⟩) ++ bs (l.getD 1 ⟨#[]⟩)) 6
theorem jsV_len (l : List ByteArray) : (jsV l).length = 6 := jvB_len _ _
theorem jvN_ok (l : List Nat) (h : ∀ b ∈ l, b < 256) (k : Nat) : 0 ≤ jvN l k ∧ jvN l k ≤ 65535 := by
  have g : ∀ i, l.getD i 0 < 256 := fun i => by
    rw [List.getD_eq_getElem?_getD]
    by_cases hi : i < l.length
    · rw [List.getElem?_eq_getElem hi]; exact h _ (List.getElem_mem _)
    · rw [List.getElem?_eq_none (by omega)]; simp
  have h1 := g (2 * k)
  have h2 := g (2 * k + 1)
  unfold jvN
  omega
theorem jsV_ok (l : List ByteArray) : jsP (jsV l) := by
  refine ⟨fun i hi => ?_, jsV_len l⟩
  unfold jsV
  rw [jvB_getD _ _ _ (by rw [jsV_len] at hi; exact hi)]
  refine jvN_ok _ (fun b hb => ?_) i
  rw [List.mem_append] at hb
  rcases hb with hb | hb
  · exact bs_lt _ b hb
  · exact bs_lt _ b hb
theorem jvB_jsB (l : List Nat) : ∀ vs : List Int, (∀ i, i < vs.length → 0 ≤ vs.getD i 0 ∧ vs.getD i 0 ≤ 65535) → l = jsB vs → jvB l vs.length = vs := by
  intro vs h e
  subst e
  apply List.ext_getElem?
  intro i
  by_cases hi : i < vs.length
  · have h1 : (jvB (jsB vs) vs.length)[i]? = some (jvN (jsB vs) i) := by
      unfold jvB
      rw [List.getElem?_map, List.getElem?_range hi]
      rfl
    rw [h1, List.getElem?_eq_getElem hi]
    have hs : vs = vs.take i ++ vs[i] :: vs.drop (i + 1) := by rw [List.getElem_cons_drop, List.take_append_drop]
    have hl : (jsB (vs.take i)).length = 2 * i := by rw [jsB_len, List.length_take]; omega
    have hb := h i hi
    rw [List.getD_eq_getElem?_getD, List.getElem?_eq_getElem hi, Option.getD_some] at hb
    have e1 : jsB vs = jsB (vs.take i) ++ (vs[i].toNat / 256 :: vs[i].toNat % 256 :: jsB (vs.drop (i + 1))) := by
      conv => lhs; rw [hs]
      rw [jsB_app]
      rfl
    have g0 : (jsB vs).getD (2 * i) 0 = vs[i].toNat / 256 := by
      rw [e1, List.getD_eq_getElem?_getD, List.getElem?_append_right (by omega), hl, Nat.sub_self]
      rfl
    have g1 : (jsB vs).getD (2 * i + 1) 0 = vs[i].toNat % 256 := by
      rw [e1, List.getD_eq_getElem?_getD, List.getElem?_append_right (by omega), hl, Nat.add_sub_cancel_left]
      rfl
    unfold jvN
    rw [g0, g1]
    congr 1
    omega
  · rw [List.getElem?_eq_none (by rw [jvB_len]; omega), List.getElem?_eq_none (by omega)]
/-- A state comes back from its texts. -/
theorem jsV_jsT {vs : List Int} (h : jsP vs) : jsV (jsT vs) = vs := by
  have hs := jsB_small vs h.1
  have e : bs ((jsT vs).getD 0 ⟨#[]⟩) ++ bs ((jsT vs).getD 1 ⟨#[]⟩) = jsB vs := by
    show bs (ofN ((jsB vs).take 6)) ++ bs (ofN ((jsB vs).drop 6)) = _
    rw [bs_ofN (fun b hb => hs b (List.mem_of_mem_take hb)), bs_ofN (fun b hb => hs b (List.mem_of_mem_drop hb)), List.take_append_drop]
  unfold jsV
  rw [e]
  have := jvB_jsB (jsB vs) vs h.1 rfl
  rw [h.2] at this
  exact this
theorem jsT_jf {vs : List Int} (h : jsP vs) : jfP (jsT vs) := by
  refine ⟨rfl, fun i hi => ?_⟩
  have : i = 0 ∨ i = 1 := by
    have : (jsT vs).length = 2 := rfl
    omega
  rcases this with rfl | rfl
  · exact jsT_size vs h.2 _ (by simp [jsT])
  · exact jsT_size vs h.2 _ (by simp [jsT])

/-- The number of a half's first sector. -/
def hlf (e : Int) : Int := 1 + 2 * (e % 2)
/-- The frame that a sector tells, of a good disk. -/
def fa (P H : List ByteArray) (B : List Bool) (kind A least : Int) : Fr := if B.getD A.toNat false = true then frNo 0 else ckR (rsT P H A.toNat) kind A least
def fa2 (P H : List ByteArray) (B : List Bool) (e : Int) (k : Nat) : Fr := fa P H B 3 (hlf e + k) e
/-- What a disk of five sectors tells. -/
def rcv (P H : List ByteArray) (B : List Bool) : Option (List Int × Int) :=
  if (fa P H B 4 0 0).ok = true then
    if ((fa2 P H B (fa P H B 4 0 0).E 0).ok = true ∧ (fa2 P H B (fa P H B 4 0 0).E 0).E = (fa P H B 4 0 0).E) ∧ ((fa2 P H B (fa P H B 4 0 0).E 1).ok = true ∧ (fa2 P H B (fa P H B 4 0 0).E 1).E = (fa P H B 4 0 0).E) ∧
      (fa2 P H B (fa P H B 4 0 0).E 0).B.size = 6 ∧ (fa2 P H B (fa P H B 4 0 0).E 1).B.size = 6 then
      some (jsV [(fa2 P H B (fa P H B 4 0 0).E 0).B, (fa2 P H B (fa P H B 4 0 0).E 1).B], (fa P H B 4 0 0).E)
    else none
  else none
def rcV (o : Option (List Int × Int)) : List Int := match o with | none => [] | some x => x.1
def rcE (o : Option (List Int × Int)) : Int := match o with | none => 0 | some x => x.2
def rcB (o : Option (List Int × Int)) : Bool := match o with | none => false | some x => true
def rcI (o : Option (List Int × Int)) : Int := match o with | none => -1 | some x => x.2
theorem rdR_E (s : ByteArray) : (rdR s).ok = true → 0 ≤ (rdR s).E ∧ (rdR s).E ≤ 60000 := by
  unfold rdR
  split
  · split
    · split
      · rename_i h
        intro _
        exact h.2.1.2.1
      · intro h; simp [frNo] at h
    · intro h; simp [frNo] at h
  · intro h; simp [frNo] at h
theorem ckR_E (s : ByteArray) (K A l : Int) (h : (ckR s K A l).ok = true) : 0 ≤ (ckR s K A l).E ∧ (ckR s K A l).E ≤ 60000 := by
  unfold ckR at h ⊢
  split at h
  · rename_i h0
    rw [if_pos h0]
    split at h
    · rename_i h1
      rw [if_pos h1]
      split at h
      · rename_i h2
        rw [if_pos h2]
        split at h
        · rename_i h3
          rw [if_pos h3]
          exact rdR_E s h0
        · simp [frNo] at h
      · simp [frNo] at h
    · simp [frNo] at h
  · simp [frNo] at h
theorem fa_E {P H : List ByteArray} {B : List Bool} {K A l : Int} (h : (fa P H B K A l).ok = true) : 0 ≤ (fa P H B K A l).E ∧ (fa P H B K A l).E ≤ 60000 := by
  unfold fa at h ⊢
  split at h
  · simp [frNo] at h
  · rename_i h0
    rw [if_neg h0]
    exact ckR_E _ _ _ _ h
theorem hlf_in {e : Int} : hlf e = 1 ∨ hlf e = 3 := by unfold hlf; omega
theorem rcv_ok {P H : List ByteArray} {B : List Bool} {vs : List Int} {e : Int} (h : rcv P H B = some (vs, e)) : jsP vs ∧ 0 ≤ e ∧ e ≤ 60000 := by
  unfold rcv at h
  split at h
  · rename_i h0
    split at h
    · simp only [Option.some.injEq, Prod.mk.injEq] at h
      obtain ⟨rfl, rfl⟩ := h
      exact ⟨jsV_ok _, fa_E h0⟩
    · simp at h
  · simp at h
end Go.Proofs.Ytpgmocogffolaaa

namespace Go.Proofs.Ytpgmocogffolaaa
open Go.RowKit
set_option linter.unusedVariables false

def fl9 (xs : List ByteArray) : List Nat := xs.flatMap bs
theorem fl9_snoc (xs : List ByteArray) (k : Nat) (h : k < xs.length) : fl9 (xs.take (k + 1)) = fl9 (xs.take k) ++ bs (xs.getD k ⟨#[]⟩) := by
  unfold fl9
  rw [List.take_succ_eq_append_getElem h, List.flatMap_append, List.getD_eq_getElem?_getD, List.getElem?_eq_getElem h]
  simp
theorem fl9_small (xs : List ByteArray) : ∀ b ∈ fl9 xs, b < 256 := by
  intro b hb
  obtain ⟨s, _, hs⟩ := List.mem_flatMap.1 hb
  exact bs_lt s b hs
theorem fl9_len (xs : List ByteArray) (k : Nat) (hk : k ≤ xs.length) (h : ∀ i, i < xs.length → (xs.getD i ⟨#[]⟩).size ≤ 1048576) : (fl9 (xs.take k)).length ≤ 1048576 * k := by
  induction k with
  | zero => simp [fl9]
  | succ k ih =>
    rw [fl9_snoc xs k (by omega), List.length_append, bs_length]
    have := ih (by omega)
    have := h k (by omega)
    omega
theorem fl9_mono (xs : List ByteArray) (k : Nat) : (fl9 (xs.take k)).length ≤ (fl9 xs).length := by
  conv => rhs; rw [← List.take_append_drop k xs]
  unfold fl9
  rw [List.flatMap_append, List.length_append]
  exact Nat.le_add_right _ _
theorem szs_of {xs : List ByteArray} (h : ∀ i, i < xs.length → (xs.getD i ⟨#[]⟩).size ≤ 1048576) (k : Nat) : (xs.getD k ⟨#[]⟩).size ≤ 1048576 := by
  by_cases hk : k < xs.length
  · exact h k hk
  · rw [List.getD_eq_getElem?_getD, List.getElem?_eq_none (by omega)]
    exact Nat.zero_le _

theorem strCells_bs9 (s : ByteArray) : Go.Lib.strCells s = (bs s).map u8v := by
  unfold Go.Lib.strCells bs
  rw [List.map_map]
  rfl
theorem infoU8j : (Try.prog.info? 5).map (fun i => (i.zero, i.size, i.bytes)) = some (some (.int .u8 0), 1, 1) := by kernel_rfl
theorem own_conv9 {w : World} {base g n cap : Nat} {l : List Nat} (h : w.ownsRow base 5 1 (.slice (some ⟨g, 0, none⟩) n cap) n (l.map u8v)) (hl : ∀ b ∈ l, b < 256) :
    (convert 121 9 (.slice (some ⟨g, 0, none⟩) n cap)).run Try.prog w = .ok (.string (ofN l)) w := by
  have hn : l.length = n := by have := h.1; simpa using this
  have := run_convert_bytes_back (P := Try.prog) w 121 9 5 ⟨g, 0, none⟩ cap (l.map UInt8.ofNat) Try.underlying121 Try.underlying5 Try.underlying9 (fun j hj => by
    have hj' : j < l.length := by simpa using hj
    have hadd : (⟨g, 0, none⟩ : Addr).add j = ⟨g, 0 + j, none⟩ := by unfold Addr.add; split <;> simp_all
    rw [hadd, Nat.zero_add, World.ownsRow.cellAt h j (by omega), List.getElem?_map, List.getElem?_eq_getElem hj', List.getElem_map]
    show some (u8v l[j]) = _
    unfold u8v
    rw [UInt8.toNat_ofNat', Nat.mod_eq_of_lt (hl _ (List.getElem_mem hj'))])
  rw [List.length_map, hn] at this
  exact this

set_option maxRecDepth 100000 in
set_option maxHeartbeats 800000 in
theorem joinTexts_calls (v : Value) (xs : List ByteArray) (w : World) (h : RdT w v xs) (hn : xs.length ≤ 1048576) (hF : (fl9 xs).length ≤ 1048576) (hs : ∀ i, i < xs.length → (xs.getD i ⟨#[]⟩).size ≤ 1048576) :
    Calls Try.prog 145 #[v] w fun e w' => e = .returned (.string (ofN (fl9 xs))) ∧ Below w.heap.size w w' := by
  obtain ⟨a, cap, rfl, hl1, h2, h4, h3⟩ := h
  have H3 := hide h3
  have HS := hide hs
  clear h3 h4 hs hl1 h2
  obtain ⟨i0, hi, hz0, hz1, hz2⟩ := info_parts infoU8j
  have IP := hide (And.intro hi (And.intro hz0 (And.intro hz1 hz2)))
  clear hi hz0 hz1 hz2
  have O0 : Hid ((w.alloc (.cells #[] 5)).ownsRow w.heap.size 5 1 (.slice (some ⟨w.heap.size, 0, none⟩) 0 0) 0 (([] : List Nat).map u8v)) := by
    show World.ownsRow _ _ _ _ _ _ _
    have := World.ownsRow_lit (base := w.heap.size) (e := 5) (size := 1) w #[] 0 (Nat.le_refl _) (by unfold maxLen; omega) (by simp)
    simpa using this
  go_enter Try.func145, Try.ntmps145
  go_wp2
  go_loopw [3, 9] (fun vt vi wr => ∃ (k g c : Nat), k ≤ xs.length ∧ vi = .int .i64 k ∧ vt = .slice (some ⟨g, 0, none⟩) (fl9 (xs.take k)).length c ∧ wr.ownsRow w.heap.size 5 1 (.slice (some ⟨g, 0, none⟩) (fl9 (xs.take k)).length c) (fl9 (xs.take k)).length ((fl9 (xs.take k)).map u8v) ∧ Below w.heap.size w wr) (fun _ vi _ => xs.length - (intOf vi).toNat)
  case atStart => exact ⟨0, w.heap.size, 0, Nat.zero_le _, rfl, rfl, O0.out, (Below.refl _ w).alloc (Nat.le_refl _) _⟩
  case round =>
    obtain ⟨k, g, c, hk, rfl, rfl, hown, hb⟩ := hrel
    have O := hide hown
    have HB := hide hb
    have hgl : w.heap.size ≤ g := by
      rcases hown.2 with ⟨h', _⟩ | ⟨g', cap', cur, h', hbg, _⟩
      · simp at h'
      · simp at h'; omega
    have hfl := fl9_mono xs k
    by_cases hlt : k < xs.length
    · rcases H3.out with h3 | ⟨b, off, rfl, hbs, hc⟩
      · subst h3; simp at hlt
      have hc1 : wr.cell? ⟨b, off + k, none⟩ = some (.string (xs.getD k ⟨#[]⟩)) := (hb.cell (p := ⟨b, off + k, none⟩) hbs).trans (hc k hlt)
      have hz := HS.out k hlt
      have hsn := fl9_snoc xs k hlt
      obtain ⟨z, hzz⟩ : ∃ z, z = xs.getD k ⟨#[]⟩ := ⟨_, rfl⟩
      rw [← hzz] at hc1 hz hsn
      have HSN := hide hsn
      have hlt' : (k : Int) < (xs.length : Int) := by omega
      clear hzz hc hsn hown hb
      obtain ⟨m, hm2⟩ : ∃ m, m = (fl9 (xs.take k)).length := ⟨_, rfl⟩
      have HM := hide hm2
      have oo := O.out
      rw [← hm2] at oo hfl ⊢
      have OO := hide oo
      clear hm2 oo
      have hbb : w.heap.size ≤ wr.heap.size := HB.out.size
      go_wp2_with (at_builtin; refine Go.Lib.wpList_append_own_string (w := wr) rfl _ _ _ _ rfl w.heap.size 5 i0 Try.underlying121 Try.underlying9 IP.out.1 IP.out.2.1 IP.out.2.2.1 IP.out.2.2.2 _ m _ rfl OO.out z rfl (by unfold maxLen; omega) (by omega) hbb ?_)
      intro v' w2 o2 g2 hnil
      have B2 := hide (HB.out.grown g2 HB.out.size (fun j hj => by simp [Value.ownBlock] at hj; omega))
      have o3 := o2
      rw [strCells_bs9, ← List.map_append, ← HSN.out] at o3
      rcases o3.2 with ⟨h', _⟩ | ⟨g', cap', cur, h', _⟩
      · exact absurd h' hnil
      have O3 := hide o3
      have H' := hide h'
      clear o2 o3 g2 hnil h'
      go_wp2
      go_roundw
      case rel =>
        have e : (fl9 (xs.take (k + 1))).length = m + z.size := by rw [HSN.out, List.length_append, bs_length, HM.out]
        refine ⟨k + 1, g', cap', by omega, by go_num, by rw [H'.out, e], ?_, B2.out⟩
        rw [e, ← H'.out]
        exact O3.out
      case measure => simp [intOf]; omega
    · obtain rfl : k = xs.length := by omega
      have oo := O.out
      rw [List.take_length] at oo ⊢
      have hcv := own_conv9 oo (fl9_small xs)
      clear oo hown hb
      go_wp2
      go_ret
      exact ⟨rfl, HB.out⟩

abbrev jchOk (xs : List ByteArray) : Prop := xs.length ≤ 80 ∧ (fl9 xs).length ≤ 300
def jchR (xs : List ByteArray) : ByteArray × Bool := if jchOk xs then (ofN (fl9 xs), true) else (⟨#[]⟩, false)

end Go.Proofs.Ytpgmocogffolaaa

/-
  A sweep: the mathematics (what is come to holds only what is come to; what a sweep leaves). No condition; no call is walked here.
-/
import Derived.Test.YtakhggnbhjoojaaRca
namespace Go.Proofs.Ytakhggnbhjoojaa
open Go.RowKit
set_option linter.unusedVariables false

theorem setT_mono (bs : List Bool) (x i : Nat) (h : bs.getD i false = true) : (bs.set x true).getD i false = true := by
  by_cases hx : x < bs.length
  · rw [getD_set _ _ _ _ _ hx]
    split
    · rfl
    · exact h
  · rw [List.set_eq_of_length_le (by omega)]
    exact h
theorem rchN_mono : ∀ (ks : List Int) (bs : List Bool) (i : Nat), bs.getD i false = true → (rchN bs ks).getD i false = true
  | [], bs, i, h => h
  | x :: r, bs, i, h => rchN_mono r (bs.set x.toNat true) i (setT_mono bs x.toNat i h)
theorem rchN_set : ∀ (ks : List Int) (bs : List Bool) (q : Nat), q < ks.length → (ks.getD q 0).toNat < bs.length → (rchN bs ks).getD (ks.getD q 0).toNat false = true
  | [], bs, q, h, _ => by simp at h
  | x :: r, bs, 0, h, hx => by
    refine rchN_mono r (bs.set x.toNat true) _ ?_
    simp only [List.getD_cons_zero] at hx ⊢
    rw [getD_set _ _ _ _ _ hx, if_pos rfl]
  | x :: r, bs, q + 1, h, hx => by
    have := rchN_set r (bs.set x.toNat true) q (by simpa using h) (by simpa using hx)
    simpa [rchN] using this
theorem rchN_other : ∀ (ks : List Int) (bs : List Bool) (i : Nat), (∀ q, q < ks.length → (ks.getD q 0).toNat ≠ i) → (rchN bs ks).getD i false = bs.getD i false
  | [], bs, i, _ => rfl
  | x :: r, bs, i, h => by
    have h0 : x.toNat ≠ i := h 0 (by simp)
    have ih := rchN_other r (bs.set x.toNat true) i (fun q hq => by simpa using h (q + 1) (by simpa using hq))
    have e : (bs.set x.toNat true).getD i false = bs.getD i false := by
      by_cases hx : x.toNat < bs.length
      · rw [getD_set _ _ _ _ _ hx, if_neg (fun e => h0 e.symm)]
      · rw [List.set_eq_of_length_le (by omega)]
    rw [← e]
    exact ih
theorem rchD_mono (m : List Nd) : ∀ (k : Nat) (bs : List Bool) (i : Nat), bs.getD i false = true → (rchD m k bs).getD i false = true
  | 0, bs, i, h => h
  | k + 1, bs, i, h => by
    simp only [rchD]
    refine rchD_mono m k _ i ?_
    split
    · exact rchN_mono _ _ _ h
    · exact h
theorem rchD_above (m : List Nd) (hm : LsN m) : ∀ (k : Nat) (bs : List Bool) (i : Nat), k ≤ m.length → k ≤ i → (rchD m k bs).getD i false = bs.getD i false
  | 0, bs, i, _, _ => rfl
  | k + 1, bs, i, hk, hi => by
    simp only [rchD]
    rw [rchD_above m hm k _ i (by omega) (by omega)]
    split
    · refine rchN_other _ _ _ (fun q hq => ?_)
      have := (hm k (by omega)).2 q hq
      omega
    · rfl
/-- What is come to holds only what is come to. -/
theorem rchD_closed (m : List Nd) (hm : LsN m) : ∀ (k : Nat) (bs : List Bool), k ≤ m.length → bs.length = m.length → ∀ i, i < k → (rchD m k bs).getD i false = true → ∀ q, q < (m.getD i nd0).1.length → (rchD m k bs).getD ((m.getD i nd0).1.getD q 0).toNat false = true
  | 0, bs, _, _, i, hi, _, _, _ => by omega
  | k + 1, bs, hk, hl, i, hi, ht, q, hq => by
    simp only [rchD] at ht ⊢
    have hbl : (if bs.getD k false = true then rchN bs (m.getD k nd0).1 else bs).length = m.length := by
      split
      · rw [rchN_len]; exact hl
      · exact hl
    by_cases e : i < k
    · exact rchD_closed m hm k _ (by omega) hbl i e ht q hq
    · obtain rfl : i = k := by omega
      have hx := (hm i (by omega)).2 q hq
      rw [rchD_above m hm i _ i (by omega) (Nat.le_refl _)] at ht
      have hb : bs.getD i false = true := by
        split at ht
        · assumption
        · exact ht
      rw [if_pos hb]
      refine rchD_mono m i _ _ (rchN_set _ _ _ hq ?_)
      omega
theorem rchA_closed (m : List Nd) (rs : List Int) (hm : LsN m) (i : Nat) (hi : i < m.length) (h : (rchA m rs).getD i false = true) (q : Nat) (hq : q < (m.getD i nd0).1.length) : (rchA m rs).getD ((m.getD i nd0).1.getD q 0).toNat false = true :=
  rchD_closed m hm m.length _ (Nat.le_refl _) (by rw [rchN_len, List.length_replicate]) i hi h q hq
theorem rchA_root (m : List Nd) (rs : List Int) (q : Nat) (hq : q < rs.length) (hx : (rs.getD q 0).toNat < m.length) : (rchA m rs).getD (rs.getD q 0).toNat false = true :=
  rchD_mono m _ _ _ (rchN_set _ _ _ hq (by rw [List.length_replicate]; exact hx))
/-- What goes by a sweep. -/
abbrev swG (m : List Nd) (bs : List Bool) (k : Nat) : Prop := bs.getD k false = false ∧ (m.getD k nd0).2 = false
/-- The nodes, and which have gone, behind k of them. -/
def swK (m : List Nd) (bs : List Bool) : Nat → List Nd × List Int
  | 0 => (m, [])
  | k + 1 => if swG m bs k then ((swK m bs k).1.set k ([], true), (swK m bs k).2 ++ [(k : Int)]) else swK m bs k
theorem swK_len (m : List Nd) (bs : List Bool) : ∀ k, (swK m bs k).1.length = m.length
  | 0 => rfl
  | k + 1 => by
    have := swK_len m bs k
    simp only [swK]
    split
    · simpa using this
    · exact this
theorem swK_gone (m : List Nd) (bs : List Bool) : ∀ k, (swK m bs k).2.length ≤ k
  | 0 => Nat.le_refl _
  | k + 1 => by
    have := swK_gone m bs k
    simp only [swK]
    split
    · simp; omega
    · omega
theorem swK_at (m : List Nd) (bs : List Bool) : ∀ k, k ≤ m.length → ∀ i, (swK m bs k).1.getD i nd0 = if i < k ∧ swG m bs i then ([], true) else m.getD i nd0
  | 0, _, i => by simp [swK]
  | k + 1, hk, i => by
    have ih := swK_at m bs k (by omega) i
    have hl := swK_len m bs k
    simp only [swK]
    by_cases hg : swG m bs k
    · rw [if_pos hg]
      simp only
      rw [getD_set _ _ _ _ _ (by omega)]
      by_cases e : i = k
      · subst e
        rw [if_pos rfl, if_pos ⟨by omega, hg⟩]
      · rw [if_neg e, ih]
        by_cases h1 : i < k ∧ swG m bs i
        · rw [if_pos h1, if_pos ⟨by omega, h1.2⟩]
        · rw [if_neg h1, if_neg (fun h => h1 ⟨by omega, h.2⟩)]
    · rw [if_neg hg, ih]
      by_cases e : i = k
      · subst e
        rw [if_neg (fun h => hg h.2), if_neg (fun h => hg h.2)]
      · by_cases h1 : i < k ∧ swG m bs i
        · rw [if_pos h1, if_pos ⟨by omega, h1.2⟩]
        · rw [if_neg h1, if_neg (fun h => h1 ⟨by omega, h.2⟩)]
theorem okG_ls {m : List Nd} {rs : List Int} (h : okG m rs) : LsN m := fun k hk => ⟨(h.1.2 k hk).2.1, fun i hi => ⟨((h.1.2 k hk).1 i hi).1, ((h.1.2 k hk).1 i hi).2.1⟩⟩
/-- What a sweep leaves is as said. -/
theorem swept_ok {m : List Nd} {rs : List Int} (h : okG m rs) : okG (swK m (rchA m rs) m.length).1 rs := by
  have hl := swK_len m (rchA m rs) m.length
  have ha := swK_at m (rchA m rs) m.length (Nat.le_refl _)
  have keep : ∀ x : Int, (rchA m rs).getD x.toNat false = true → (m.getD x.toNat nd0).2 = false → ((swK m (rchA m rs) m.length).1.getD x.toNat nd0).2 = false := by
    intro x h1 h2
    rw [ha, if_neg (fun h3 => by have := h3.2.1; rw [h1] at this; cases this)]
    exact h2
  refine ⟨⟨by rw [hl]; exact h.1.1, fun k hk => ?_⟩, h.2.1, fun i hi => ?_⟩
  · rw [hl] at hk
    rw [ha]
    split
    · exact ⟨fun i hi => by simp at hi, by simp, fun _ => rfl⟩
    · rename_i hng
      have hk1 := h.1.2 k hk
      refine ⟨fun i hi => ?_, hk1.2⟩
      have hx := hk1.1 i hi
      refine ⟨hx.1, hx.2.1, keep _ ?_ hx.2.2⟩
      cases hr : (rchA m rs).getD k false with
      | true => exact rchA_closed m rs (okG_ls h) k hk hr i hi
      | false =>
        exfalso
        cases hz : (m.getD k nd0).2 with
        | true => have := hk1.2.2 hz; omega
        | false => exact hng ⟨hk, hr, hz⟩
  · have hx := h.2.2 i hi
    refine ⟨hx.1, by rw [hl]; exact hx.2.1, keep _ ?_ hx.2.2⟩
    exact rchA_root m rs i hi (by have := hx.1; have := hx.2.1; omega)
end Go.Proofs.Ytakhggnbhjoojaa

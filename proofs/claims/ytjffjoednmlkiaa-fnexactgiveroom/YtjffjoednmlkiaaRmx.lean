/-
  Rooms as rows and as maps of places: what a row of a map is, and how it changes with the map. No condition.
-/
import Derived.Test.YtjffjoednmlkiaaRmw
namespace Go.Proofs.Ytjffjoednmlkiaa
open Go.RowKit Go.Maps Go.MapKept Go.ChangeMaps
set_option linter.unusedVariables false

theorem rise_ext {xs ys : List Int} (hx : xs.Pairwise (· < ·)) (hy : ys.Pairwise (· < ·)) (hm : ∀ k, k ∈ xs ↔ k ∈ ys) : xs = ys := by
  have nd : xs.Nodup := hx.imp (fun h => by omega)
  exact ((sorted_is nd hx (fun _ => Iff.rfl)).1).symm.trans (sorted_is nd hy hm).1
theorem lkM_set (F : Om) (q : Nat) (v : Option Int) (hq : q < F.length) (k : Int) : lkM (F.set q v) k = if k = (q : Int) then v else lkM F k := by
  by_cases h0 : 0 ≤ k
  · obtain ⟨p, rfl⟩ : ∃ p : Nat, k = (p : Int) := ⟨k.toNat, by omega⟩
    rw [lkM_nat, lkM_nat, getD_set _ _ _ _ _ hq]
    by_cases e : p = q
    · rw [if_pos e, if_pos (by omega)]
    · rw [if_neg e, if_neg (by omega)]
  · have : lkM (F.set q v) k = none := if_neg h0
    have h2 : lkM F k = none := if_neg h0
    rw [this, h2, if_neg (by omega)]
/-- The places that the map holds at an order, in their order. -/
structure IsRow (F : Om) (o : Nat) (xs : List Int) : Prop where
  rise : xs.Pairwise (· < ·)
  mem : ∀ k, k ∈ xs ↔ lkM F k = some (o : Int)
theorem rowK_is (F : Om) (o : Nat) : IsRow F o (rowK F o (keysG F)) := by
  refine ⟨(selF_rise _ _).sublist List.filter_sublist, fun k => ?_⟩
  unfold rowK
  rw [List.mem_filter, keysG_mem, decide_eq_true_eq]
  cases h : lkM F k with
  | none => simp
  | some y => simp
theorem IsRow.eq {F : Om} {o : Nat} {xs ys : List Int} (h : IsRow F o xs) (k : IsRow F o ys) : xs = ys :=
  rise_ext h.rise k.rise (fun x => (h.mem x).trans (k.mem x).symm)
theorem mem_putS (n : Int) : ∀ (xs : List Int) (k : Int), k ∈ putS n xs ↔ k = n ∨ k ∈ xs
  | [], k => by simp [putS]
  | x :: r, k => by
      have ih := mem_putS n r k
      simp only [putS]
      split
      · rw [List.mem_cons, ih, List.mem_cons]
        constructor
        · rintro (h | h | h)
          · exact .inr (.inl h)
          · exact .inl h
          · exact .inr (.inr h)
        · rintro (h | h | h)
          · exact .inr (.inl h)
          · exact .inl h
          · exact .inr (.inr h)
      · split
        · rename_i e
          subst e
          simp
        · simp
theorem rise_putS (n : Int) : ∀ (xs : List Int), xs.Pairwise (· < ·) → (putS n xs).Pairwise (· < ·)
  | [], _ => by simp [putS]
  | x :: r, h => by
      obtain ⟨h1, h2⟩ := List.pairwise_cons.1 h
      have ih := rise_putS n r h2
      simp only [putS]
      split
      · refine List.pairwise_cons.2 ⟨fun y hy => ?_, ih⟩
        rcases (mem_putS n r y).1 hy with rfl | hy
        · assumption
        · exact h1 y hy
      · split
        · exact h
        · refine List.pairwise_cons.2 ⟨fun y hy => ?_, h⟩
          rcases List.mem_cons.1 hy with rfl | hy
          · omega
          · have := h1 y hy
            omega
theorem IsRow.put {F : Om} {o : Nat} {xs : List Int} (h : IsRow F o xs) (q : Nat) (hq : q < F.length) : IsRow (F.set q (some (o : Int))) o (putS (q : Int) xs) := by
  refine ⟨rise_putS _ _ h.rise, fun k => ?_⟩
  rw [mem_putS, lkM_set F q _ hq]
  by_cases e : k = (q : Int)
  · simp [e]
  · rw [if_neg e, ← h.mem]; simp [e]
theorem IsRow.other {F : Om} {o : Nat} {xs : List Int} (h : IsRow F o xs) (q : Nat) (hq : q < F.length) (v : Option Int) (h1 : lkM F (q : Int) ≠ some (o : Int)) (h2 : v ≠ some (o : Int)) : IsRow (F.set q v) o xs := by
  refine ⟨h.rise, fun k => ?_⟩
  rw [lkM_set F q _ hq, h.mem]
  by_cases e : k = (q : Int)
  · subst e; rw [if_pos rfl]; exact ⟨fun x => absurd x h1, fun x => absurd x h2⟩
  · rw [if_neg e]
theorem IsRow.drop {F : Om} {o : Nat} {xs : List Int} (h : IsRow F o xs) (q : Nat) (hq : q < F.length) (v : Option Int) (h2 : v ≠ some (o : Int)) : IsRow (F.set q v) o (xs.filter fun x => decide (x ≠ (q : Int))) := by
  refine ⟨h.rise.sublist List.filter_sublist, fun k => ?_⟩
  rw [lkM_set F q _ hq, List.mem_filter, h.mem, decide_eq_true_eq]
  by_cases e : k = (q : Int)
  · subst e; rw [if_pos rfl]; exact ⟨fun x => absurd rfl x.2, fun x => absurd x h2⟩
  · rw [if_neg e]; exact ⟨fun x => x.1, fun x => ⟨x, e⟩⟩
theorem IsRow.tail {F : Om} {o : Nat} {q : Nat} {xs : List Int} (h : IsRow F o ((q : Int) :: xs)) (hq : q < F.length) (v : Option Int) (h2 : v ≠ some (o : Int)) : IsRow (F.set q v) o xs := by
  have hp := List.pairwise_cons.1 h.rise
  refine ⟨hp.2, fun k => ?_⟩
  rw [lkM_set F q _ hq]
  have := h.mem k
  rw [List.mem_cons] at this
  by_cases e : k = (q : Int)
  · subst e
    rw [if_pos rfl]
    exact ⟨fun x => by have := hp.1 _ x; omega, fun x => absurd x h2⟩
  · rw [if_neg e, ← this]
    exact ⟨.inr, fun x => x.resolve_left e⟩

theorem ext_getDR {α : Type} (d : α) (xs ys : List α) (hl : xs.length = ys.length) (h : ∀ i, i < xs.length → xs.getD i d = ys.getD i d) : xs = ys := by
  refine List.ext_getElem hl (fun i h1 h2 => ?_)
  have := h i h1
  simp only [List.getD_eq_getElem?_getD, List.getElem?_eq_getElem h1, List.getElem?_eq_getElem h2, Option.getD_some] at this
  exact this
/-- All rows of the map. -/
structure AllRows (F : Om) (m : List (List Int)) : Prop where
  len : F.length = 32
  six : m.length = 6
  row : ∀ o, o < 6 → IsRow F o (m.getD o [])
theorem AllRows.is {F : Om} {m : List (List Int)} (h : AllRows F m) : rowsK F (keysG F) = m := by
  refine ext_getDR [] _ _ (by rw [rowsK_len, h.six]) (fun i h1 => ?_)
  have i6 : i < 6 := by rw [rowsK_len] at h1; exact h1
  rw [rowsK_get F _ i i6]
  exact (rowK_is F i).eq (h.row i i6)
theorem AllRows.put {F : Om} {m : List (List Int)} (h : AllRows F m) (q o : Nat) (hq : q < 32) (ho : o < 6) (hn : F.getD q none = none) : AllRows (F.set q (some (o : Int))) (m.set o (putS (q : Int) (m.getD o []))) := by
  have hql : q < F.length := by rw [h.len]; exact hq
  refine ⟨by rw [List.length_set]; exact h.len, by rw [List.length_set]; exact h.six, fun i hi => ?_⟩
  rw [getD_set _ _ _ _ _ (by rw [h.six]; exact ho)]
  by_cases e : i = o
  · subst e; rw [if_pos rfl]; exact (h.row i hi).put q hql
  · rw [if_neg e]
    exact (h.row i hi).other q hql _ (by rw [lkM_nat, hn]; simp) (by simp; omega)
theorem AllRows.pop {F : Om} {m : List (List Int)} (h : AllRows F m) (q o : Nat) (r : List Int) (ho : o < 6) (hr : m.getD o [] = (q : Int) :: r) : AllRows (F.set q none) (m.set o r) := by
  have hi0 := h.row o ho
  rw [hr] at hi0
  have hq := (hi0.mem q).1 (by simp)
  have hql := (lkM_some hq).2.1
  have hql : q < F.length := by omega
  refine ⟨by rw [List.length_set]; exact h.len, by rw [List.length_set]; exact h.six, fun i hi => ?_⟩
  rw [getD_set _ _ _ _ _ (by rw [h.six]; exact ho)]
  by_cases e : i = o
  · subst e; rw [if_pos rfl]; exact hi0.tail hql _ (by simp)
  · rw [if_neg e]
    exact (h.row i hi).other q hql _ (by rw [hq]; simp; omega) (by simp)
theorem AllRows.del {F : Om} {m : List (List Int)} (h : AllRows F m) (q o : Nat) (hq : q < 32) (ho : o < 6) (hv : F.getD q none = some (o : Int)) : AllRows (F.set q none) (m.set o ((m.getD o []).filter fun x => decide (x ≠ (q : Int)))) := by
  have hql : q < F.length := by rw [h.len]; exact hq
  refine ⟨by rw [List.length_set]; exact h.len, by rw [List.length_set]; exact h.six, fun i hi => ?_⟩
  rw [getD_set _ _ _ _ _ (by rw [h.six]; exact ho)]
  by_cases e : i = o
  · subst e; rw [if_pos rfl]; exact (h.row i hi).drop q hql _ (by simp)
  · rw [if_neg e]
    exact (h.row i hi).other q hql _ (by rw [lkM_nat, hv]; simp; omega) (by simp)

/-- The second halves that a halved room leaves, laid into a map that the room is not in. -/
def plG (a want : Nat) : Nat → Om → Om
  | 0, G => G
  | j + 1, G => plG a want j (G.set (a + 2 ^ (want + j)) (some ((want + j : Nat) : Int)))
/-- The same, laid into rows. -/
def plR (a want : Nat) : Nat → List (List Int) → List (List Int)
  | 0, m => m
  | j + 1, m => plR a want j (m.set (want + j) (putS ((a + 2 ^ (want + j) : Nat) : Int) (m.getD (want + j) [])))
theorem hlG_pl (a want : Nat) : ∀ (j : Nat) (G : Om), (hlG a want j G).set a none = plG a want j (G.set a none)
  | 0, G => rfl
  | j + 1, G => by
      simp only [hlG, plG]
      rw [hlG_pl a want j]
      congr 1
      have hne : a ≠ a + 2 ^ (want + j) := by have := Nat.one_le_two_pow (n := want + j); omega
      rw [List.set_comm _ _ hne.symm, List.set_set]
theorem plR_all (a want : Nat) : ∀ (j : Nat) (G : Om) (m : List (List Int)), AllRows G m → want + j ≤ 5 → a + 2 ^ (want + j) ≤ 32 → (∀ q, a < q → q < a + 2 ^ (want + j) → G.getD q none = none) → AllRows (plG a want j G) (plR a want j m)
  | 0, G, m, h, _, _, _ => h
  | j + 1, G, m, h, h5, hb, hf => by
      have e : 2 ^ (want + (j + 1)) = 2 ^ (want + j) * 2 := by rw [show want + (j + 1) = (want + j) + 1 from rfl, Nat.pow_succ]
      have p1 := Nat.one_le_two_pow (n := want + j)
      have hq : a + 2 ^ (want + j) < 32 := by omega
      refine plR_all a want j _ _ (h.put (a + 2 ^ (want + j)) (want + j) hq (by omega) (hf _ (by omega) (by omega))) (by omega) (by omega) (fun q h1 h2 => ?_)
      rw [getD_set _ _ _ _ _ (by rw [h.len]; exact hq), if_neg (by omega)]
      exact hf q h1 (by omega)

/-- The rooms that the map holds, in their places' order. -/
structure IsHeld (H : Om) (hs : List Hl) : Prop where
  len : H.length = 32
  rise : hs.Pairwise (fun x y => x.1 < y.1)
  mem : ∀ k o, (k, o) ∈ hs ↔ lkM H k = some o
theorem IsHeld.is {H : Om} {hs : List Hl} (h : IsHeld H hs) : heldK H (keysG H) = hs := by
  have hk : keysG H = hs.map Prod.fst := by
    refine rise_ext (selF_rise _ _) (List.pairwise_map.2 h.rise) (fun k => ?_)
    rw [keysG_mem, List.mem_map, Option.isSome_iff_exists]
    constructor
    · rintro ⟨o, ho⟩
      exact ⟨(k, o), (h.mem k o).2 ho, rfl⟩
    · rintro ⟨⟨k', o⟩, ho, rfl⟩
      exact ⟨o, (h.mem _ o).1 ho⟩
  unfold heldK
  rw [hk, List.map_map]
  refine (List.map_congr_left (g := id) (fun x hx => ?_)).trans (List.map_id hs)
  have := (h.mem x.1 x.2).1 hx
  show (x.1, (lkM H x.1).getD 0) = x
  rw [this]
  rfl
/-- A held room is laid at its place. -/
def putH (at_ : Int) (o : Int) (hs : List Hl) : List Hl := hs.filter (fun x => decide (x.1 < at_)) ++ (at_, o) :: hs.filter (fun x => decide (at_ < x.1))
theorem IsHeld.put {H : Om} {hs : List Hl} (h : IsHeld H hs) (q : Nat) (hq : q < 32) (o : Int) : IsHeld (H.set q (some o)) (putH (q : Int) o hs) := by
  refine ⟨by rw [List.length_set]; exact h.len, ?_, fun k o' => ?_⟩
  · unfold putH
    refine List.pairwise_append.2 ⟨h.rise.sublist List.filter_sublist, List.pairwise_cons.2 ⟨fun y hy => ?_, h.rise.sublist List.filter_sublist⟩, fun x hx y hy => ?_⟩
    · exact of_decide_eq_true (List.mem_filter.1 hy).2
    · have h1 := of_decide_eq_true (List.mem_filter.1 hx).2
      rcases List.mem_cons.1 hy with rfl | hy
      · exact h1
      · have h2 := of_decide_eq_true (List.mem_filter.1 hy).2
        omega
  · rw [lkM_set H q _ (by rw [h.len]; exact hq)]
    unfold putH
    rw [List.mem_append, List.mem_cons, List.mem_filter, List.mem_filter, decide_eq_true_eq, decide_eq_true_eq]
    by_cases e : k = (q : Int)
    · subst e
      rw [if_pos rfl]
      simp [eq_comm]
    · rw [if_neg e, ← h.mem]
      constructor
      · rintro (⟨h1, _⟩ | h1 | ⟨h1, _⟩)
        · exact h1
        · simp only [Prod.mk.injEq] at h1; exact absurd h1.1 e
        · exact h1
      · intro h1
        by_cases hl : k < (q : Int)
        · exact .inl ⟨h1, hl⟩
        · exact .inr (.inr ⟨h1, by simp only; omega⟩)
theorem IsHeld.del {H : Om} {hs : List Hl} (h : IsHeld H hs) (q : Nat) (hq : q < 32) : IsHeld (H.set q none) (hs.filter fun x => decide (x.1 ≠ (q : Int))) := by
  refine ⟨by rw [List.length_set]; exact h.len, h.rise.sublist List.filter_sublist, fun k o' => ?_⟩
  rw [lkM_set H q _ (by rw [h.len]; exact hq), List.mem_filter, decide_eq_true_eq, h.mem]
  by_cases e : k = (q : Int)
  · subst e; simp
  · rw [if_neg e]; exact ⟨fun x => x.1, fun x => ⟨x, e⟩⟩
end Go.Proofs.Ytjffjoednmlkiaa

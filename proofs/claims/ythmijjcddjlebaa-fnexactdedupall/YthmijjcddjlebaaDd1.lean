/-
  Texts whose chunks are kept once each: the mathematics, and rows that stay while others grow. No condition.
-/
import Derived.Test.YthmijjcddjlebaaNb1
import Derived.Test.YthmijjcddjlebaaRb6
import Derived.Test.YthmijjcddjlebaaChs
namespace Go.Proofs.Ythmijjcddjlebaa
open Go.RowKit
set_option linter.unusedVariables false

/-- One chunk more. -/
def stepU (p : List Int × List ByteArray) (t : ByteArray) : List Int × List ByteArray := (p.1 ++ [((ix9 p.2 t : Nat) : Int)], add9 p.2 t)
/-- The numbers of some chunks, and the book behind them. -/
def useF (C : List ByteArray) (ts : List ByteArray) : List Int × List ByteArray := ts.foldl stepU ([], C)
theorem useF_snoc (C : List ByteArray) (ts : List ByteArray) (j : Nat) (h : j < ts.length) : useF C (ts.take (j + 1)) = stepU (useF C (ts.take j)) (ts.getD j ⟨#[]⟩) := by
  unfold useF
  rw [List.take_succ_eq_append_getElem h, List.foldl_append, List.getD_eq_getElem?_getD, List.getElem?_eq_getElem h]
  rfl
theorem useF_zero (C : List ByteArray) (ts : List ByteArray) : useF C (ts.take 0) = ([], C) := rfl
theorem foldU_len (ts : List ByteArray) : ∀ p : List Int × List ByteArray, (ts.foldl stepU p).1.length = p.1.length + ts.length ∧ (ts.foldl stepU p).2.length ≤ p.2.length + ts.length := by
  induction ts with
  | nil => intro p; exact ⟨rfl, Nat.le_refl _⟩
  | cons t ts ih =>
    intro p
    obtain ⟨h1, h2⟩ := ih (stepU p t)
    have h3 : (stepU p t).1.length = p.1.length + 1 := by simp [stepU]
    have h4 : (stepU p t).2.length ≤ p.2.length + 1 := add9_len _ _
    rw [List.foldl_cons, List.length_cons]
    omega
theorem useF_len (C ts : List ByteArray) : (useF C ts).1.length = ts.length ∧ (useF C ts).2.length ≤ C.length + ts.length := by
  have := foldU_len ts ([], C)
  simpa [useF] using this
def stepD (p : List ByteArray × List (List Int)) (s : ByteArray) : List ByteArray × List (List Int) := ((useF p.1 (chunksT s)).2, p.2 ++ [(useF p.1 (chunksT s)).1])
/-- The recipe of some texts. -/
def dedF (xs : List ByteArray) : List ByteArray × List (List Int) := xs.foldl stepD ([], [])
theorem dedF_snoc (xs : List ByteArray) (k : Nat) (h : k < xs.length) : dedF (xs.take (k + 1)) = stepD (dedF (xs.take k)) (xs.getD k ⟨#[]⟩) := by
  unfold dedF
  rw [List.take_succ_eq_append_getElem h, List.foldl_append, List.getD_eq_getElem?_getD, List.getElem?_eq_getElem h]
  rfl
theorem dedF_len (xs : List ByteArray) (k : Nat) (hk : k ≤ xs.length) (h : ∀ i, i < xs.length → (xs.getD i ⟨#[]⟩).size ≤ 300) : (dedF (xs.take k)).2.length = k ∧ (dedF (xs.take k)).1.length ≤ 300 * k := by
  induction k with
  | zero => exact ⟨rfl, Nat.le_refl _⟩
  | succ k ih =>
    obtain ⟨h1, h2⟩ := ih (by omega)
    rw [dedF_snoc xs k (by omega)]
    unfold stepD
    have h3 := useF_len (dedF (xs.take k)).1 (chunksT (xs.getD k ⟨#[]⟩))
    have h4 := chunksT_length (xs.getD k ⟨#[]⟩)
    have h5 := h k (by omega)
    simp only [List.length_append, List.length_cons, List.length_nil]
    omega

/-- Rows that stay where others grow. -/
theorem ownsRow_touch {S : Nat → Prop} {base k : Nat} {e : TypeId} {v : Value} {xs : List Value} {w w' : World} (h : w.ownsRow base e 1 v k xs) (ht : Touch S w w') (hs : ∀ g, v.ownBlock = some g → ¬ S g) : w'.ownsRow base e 1 v k xs := by
  refine ⟨h.1, ?_⟩
  rcases h.2 with hn | ⟨g, cap, cur, rfl, hb, hg, rest⟩
  · exact .inl hn
  · exact .inr ⟨g, cap, cur, rfl, hb, (ht.same g (Array.getElem?_eq_some_iff.1 hg).1 (hs g rfl)).trans hg, rest⟩
theorem row_block {base k : Nat} {e : TypeId} {v : Value} {xs : List Value} {w : World} (h : w.ownsRow base e 1 v k xs) {g : Nat} (hg : v.ownBlock = some g) : base ≤ g ∧ g < w.heap.size ∧ ∃ cur, w.heap[g]? = some (.cells cur e (0, 0)) := by
  rcases h.2 with ⟨rfl, _⟩ | ⟨g', cap, cur, rfl, hb, hgb, _⟩
  · simp [Value.ownBlock] at hg
  · obtain rfl : g' = g := by simpa [Value.ownBlock] using hg
    exact ⟨hb, (Array.getElem?_eq_some_iff.1 hgb).1, cur, hgb⟩
theorem rows_unlike {base base' k k' : Nat} {e e' : TypeId} {v v' : Value} {xs xs' : List Value} {w : World} (h : w.ownsRow base e 1 v k xs) (h' : w.ownsRow base' e' 1 v' k' xs') (hne : e ≠ e') {g g' : Nat} (hg : v.ownBlock = some g) (hg' : v'.ownBlock = some g') : g ≠ g' := by
  obtain ⟨_, _, c, hc⟩ := row_block h hg
  obtain ⟨_, _, c', hc'⟩ := row_block h' hg'
  intro e1
  subst e1
  rw [hc] at hc'
  simp at hc'
  exact hne hc'.2
theorem row_box2 {base k B : Nat} {e t : TypeId} {v a b : Value} {xs : List Value} {w : World} (h : w.ownsRow base e 1 v k xs) (hB : Boxed2 w B t a b) (hne : e ≠ t) {g : Nat} (hg : v.ownBlock = some g) : g ≠ B := by
  obtain ⟨_, _, c, hc⟩ := row_block h hg
  intro e1
  subst e1
  rw [show w.heap[g]? = _ from hB] at hc
  simp at hc
  exact hne hc.2.symm
/-- The rows of a list of rows that was built up. -/
structure Grid (w : World) (base : Nat) (v : Value) (vs : List Value) (U : List (List Int)) : Prop where
  len : vs.length = U.length
  head : w.ownsRow base 41 1 v U.length vs
  rows : ∀ i, i < U.length → Own w base (vs.getD i (.slice none 0 0)) (U.getD i [])
theorem grid_nil (w : World) (base : Nat) : Grid w base (.slice none 0 0) [] [] := ⟨rfl, World.ownsRow_nil _ _ _ _, fun i hi => by simp at hi⟩
theorem Grid.rd {w : World} {base : Nat} {v : Value} {vs : List Value} {U : List (List Int)} (h : Grid w base v vs U) : RdM w v U := by
  rcases h.head.2 with ⟨rfl, hn⟩ | ⟨g, cap, cur, rfl, hb, hg, hc, hm, hs, ht⟩
  · have : U = [] := List.eq_nil_of_length_eq_zero hn
    subst this
    exact ⟨none, 0, rfl, Nat.le_refl _, ⟨Nat.zero_le _, fun _ => rfl⟩, .inl rfl⟩
  · refine ⟨_, cap, rfl, hc, ⟨hm, fun h => by cases h⟩, .inr ⟨g, 0, rfl, (Array.getElem?_eq_some_iff.1 hg).1, fun i hi => ⟨vs.getD i (.slice none 0 0), ?_, (h.rows i hi).rd⟩⟩⟩
    have hl := h.len
    rw [Nat.zero_add, World.ownsRow.cellAt h.head i (by omega), List.getD_eq_getElem?_getD, List.getElem?_eq_getElem (by omega)]
    rfl
theorem Grid.touch {S : Nat → Prop} {w w' : World} {base : Nat} {v : Value} {vs : List Value} {U : List (List Int)} (h : Grid w base v vs U) (ht : Touch S w w') (h0 : ∀ g, v.ownBlock = some g → ¬ S g) (h1 : ∀ i g, i < U.length → (vs.getD i (.slice none 0 0)).ownBlock = some g → ¬ S g) : Grid w' base v vs U :=
  ⟨h.len, ownsRow_touch h.head ht h0, fun i hi => ownsRow_touch (h.rows i hi) ht (fun g hg => h1 i g hi hg)⟩
end Go.Proofs.Ythmijjcddjlebaa

/-
  A recipe copied by the laws, call by call. Each says what it asks.
-/
import Derived.Test.YthmijjcddjlebaaRb5
namespace Go.Proofs.Ythmijjcddjlebaa
open Go.RowKit
set_option linter.unusedVariables false

/-- From B on nothing that was there is written. -/
def From9 (B : Nat) (w w' : World) : Prop := w.heap.size ≤ w'.heap.size ∧ ∀ k, B ≤ k → k < w.heap.size → w'.heap[k]? = w.heap[k]?
theorem From9.trans {B : Nat} {a b c : World} (h : From9 B a b) (k : From9 B b c) : From9 B a c := ⟨Nat.le_trans h.1 k.1, fun i hi hl => (k.2 i hi (Nat.lt_of_lt_of_le hl h.1)).trans (h.2 i hi hl)⟩
theorem From9.below {B : Nat} {a b : World} (h : Below a.heap.size a b) : From9 B a b := ⟨h.size, fun k _ hl => h.block k hl⟩
theorem From9.setCell {B : Nat} (w : World) (g i : Nat) (v : Value) (hg : g < B) : From9 B w (w.setCell ⟨g, i, none⟩ v) := ⟨by simp [World.setCell], fun k hk _ => Below.heap_setCell w _ v k (by show k ≠ g; omega)⟩
theorem ownsRow_from {B base n size : Nat} {e : TypeId} {v : Value} {xs : List Value} {w w' : World} (h : w.ownsRow base e size v n xs) (hf : From9 B w w') (hb : B ≤ base) : w'.ownsRow base e size v n xs := by
  refine ⟨h.1, ?_⟩
  rcases h.2 with hn | ⟨g, cap, cur, rfl, hb', hg, rest⟩
  · exact .inl hn
  · exact .inr ⟨g, cap, cur, rfl, hb', (hf.2 g (by omega) (Array.getElem?_eq_some_iff.1 hg).1).trans hg, rest⟩
theorem mat_from {B lo hi : Nat} {v : Value} {m : List (List Int)} {w w' : World} (h : Mat w lo hi v m) (hf : From9 B w w') (hb : B ≤ lo) : Mat w' lo hi v m := by
  obtain ⟨vs, hv⟩ := h
  exact ⟨vs, hv.len, ownsRow_from hv.head hf hb, fun i hi => ownsRow_from (hv.row i hi) hf hb, hv.top, hv.tops, hv.apart⟩
theorem boxed2_set0 {W : World} {B : Nat} {t : TypeId} {v u : Value} (h : Boxed2 W B t v u) (x : Value) : Boxed2 (W.setCell ⟨B, 0, none⟩ x) B t x u := by
  obtain ⟨hlt, hk⟩ := Array.getElem?_eq_some_iff.1 h
  show (W.heap.modify B _)[B]? = _
  rw [Array.getElem?_eq_getElem (by rw [Array.size_modify]; exact hlt), Array.getElem_modify_self, hk]
  rfl
theorem boxed2_set1 {W : World} {B : Nat} {t : TypeId} {v u : Value} (h : Boxed2 W B t v u) (x : Value) : Boxed2 (W.setCell ⟨B, 1, none⟩ x) B t v x := by
  obtain ⟨hlt, hk⟩ := Array.getElem?_eq_some_iff.1 h
  show (W.heap.modify B _)[B]? = _
  rw [Array.getElem?_eq_getElem (by rw [Array.size_modify]; exact hlt), Array.getElem_modify_self, hk]
  rfl
theorem boxed2_far {W : World} {B g i : Nat} {t : TypeId} {v u x : Value} (h : Boxed2 W B t v u) (hne : B ≠ g) : Boxed2 (W.setCell ⟨g, i, none⟩ x) B t v u := (Below.heap_setCell W ⟨g, i, none⟩ x B hne).trans h
theorem boxed2_below {W W' : World} {B : Nat} {t : TypeId} {v u : Value} (h : Boxed2 W B t v u) (hb : Below W.heap.size W W') : Boxed2 W' B t v u := (hb.block B (Array.getElem?_eq_some_iff.1 h).1).trans h
theorem Boxed2.f0 {W : World} {B : Nat} {t : TypeId} {v u : Value} (h : Boxed2 W B t v u) (i : Nat) : W.frozen? ⟨B, i, none⟩ = false := frozen_of_row W B i _ _ h
theorem rcpInfo : (Try.prog.info? 27).map (·.size) = some 2 := by kernel_rfl
theorem res_rcp {fn : Func} {x : Tmp} (hf : fn.results = #[.cell x 27]) (tmps : Array Value) (w : World) (g : Nat) (p h : Value) (fr : Nat × Nat) (hp : tmps.getD x undef = .pointer (some ⟨g, 0, none⟩))
    (hg : w.heap[g]? = some (.cells #[p, h] 27 fr)) : (results fn tmps).run Try.prog w = .ok (.agg #[p, h]) w :=
  results_cell_row hf tmps w g _ _ fr _ hp hg Try.underlying27 rfl rcpInfo

end Go.Proofs.Ythmijjcddjlebaa

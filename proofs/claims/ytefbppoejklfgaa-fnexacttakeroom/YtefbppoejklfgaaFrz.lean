/-
  A row of bytes that was made, written byte by byte and by copies; two bytes of a number, four of a sum: the program's functions call by call. Each contract says what it asks.
-/
import Derived.Test.YtefbppoejklfgaaFrg
namespace Go.Proofs.Ytefbppoejklfgaa
open Go.RowKit

def u8v (b : Nat) : Value := .int .u8 (b : Int)
/-- Block g is a row of just these bytes. -/
def ZRow (w : World) (g : Nat) (l : List Nat) : Prop := w.heap[g]? = some (.cells (l.map u8v).toArray 5 (0, 0))
theorem ZRow.lt {w : World} {g : Nat} {l : List Nat} (h : ZRow w g l) : g < w.heap.size := (Array.getElem?_eq_some_iff.1 h).1
theorem ZRow.cell {w : World} {g : Nat} {l : List Nat} (h : ZRow w g l) (i : Nat) (hi : i < l.length) : w.cell? ⟨g, i, none⟩ = some (.int .u8 (l.getD i 0 : Nat)) := by
  rw [cell_of_row w g i _ _ _ h, List.getElem?_toArray, List.getElem?_map, List.getD_eq_getElem?_getD, List.getElem?_eq_getElem hi]
  rfl
theorem ZRow.frozen {w : World} {g : Nat} {l : List Nat} (h : ZRow w g l) (i : Nat) : w.frozen? ⟨g, i, none⟩ = false := frozen_of_row w g i _ _ h
theorem ZRow.set {w : World} {g : Nat} {l : List Nat} (h : ZRow w g l) (i v : Nat) : ZRow (w.setCell ⟨g, i, none⟩ (.int .u8 (v : Nat))) g (l.set i v) := by
  have := heap_setCell_same w g i _ _ (Value.int .u8 (v : Nat)) h
  unfold ZRow
  rw [this, List.map_set]
  congr 2
  simp [u8v]
theorem ZRow.drew {w : World} {g : Nat} {l : List Nat} (h : ZRow w g l) : ZRow w.drew g l := h
theorem ZRow.kept {w w' : World} {g : Nat} {l : List Nat} (h : ZRow w g l) (hb : Below w.heap.size w w') : ZRow w' g l := by
  have hl := h.lt
  unfold ZRow at h ⊢
  rw [hb.block g hl]
  exact h
theorem zrow_made {w : World} {base g n : Nat} (h : w.ownsRow base 5 1 (.slice (some ⟨g, 0, none⟩) n n) n (List.replicate n (.int .u8 0))) : ZRow w g (List.replicate n 0) := by
  rcases h.2 with ⟨h', _⟩ | ⟨g', cap', cur, h', _, hg, _, _, hs, ht⟩
  · simp at h'
  · simp at h'
    obtain ⟨rfl, rfl⟩ := h'
    unfold ZRow
    rw [hg]
    congr 2
    have e : cur.toList = List.replicate n (.int .u8 0) := by
      rw [← ht, List.take_of_length_le]
      rw [Array.length_toList]
      omega
    apply Array.ext'
    rw [e]
    simp [u8v]
/-- Bytes stored one behind the other. -/
theorem store_z (g o : Nat) : ∀ (vs : List Nat) (i : Nat) (l : List Nat) (w : World), ZRow w g l → o + i + vs.length ≤ l.length →
    ∃ w', (storeCells ⟨g, o, none⟩ (vs.map fun b : Nat => Value.int .u8 (b : Int)) i).run Try.prog w = .ok () w' ∧ ZRow w' g (l.take (o + i) ++ vs ++ l.drop (o + i + vs.length)) ∧ w.grownBy w' (some g)
  | [], i, l, w, h, _ => ⟨w, rfl, by simpa using h, World.grownBy.refl _ _⟩
  | v :: rest, i, l, w, h, hl => by
    have hi : o + i < l.length := by simp at hl; omega
    have hadd : (⟨g, o, none⟩ : Addr).add i = ⟨g, o + i, none⟩ := by unfold Addr.add; split <;> simp_all
    have hst : (store ((⟨g, o, none⟩ : Addr).add i) (Value.int .u8 (v : Int))).run Try.prog w = .ok () (w.setCell ⟨g, o + i, none⟩ (.int .u8 (v : Int))) := by
      rw [hadd, run_store Try.prog w _ _ _ rfl, h.cell (o + i) hi]
      simp [h.frozen (o + i)]
    obtain ⟨w', e1, e2, e3⟩ := store_z g o rest (i + 1) (l.set (o + i) v) (w.setCell ⟨g, o + i, none⟩ (.int .u8 (v : Int))) (h.set (o + i) v) (by rw [List.length_set]; simp at hl; omega)
    refine ⟨w', ?_, ?_, grown_trans (BRow.grownBy_set g (o + i) _) e3⟩
    · simp only [List.map_cons, storeCells, Sem.run_bind, hst, Result.andThen_ok, e1]
    · have e := seg_step l (o + i) v rest (by simp at hl; omega)
      rw [show o + (i + 1) = o + i + 1 by omega, e] at e2
      simpa using e2
/-- The first k of a sum's bytes, and noughts. -/
def lowTo (n k : Nat) : List Nat := (low4 n).take k ++ List.replicate (4 - k) 0
theorem lowTo_step (n k : Nat) (h : k < 4) : (lowTo n k).set k (n / 256 ^ k % 256) = lowTo n (k + 1) := by
  have : k = 0 ∨ k = 1 ∨ k = 2 ∨ k = 3 := by omega
  rcases this with rfl | rfl | rfl | rfl <;> simp [lowTo, low4]
theorem lowTo_length (n k : Nat) (h : k ≤ 4) : (lowTo n k).length = 4 := by
  unfold lowTo
  rw [List.length_append, List.length_take, List.length_replicate, low4_length]
  omega

end Go.Proofs.Ytefbppoejklfgaa

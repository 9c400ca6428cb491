/-
  A frame's bytes: the program's function, call by call. No condition but a bound on the body's length.
-/
import Derived.Test.YtefbppoejklfgaaFrz
namespace Go.Proofs.Ytefbppoejklfgaa
open Go.RowKit

theorem box_cell0 {w w1 : World} {cs : Array Value} {T : TypeId} (h : Below (w.alloc (.cells cs T)).heap.size (w.alloc (.cells cs T)) w1) (i : Nat) : w1.cell? ⟨w.heap.size, i, none⟩ = cs[i]? := by
  rw [h.cell (p := ⟨w.heap.size, i, none⟩) (by simp), cell_of_row _ w.heap.size i cs T (0, 0) (heap_alloc_new w _)]
theorem below_grown {w w' w'' : World} {B g : Nat} (h : Below B w w') (hB : B ≤ w'.heap.size) (k : w'.grownBy w'' (some g)) (hg : B ≤ g) : Below B w w'' :=
  h.grown k hB (fun j hj => by cases hj; exact hg)
theorem row4 (k a e n : Nat) : ((((((List.replicate 28 0).set 0 k).set 1 (a / 256)).set 2 (a % 256)).set 3 (e / 256)).set 4 (e % 256)).set 5 n = [k, a / 256, a % 256, e / 256, e % 256, n] ++ List.replicate 22 0 := rfl
theorem row5 (k a e : Nat) (b : List Nat) (h : b.length ≤ 16) :
    ([k, a / 256, a % 256, e / 256, e % 256, b.length] ++ List.replicate 22 0).take 6 ++ b ++ ([k, a / 256, a % 256, e / 256, e % 256, b.length] ++ List.replicate 22 0).drop (6 + b.length) = headB k a e b ++ List.replicate 4 0 := by
  have e1 : ([k, a / 256, a % 256, e / 256, e % 256, b.length] ++ List.replicate 22 0).take 6 = [k, a / 256, a % 256, e / 256, e % 256, b.length] := rfl
  have e2 : ([k, a / 256, a % 256, e / 256, e % 256, b.length] ++ List.replicate 22 0).drop (6 + b.length) = List.replicate (22 - b.length) 0 := by
    rw [← List.drop_drop]
    show (List.replicate 22 0).drop b.length = _
    rw [List.drop_replicate]
  rw [e1, e2]
  unfold headB
  rw [List.append_assoc, List.append_assoc, List.append_assoc, List.replicate_append_replicate]
  congr 4
  omega
theorem row6 (k a e : Nat) (b : List Nat) (h : b.length ≤ 16) :
    (headB k a e b ++ List.replicate 4 0).take 24 = headB k a e b ∧ (headB k a e b ++ List.replicate 4 0).take 24 ++ low4 (Crc.on 0 (headB k a e b)) ++ (headB k a e b ++ List.replicate 4 0).drop 28 = frB k a e b := by
  have hl := headB_length (K := k) (A := a) (E := e) h
  have e1 : (headB k a e b ++ List.replicate 4 0).take 24 = headB k a e b := by rw [← hl, List.take_left]
  refine ⟨e1, ?_⟩
  have e2 : (headB k a e b ++ List.replicate 4 0).drop 28 = [] := by
    apply List.drop_of_length_le
    rw [List.length_append, hl, List.length_replicate]
    omega
  rw [e1, e2, List.append_nil]
  rfl

end Go.Proofs.Ytefbppoejklfgaa

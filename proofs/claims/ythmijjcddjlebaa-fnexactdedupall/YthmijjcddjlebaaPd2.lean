/-
  Texts whose chunks are kept once each, by the program, call by call. It says what it asks.
-/
import Derived.Test.YthmijjcddjlebaaPd1
import Derived.Test.YthmijjcddjlebaaRb1
namespace Go.Proofs.Ythmijjcddjlebaa
open Go.RowKit Go.Shelf
set_option linter.unusedVariables false
attribute [local go_sem] Oper.semAt_some

def mark9 (r : Nat) : Deferred := { target := .collected r, args := #[] }
/-- What leaving finds behind the marks of loops that deferred nothing. -/
structure Marked (rs : List Nat) (W W' : World) : Prop where
  os : W'.os = W.os
  tape : W'.tape = W.tape
  output : W'.output = W.output
  size : W.heap.size ≤ W'.heap.size
  same : ∀ k, k ∉ rs → W'.heap[k]? = W.heap[k]?
theorem leaves_marks {F : Fence} {n : Nat} {P : Program} {fn : Func} {tmps : Array Value} {R : Ending → World → Prop} : ∀ (rs : List Nat) (W : World), rs.Nodup → (∀ r ∈ rs, W.heap[r]? = some (.deferred (some []))) →
    (∀ W', Marked rs W W' → LeavesIn F n P fn tmps R [] .returning W') → LeavesInM F n P fn tmps R (rs.map mark9) .returning W
  | [], W, _, _, h => h W ⟨rfl, rfl, rfl, Nat.le_refl _, fun _ _ => rfl⟩
  | r :: rs, W, hd, hr, h => by
    refine ⟨by simp, .inl ⟨r, _, rfl, run_takeDeferred (hr r List.mem_cons_self), ?_⟩⟩
    have hn := List.nodup_cons.1 hd
    refine leaves_marks rs _ hn.2 (fun r' h' => (World.putObj_heap_other (fun e => hn.1 (by rw [← e]; exact h'))).trans (hr r' (List.mem_cons_of_mem _ h'))) (fun W' hm => h W' ?_)
    refine ⟨hm.os, hm.tape, hm.output, by have := hm.size; simp at this; exact this, fun k hk => ?_⟩
    exact (hm.same k (fun e => hk (List.mem_cons_of_mem _ e))).trans (World.putObj_heap_other (fun e => hk (by rw [e]; exact List.mem_cons_self)))
end Go.Proofs.Ythmijjcddjlebaa

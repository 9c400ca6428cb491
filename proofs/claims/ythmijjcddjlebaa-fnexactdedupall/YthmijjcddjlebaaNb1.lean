/-
  Chunks numbered as they first come: the mathematics of a book of chunks, and what a world that was touched at a few blocks keeps. No condition.
-/
import Derived.Test.YthmijjcddjlebaaRb1
import Derived.Test.YthmijjcddjlebaaCbx
namespace Go.Proofs.Ythmijjcddjlebaa
open Go.RowKit
set_option linter.unusedVariables false

/-- The number of a text among others (how many there are, where it is none of them). -/
def ix9 (C : List ByteArray) (t : ByteArray) : Nat := C.findIdx (fun x => decide (x = t))
def add9 (C : List ByteArray) (t : ByteArray) : List ByteArray := if ix9 C t < C.length then C else C ++ [t]
theorem ix9_le (C : List ByteArray) (t : ByteArray) : ix9 C t ≤ C.length := List.findIdx_le_length
theorem ix9_mem (C : List ByteArray) (t : ByteArray) : ix9 C t < C.length ↔ t ∈ C := by
  unfold ix9
  rw [List.findIdx_lt_length]
  constructor
  · rintro ⟨x, hx, e⟩; rw [← of_decide_eq_true e]; exact hx
  · intro h; exact ⟨t, h, by simp⟩
theorem ix9_new {C : List ByteArray} {t : ByteArray} (h : ¬ t ∈ C) : ix9 C t = C.length := by
  have : ¬ ix9 C t < C.length := fun h' => h ((ix9_mem C t).1 h')
  have := ix9_le C t
  omega
theorem ix9_snoc_old {C : List ByteArray} {t u : ByteArray} (h : u ∈ C) : ix9 (C ++ [t]) u = ix9 C u := by
  have := (ix9_mem C u).2 h
  unfold ix9 at this ⊢
  rw [List.findIdx_append, if_pos this]
theorem ix9_snoc_new {C : List ByteArray} {t : ByteArray} (h : ¬ t ∈ C) : ix9 (C ++ [t]) t = C.length := by
  have h0 := ix9_new h
  unfold ix9 at h0 ⊢
  rw [List.findIdx_append, if_neg (by omega)]
  simp [List.findIdx_cons]
theorem add9_old {C : List ByteArray} {t : ByteArray} (h : t ∈ C) : add9 C t = C := if_pos ((ix9_mem C t).2 h)
theorem add9_new {C : List ByteArray} {t : ByteArray} (h : ¬ t ∈ C) : add9 C t = C ++ [t] := if_neg (fun h' => h ((ix9_mem C t).1 h'))
theorem add9_len (C : List ByteArray) (t : ByteArray) : (add9 C t).length ≤ C.length + 1 := by unfold add9; split <;> simp

/-- What the book's map says. -/
structure BookD (C : List ByteArray) (D : DataW Unit) : Prop where
  tidy : Maps.Tidy D
  has : ∀ t, Maps.has D (klit t) = true ↔ t ∈ C
  at_ : ∀ t, t ∈ C → ∀ z, D.atKey (klit t) z = .lit (.int .i64 (ix9 C t : Nat))
theorem bookD_nil : BookD [] (.map []) := ⟨Maps.tidy_empty, fun t => ⟨fun h => by simp [Maps.has] at h, fun h => by cases h⟩, fun t h => by cases h⟩
theorem BookD.snoc {C : List ByteArray} {D : DataW Unit} (h : BookD C D) {t : ByteArray} (ht : ¬ t ∈ C) : BookD (C ++ [t]) (D.put (klit t) (.lit (.int .i64 (C.length : Nat)))) := by
  refine ⟨h.tidy.put (klit_key _) _, fun u => ?_, fun u hu z => ?_⟩
  · by_cases e : u = t
    · subst e
      rw [Maps.has_put_same h.tidy.isMap (klit_key _)]
      simp
    · rw [Maps.has_put_other (fun e' => e (klit_inj e')), h.has]
      simp [e]
  · by_cases e : u = t
    · subst e
      rw [Maps.atKey_put_same h.tidy.isMap (klit_key _), ix9_snoc_new ht]
    · have hu' : u ∈ C := by
        rcases List.mem_append.1 hu with h' | h'
        · exact h'
        · simp at h'; exact absurd h' e
      rw [Maps.atKey_put_other (fun e' => e (klit_inj e')), h.at_ u hu' z, ix9_snoc_old hu']

/-- Of what was there only the blocks of S are written. -/
structure Touch (S : Nat → Prop) (w w' : World) : Prop where
  os : w'.os = w.os
  tape : w'.tape = w.tape
  output : w'.output = w.output
  size : w.heap.size ≤ w'.heap.size
  same : ∀ k, k < w.heap.size → ¬ S k → w'.heap[k]? = w.heap[k]?
theorem Touch.refl (S : Nat → Prop) (w : World) : Touch S w w := ⟨rfl, rfl, rfl, Nat.le_refl _, fun _ _ _ => rfl⟩
theorem Touch.trans {S : Nat → Prop} {a b c : World} (h : Touch S a b) (k : Touch S b c) : Touch S a c :=
  ⟨k.os.trans h.os, k.tape.trans h.tape, k.output.trans h.output, Nat.le_trans h.size k.size, fun i hi hs => (k.same i (Nat.lt_of_lt_of_le hi h.size) hs).trans (h.same i hi hs)⟩
theorem Touch.of_below {S : Nat → Prop} {a b : World} (h : Below a.heap.size a b) : Touch S a b := ⟨h.os, h.tape, h.output, h.size, fun k hk _ => h.block k hk⟩
theorem Touch.grown {S : Nat → Prop} {a b : World} {row : Option Nat} (h : a.grownBy b row) (hr : ∀ k, row = some k → S k) : Touch S a b :=
  ⟨h.os, h.tape, h.output, h.size, fun k hk hs => h.block k hk (fun e => hs (hr k e.symm))⟩
theorem Touch.setCell {S : Nat → Prop} (w : World) (g i : Nat) (v : Value) (h : S g) : Touch S w (w.setCell ⟨g, i, none⟩ v) :=
  ⟨rfl, rfl, rfl, by simp [World.setCell], fun k _ hs => Below.heap_setCell w _ v k (fun e => hs (by subst e; exact h))⟩
theorem Touch.mono {S S' : Nat → Prop} {a b : World} (h : Touch S a b) (hs : ∀ k, k < a.heap.size → S k → S' k) : Touch S' a b := ⟨h.os, h.tape, h.output, h.size, fun k hk hn => h.same k hk (fun e => hn (hs k hk e))⟩
/-- Two steps, where the second's blocks that were there ahead are the first's. -/
theorem Touch.trans' {S S' : Nat → Prop} {a b c : World} (h : Touch S a b) (k : Touch S' b c) (hs : ∀ i, i < a.heap.size → S' i → S i) : Touch S a c :=
  ⟨k.os.trans h.os, k.tape.trans h.tape, k.output.trans h.output, Nat.le_trans h.size k.size, fun i hi hn => (k.same i (Nat.lt_of_lt_of_le hi h.size) (fun e => hn (hs i hi e))).trans (h.same i hi hn)⟩

/-- A map's store within a region, by how it runs. -/
theorem wpIn_mapUpdate_eq {n : Nat} {P : Program} {o : Oper} {a : Act} {w w' : World} {K : Act → World → Prop} {Q : Exit → Act → World → Prop} {m x v : Operand} {t : TypeId} {mv xv vv : Value}
    (hop : o.op = .mapUpdate t m x v) (hm : a.eval m = mv) (hx : a.eval x = xv) (hv : a.eval v = vv) (hrun : (Instr.mapUpdate t mv xv vv).run P w = .ok () w') (h : K (a.put o.dst undef) w') : o.wpIn Fence.wide n P a w K Q := by
  unfold Oper.wpIn
  refine ⟨by simp [Oper.about, hop], ?_⟩
  rw [Oper.semAt_plain Fence.wide _ _ (by rw [hop]; intro c hc'; cases hc')]
  simp [execOp, hop, hm, hx, hv, hrun, Result.andThen]
  exact h
end Go.Proofs.Ythmijjcddjlebaa

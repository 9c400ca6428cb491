/-
  Texts whose chunks are kept once each, by the program: what is held in the rounds. No condition. Texts whose chunks are kept once each, by the program, call by call. It says what it asks.
-/
import Derived.Test.YthmijjcddjlebaaDedupB12
import Derived.Test.YthmijjcddjlebaaDedupB16
import Derived.Test.YthmijjcddjlebaaDedupB6
namespace Go.Proofs.Ythmijjcddjlebaa
open Go.RowKit
set_option linter.unusedVariables false

/-- The result in block H, the map in H + 1, the book in H + 2, the rows in H + 3, their variable in H + 4; lo .. c1: the blocks of the iterator at work. -/
structure PIn (w W : World) (lo c1 m : Nat) (v : Value) (D : DataW Unit) (vs : List Value) (C : List ByteArray) (U : List (List Int)) : Prop where
  res : Boxed2 W w.heap.size 27 (.slice none 0 0) (.slice none 0 0)
  book : Book W (w.heap.size + 2) (w.heap.size + 1) w.heap.size m v C D
  useb : Boxed W (w.heap.size + 4) 25 (.slice (some ⟨w.heap.size + 3, 0, none⟩) vs.length vs.length)
  rowb : W.heap[w.heap.size + 3]? = some (.cells vs.toArray 41 (0, 0))
  len : vs.length = U.length
  rows : ∀ i, i < U.length → Own W w.heap.size (vs.getD i (.slice none 0 0)) (U.getD i [])
  apart : ∀ i j g, i < U.length → j < U.length → (vs.getD i (.slice none 0 0)).ownBlock = some g → (vs.getD j (.slice none 0 0)).ownBlock = some g → i = j
  vloc : ∀ g, v.ownBlock = some g → g < lo ∨ c1 ≤ g
  rloc : ∀ i g, i < U.length → (vs.getD i (.slice none 0 0)).ownBlock = some g → g < lo ∨ c1 ≤ g
  below : Below w.heap.size w W
  lo5 : w.heap.size + 5 ≤ lo

theorem ownsRow_same {base k : Nat} {e : TypeId} {v : Value} {xs : List Value} {w w' : World} (h : w.ownsRow base e 1 v k xs) (hs : ∀ g o, v.ownBlock = some g → w.heap[g]? = some o → o.isCells = true → w'.heap[g]? = some o) : w'.ownsRow base e 1 v k xs := by
  refine ⟨h.1, ?_⟩
  rcases h.2 with hn | ⟨g, cap, cur, rfl, hb, hg, rest⟩
  · exact .inl hn
  · exact .inr ⟨g, cap, cur, rfl, hb, hs g _ rfl hg rfl, rest⟩
theorem PIn.same {w W W' : World} {lo c1 m : Nat} {v : Value} {D : DataW Unit} {vs : List Value} {C : List ByteArray} {U : List (List Int)} (h : PIn w W lo c1 m v D vs C U) (hb : Below w.heap.size w W')
    (hk : ∀ k o, W.heap[k]? = some o → (k < lo ∨ (o.isCells = true ∧ c1 ≤ k)) → W'.heap[k]? = some o) : PIn w W' lo c1 m v D vs C U := by
  have l5 := h.lo5
  have R : ∀ {e : TypeId} {u : Value} {n : Nat} {xs : List Value}, W.ownsRow w.heap.size e 1 u n xs → (∀ g, u.ownBlock = some g → g < lo ∨ c1 ≤ g) → W'.ownsRow w.heap.size e 1 u n xs :=
    fun ho hl => ownsRow_same ho (fun g o hg he hc => hk g o he ((hl g hg).imp_right fun h => ⟨hc, h⟩))
  refine ⟨hk _ _ h.res (.inl (by omega)), ⟨hk _ _ h.book.box (.inl (by omega)), R h.book.row h.vloc, ?_, h.book.says, h.book.apart⟩, hk _ _ h.useb (.inl (by omega)), hk _ _ h.rowb (.inl (by omega)), h.len, fun i hi => R (h.rows i hi) (fun g hg => h.rloc i g hi hg), h.apart, h.vloc, h.rloc, hb, h.lo5⟩
  obtain ⟨es, ck, hM, rest⟩ := h.book.map
  exact ⟨es, ck, hk _ _ hM (.inl (by omega)), rest⟩
theorem PIn.spar {w W W' : World} {lo c1 m : Nat} {v : Value} {D : DataW Unit} {vs : List Value} {C : List ByteArray} {U : List (List Int)} {c0 : Nat} (h : PIn w W lo c1 m v D vs C U) (hs : Spar lo c0 c1 W W') : PIn w W' lo c1 m v D vs C U :=
  h.same (hs.below h.below (by have := h.lo5; omega) (Nat.le_refl _)) (fun k o hk ho => hs.same k o hk (ho.imp_right fun h => ⟨h.1, .inr h.2⟩))
theorem PIn.drew {w W : World} {lo c1 m : Nat} {v : Value} {D : DataW Unit} {vs : List Value} {C : List ByteArray} {U : List (List Int)} (h : PIn w W lo c1 m v D vs C U) : PIn w W.drew lo c1 m v D vs C U := h.same h.below.drew (fun k o hk _ => hk)
/-- Blocks beyond the iterator's at work may be the next one's room: another range begins. -/
theorem PIn.next {w W : World} {lo c1 lo' c1' m : Nat} {v : Value} {D : DataW Unit} {vs : List Value} {C : List ByteArray} {U : List (List Int)} (h : PIn w W lo c1 m v D vs C U) (hl : W.heap.size ≤ lo') (h5 : w.heap.size + 5 ≤ lo') : PIn w W lo' c1' m v D vs C U :=
  ⟨h.res, h.book, h.useb, h.rowb, h.len, h.rows, h.apart, fun g hg => .inl (by have := (row_block h.book.row hg).2.1; omega), fun i g hi hg => .inl (by have := (row_block (h.rows i hi) hg).2.1; omega), h.below, h5⟩
/-- What a block of a row is not. -/
theorem PIn.rowFar {w W : World} {lo c1 m : Nat} {v : Value} {D : DataW Unit} {vs : List Value} {C : List ByteArray} {U : List (List Int)} (h : PIn w W lo c1 m v D vs C U) {i g : Nat} (hi : i < U.length) (hg : (vs.getD i (.slice none 0 0)).ownBlock = some g) :
    g ≠ w.heap.size ∧ g ≠ w.heap.size + 1 ∧ g ≠ w.heap.size + 2 ∧ g ≠ w.heap.size + 3 ∧ g ≠ w.heap.size + 4 := by
  obtain ⟨_, _, cur, hc⟩ := row_block (h.rows i hi) hg
  have no : ∀ k o, W.heap[k]? = some o → o ≠ .cells cur 3 (0, 0) → g ≠ k := by
    intro k o hk hne e
    subst e
    rw [hk] at hc
    exact hne (Option.some.inj hc)
  refine ⟨no _ _ h.res (by simp), ?_, no _ _ h.book.box (by simp), no _ _ h.rowb (by simp), no _ _ h.useb (by simp)⟩
  obtain ⟨es, ck, hM, _⟩ := h.book.map
  exact no _ _ hM (by simp)
/-- One number asked of the book. -/
theorem PIn.num {w W w1 : World} {lo c1 m m' : Nat} {v v' : Value} {D D' : DataW Unit} {vs : List Value} {C C' : List ByteArray} {U : List (List Int)} (h : PIn w W lo c1 m v D vs C U)
    (hb : Book w1 (w.heap.size + 2) (w.heap.size + 1) w.heap.size m' v' C' D') (hv : v'.ownBlock = v.ownBlock ∨ ∃ g, v'.ownBlock = some g ∧ W.heap.size ≤ g) (ht : Touch (fun k => k = w.heap.size + 2 ∨ k = w.heap.size + 1 ∨ v.ownBlock = some k) W w1) (hc : c1 ≤ W.heap.size) :
    PIn w w1 lo c1 m' v' D' vs C' U := by
  have cb : ∀ g, v.ownBlock = some g → w.heap.size ≤ g := fun g e => (row_block h.book.row e).1
  have fx : ∀ k o, W.heap[k]? = some o → (∀ cur, o ≠ .cells cur 9 (0, 0)) → k ≠ w.heap.size + 2 → k ≠ w.heap.size + 1 → w1.heap[k]? = some o := by
    intro k o hk hn h2 h1
    refine (ht.same k (Array.getElem?_eq_some_iff.1 hk).1 (fun e => ?_)).trans hk
    rcases e with e | e | e
    · exact h2 e
    · exact h1 e
    · obtain ⟨_, _, cur, hc⟩ := row_block h.book.row e
      rw [hk] at hc
      exact hn cur (Option.some.inj hc)
  refine ⟨fx _ _ h.res (fun _ => by simp) (by omega) (by omega), hb, fx _ _ h.useb (fun _ => by simp) (by omega) (by omega), fx _ _ h.rowb (fun _ => by simp) (by omega) (by omega), h.len, fun i hi => ?_, h.apart, fun g hg => ?_, h.rloc, ?_, h.lo5⟩
  · have hf := fun g => h.rowFar (g := g) hi
    exact ownsRow_touch (h.rows i hi) ht (fun g hg e => by
      rcases e with e | e | e
      · exact (hf g hg).2.2.1 e
      · exact (hf g hg).2.1 e
      · exact rows_unlike h.book.row (h.rows i hi) (by decide) e hg rfl)
  · rcases hv with e | ⟨g', e, hg'⟩
    · exact h.vloc g (e.symm.trans hg)
    · rw [e] at hg; cases hg; exact .inr (by omega)
  · exact Touch.below9 h.below ht (fun k hk e => by rcases e with e | e | e; omega; omega; have := cb k e; omega) (Nat.le_refl _)
theorem set_row9 {W : World} {B k : Nat} {t : TypeId} {vs : List Value} (h : W.heap[B]? = some (.cells vs.toArray t (0, 0))) (v : Value) : (W.setCell ⟨B, k, none⟩ v).heap[B]? = some (.cells (vs.set k v).toArray t (0, 0)) := by
  obtain ⟨hlt, hk⟩ := Array.getElem?_eq_some_iff.1 h
  show (W.heap.modify B _)[B]? = _
  rw [Array.getElem?_eq_getElem (by rw [Array.size_modify]; exact hlt), Array.getElem_modify_self, hk]
  simp
theorem getD_set9 {α : Type} (l : List α) (k i : Nat) (x d : α) (hk : k < l.length) : (l.set k x).getD i d = if i = k then x else l.getD i d := by
  rw [List.getD_eq_getElem?_getD, List.getD_eq_getElem?_getD]
  by_cases e : i = k
  · subst e
    rw [List.getElem?_set_self hk, if_pos rfl]
    rfl
  · rw [List.getElem?_set_ne (fun h => e h.symm), if_neg e]
/-- One number put behind a row. -/
theorem PIn.put {w W w2 : World} {lo c1 m k : Nat} {v v' : Value} {D : DataW Unit} {vs : List Value} {C : List ByteArray} {U : List (List Int)} {x : Int} {tmp : Obj} (h : PIn w W lo c1 m v D vs C U) (hk : k < U.length)
    (ho : w2.ownsRow w.heap.size 3 1 v' ((U.getD k []).length + 1) ((U.getD k []).map (Value.int .i64) ++ [.int .i64 x])) (hg : (W.alloc tmp).grownBy w2 (vs.getD k (.slice none 0 0)).ownBlock)
    (hat : v'.ownBlock = (vs.getD k (.slice none 0 0)).ownBlock ∨ v'.ownBlock = some (W.heap.size + 1)) (hc : c1 ≤ W.heap.size) :
    w2.heap[w.heap.size + 3]? = some (.cells vs.toArray 41 (0, 0)) ∧ Boxed w2 (w.heap.size + 4) 25 (.slice (some ⟨w.heap.size + 3, 0, none⟩) vs.length vs.length) ∧ PIn w (w2.setCell ⟨w.heap.size + 3, k, none⟩ v') lo c1 m v D (vs.set k v') C (U.set k (U.getD k [] ++ [x])) := by
  have l5 := h.lo5
  have hl := h.len
  have T1 : Touch (fun g => (vs.getD k (.slice none 0 0)).ownBlock = some g) W w2 := (Touch.of_below ((Below.refl _ W).alloc (Nat.le_refl _) tmp)).trans (Touch.grown hg (fun g e => e))
  have T : Touch (fun g => g = w.heap.size + 3 ∨ (vs.getD k (.slice none 0 0)).ownBlock = some g) W (w2.setCell ⟨w.heap.size + 3, k, none⟩ v') := (T1.mono (fun _ _ e => .inr e)).trans (Touch.setCell _ _ _ _ (.inl rfl))
  have far := fun g => h.rowFar (g := g) hk
  have r2 : w2.heap[w.heap.size + 3]? = some (.cells vs.toArray 41 (0, 0)) := (T1.same _ (Array.getElem?_eq_some_iff.1 h.rowb).1 (fun e => (far _ e).2.2.2.1 rfl)).trans h.rowb
  have u2 : Boxed w2 (w.heap.size + 4) 25 (.slice (some ⟨w.heap.size + 3, 0, none⟩) vs.length vs.length) := (T1.same _ (Array.getElem?_eq_some_iff.1 h.useb).1 (fun e => (far _ e).2.2.2.2 rfl)).trans h.useb
  have fx : ∀ g o, W.heap[g]? = some o → g ≠ w.heap.size + 3 → (vs.getD k (.slice none 0 0)).ownBlock ≠ some g → (w2.setCell ⟨w.heap.size + 3, k, none⟩ v').heap[g]? = some o :=
    fun g o hg' h3 hn => (T.same g (Array.getElem?_eq_some_iff.1 hg').1 (fun e => e.elim h3 hn)).trans hg'
  have new : ∀ g, v'.ownBlock = some g → (vs.getD k (.slice none 0 0)).ownBlock = some g ∨ g = W.heap.size + 1 := by
    intro g e
    rcases hat with h' | h'
    · exact .inl (h'.symm.trans e)
    · rw [h'] at e; cases e; exact .inr rfl
  have size3 := (Array.getElem?_eq_some_iff.1 h.rowb).1
  refine ⟨r2, u2, fx _ _ h.res (by omega) (fun e => (far _ e).1 rfl), ⟨fx _ _ h.book.box (by omega) (fun e => (far _ e).2.2.1 rfl), ?_, ?_, h.book.says, h.book.apart⟩, ?_, set_row9 r2 v', by simp [hl], fun i hi => ?_, fun i j g hi hj ei ej => ?_, h.vloc, fun i g hi e => ?_,
    Touch.below9 h.below T (fun g hg' e => by rcases e with e | e; omega; have := (row_block (h.rows k hk) e).1; omega) (Nat.le_refl _), h.lo5⟩
  · refine ownsRow_touch h.book.row T (fun g hg' e => ?_)
    rcases e with e | e
    · obtain ⟨_, _, cur, hcu⟩ := row_block h.book.row hg'
      rw [e, h.rowb] at hcu
      simp at hcu
    · exact rows_unlike h.book.row (h.rows k hk) (by decide) hg' e rfl
  · obtain ⟨es, ck, hM, rest⟩ := h.book.map
    exact ⟨es, ck, fx _ _ hM (by omega) (fun e => (far _ e).2.1 rfl), rest⟩
  · rw [List.length_set]
    exact fx _ _ h.useb (by omega) (fun e => (far _ e).2.2.2.2 rfl)
  · rw [List.length_set] at hi
    rw [getD_set9 vs k i _ _ (by omega), getD_set9 U k i _ _ hk]
    by_cases e : i = k
    · rw [if_pos e, if_pos e]
      show World.ownsRow _ _ _ _ _ (U.getD k [] ++ [x]).length _
      rw [List.length_append, List.map_append]
      refine ho.kept (grownBy_setAt9 w2 (w.heap.size + 3) k v') ?_
      by_cases h0 : v'.ownBlock = none
      · exact .inl h0
      · refine .inr fun e' => ?_
        rcases new _ e' with h1 | h1
        · exact (far _ h1).2.2.2.1 rfl
        · omega
    · rw [if_neg e, if_neg e]
      refine ownsRow_touch (h.rows i hi) T (fun g hg' e' => ?_)
      rcases e' with e' | e'
      · exact (h.rowFar hi hg').2.2.2.1 e'
      · exact e (h.apart i k g hi hk hg' e')
  · rw [List.length_set] at hi hj
    rw [getD_set9 vs k i _ _ (by omega)] at ei
    rw [getD_set9 vs k j _ _ (by omega)] at ej
    by_cases e : i = k <;> by_cases e' : j = k
    · omega
    · rw [if_pos e] at ei
      rw [if_neg e'] at ej
      rcases new _ ei with h1 | h1
      · exact absurd (h.apart j k g hj hk ej h1) e'
      · have := (row_block (h.rows j hj) ej).2.1; omega
    · rw [if_neg e] at ei
      rw [if_pos e'] at ej
      rcases new _ ej with h1 | h1
      · exact absurd (h.apart i k g hi hk ei h1) e
      · have := (row_block (h.rows i hi) ei).2.1; omega
    · rw [if_neg e] at ei
      rw [if_neg e'] at ej
      exact h.apart i j g hi hj ei ej
  · rw [List.length_set] at hi
    rw [getD_set9 vs k i _ _ (by omega)] at e
    by_cases ek : i = k
    · rw [if_pos ek] at e
      rcases new _ e with h1 | h1
      · exact h.rloc k g hk h1
      · exact .inr (by omega)
    · rw [if_neg ek] at e
      exact h.rloc i g hi e
/-- What the iterator at work keeps of such steps. -/
theorem PIn.keepNum {w W w1 : World} {lo c1 m c0 : Nat} {v : Value} {D : DataW Unit} {vs : List Value} {C : List ByteArray} {U : List (List Int)} (h : PIn w W lo c1 m v D vs C U) (ht : Touch (fun k => k = w.heap.size + 2 ∨ k = w.heap.size + 1 ∨ v.ownBlock = some k) W w1) : Keep lo c0 c1 W w1 := by
  have l5 := h.lo5
  refine ⟨ht.size, fun k o hl hk ho => (ht.same k (Array.getElem?_eq_some_iff.1 hk).1 (fun e => ?_)).trans hk⟩
  rcases e with e | e | e
  · omega
  · omega
  · obtain ⟨_, _, cur, hc⟩ := row_block h.book.row e
    rw [hk] at hc
    have := Option.some.inj hc
    subst this
    rcases ho with ho | ho
    · cases ho
    · have := h.vloc k e; omega
theorem PIn.keepPut {w W w2 : World} {lo c1 m k c0 : Nat} {v v' : Value} {D : DataW Unit} {vs : List Value} {C : List ByteArray} {U : List (List Int)} {tmp : Obj} (h : PIn w W lo c1 m v D vs C U) (hk : k < U.length) (hg : (W.alloc tmp).grownBy w2 (vs.getD k (.slice none 0 0)).ownBlock) :
    Keep lo c0 c1 W (w2.setCell ⟨w.heap.size + 3, k, none⟩ v') := by
  have l5 := h.lo5
  refine (Keep.alloc _ _ _ W tmp).trans ((Keep.of_grownBy hg fun j o ej hj => ?_).trans (Keep.setCell _ (.inl (by show w.heap.size + 3 < lo; omega))))
  obtain ⟨_, hlt, cur, hc⟩ := row_block (h.rows k hk) ej
  rw [Below.heap_alloc W tmp j hlt, hc] at hj
  cases hj
  rcases h.rloc k j hk ej with h' | h'
  · exact .inl h'
  · exact .inr ⟨rfl, .inr h'⟩
end Go.Proofs.Ythmijjcddjlebaa

namespace Go.Proofs.Ythmijjcddjlebaa
open Go.RowKit Go.Shelf
set_option linter.unusedVariables false
attribute [local go_sem] Oper.semAt_some

def mark9 (r : Nat) : Deferred := { target := .collected r, args := #[] }
/-- What leaving finds behind the marks of loops that deferred nothing. -/
structure Marked (rs : List Nat) (W W' : World) : Prop where
  os : W'.os = W.os
  tape : W'.tape = W.tape
  output : W'.output = W.output
  size : W.heap.size ≤ W'.heap.size
  same : ∀ k, k ∉ rs → W'.heap[k]? = W.heap[k]?
theorem leaves_marks {F : Fence} {n : Nat} {P : Program} {fn : Func} {tmps : Array Value} {R : Ending → World → Prop} : ∀ (rs : List Nat) (W : World), rs.Nodup → (∀ r ∈ rs, W.heap[r]? = some (.deferred (some []))) →
    (∀ W', Marked rs W W' → LeavesIn F n P fn tmps R [] .returning W') → LeavesInM F n P fn tmps R (rs.map mark9) .returning W
  | [], W, _, _, h => h W ⟨rfl, rfl, rfl, Nat.le_refl _, fun _ _ => rfl⟩
  | r :: rs, W, hd, hr, h => by
    refine ⟨by simp, .inl ⟨r, _, rfl, run_takeDeferred (hr r List.mem_cons_self), ?_⟩⟩
    have hn := List.nodup_cons.1 hd
    refine leaves_marks rs _ hn.2 (fun r' h' => (World.putObj_heap_other (fun e => hn.1 (by rw [← e]; exact h'))).trans (hr r' (List.mem_cons_of_mem _ h'))) (fun W' hm => h W' ?_)
    refine ⟨hm.os, hm.tape, hm.output, by have := hm.size; simp at this; exact this, fun k hk => ?_⟩
    exact (hm.same k (fun e => hk (List.mem_cons_of_mem _ e))).trans (World.putObj_heap_other (fun e => hk (by rw [e]; exact List.mem_cons_self)))
end Go.Proofs.Ythmijjcddjlebaa

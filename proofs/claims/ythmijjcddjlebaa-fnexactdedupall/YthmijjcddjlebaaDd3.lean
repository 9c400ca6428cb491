/-
  Texts whose chunks are kept once each, by the model: the whole call. It says what it asks.
-/
import Derived.Test.YthmijjcddjlebaaDd2
import Derived.Test.YthmijjcddjlebaaRb4
namespace Go.Proofs.Ythmijjcddjlebaa
open Go.RowKit
set_option linter.unusedVariables false

structure Outr (w wr : World) (vc vu : Value) (vs : List Value) (C : List ByteArray) (U : List (List Int)) : Prop where
  box : Boxed2 wr (w.heap.size + 1) 27 vc vu
  res : Boxed2 wr w.heap.size 27 (.slice none 0 0) (.slice none 0 0)
  row : wr.ownsRow w.heap.size 9 1 vc C.length (C.map Value.string)
  grid : Grid wr w.heap.size vu vs U
  below : Below w.heap.size w wr
  lo : w.heap.size + 2 ≤ wr.heap.size
theorem Outr.inn {w wr w1 : World} {vc vu vch : Value} {vs : List Value} {C : List ByteArray} {U : List (List Int)} {ts : List ByteArray} (h : Outr w wr vc vu vs C U) (hb : Below wr.heap.size wr w1) (ho : OwnT w1 wr.heap.size vch ts) :
    Inn w w1 wr.heap.size w1.heap.size vc vu (.slice none 0 0) vch vs C U [] ts := by
  have T : Touch (fun _ => False) wr w1 := Touch.of_below hb
  exact ⟨boxed2_below h.box hb, boxed2_below h.res hb, ownsRow_touch h.row T (fun _ _ e => e), fun g e => .inl (row_block h.row e).2.1, World.ownsRow_nil _ _ _ _, h.grid.touch T (fun _ _ e => e) (fun _ _ _ _ e => e), fun g e => (row_block h.grid.head e).2.1, fun i g hi e => (row_block (h.grid.rows i hi) e).2.1,
    ho, fun g e => (row_block ho e).2.1, h.below.trans (hb.mono h.below.size), hb.size, Nat.le_refl _, h.lo⟩
theorem Inn.out {w wr w1 : World} {hA hB : Nat} {vc vu vu' u vch : Value} {vs : List Value} {C : List ByteArray} {U : List (List Int)} {us : List Int} {ts : List ByteArray} {tmp : Obj} (h : Inn w wr hA hB vc vu u vch vs C U us ts)
    (ho : w1.ownsRow w.heap.size 41 1 vu' (U.length + 1) (vs ++ [u])) (hg : (wr.alloc tmp).grownBy w1 vu.ownBlock) :
    Boxed2 w1 (w.heap.size + 1) 27 vc vu ∧ Outr w (w1.setCell ⟨w.heap.size + 1, 1, none⟩ vu') vc vu' (vs ++ [u]) C (U ++ [us]) := by
  have T1 : Touch (fun k => vu.ownBlock = some k) wr w1 := (Touch.of_below ((Below.refl _ wr).alloc (Nat.le_refl _) tmp)).trans (Touch.grown hg (fun k e => e))
  have cb : ∀ g, vu.ownBlock = some g → w.heap.size ≤ g := fun g e => (row_block h.grid.head e).1
  have cB : ∀ g, vu.ownBlock = some g → g ≠ w.heap.size + 1 := fun g e => row_box2 h.grid.head h.box (by decide) e
  have cR : ∀ g, vu.ownBlock = some g → g ≠ w.heap.size := fun g e => row_box2 h.grid.head h.res (by decide) e
  have x1 : Boxed2 w1 (w.heap.size + 1) 27 vc vu := boxed2_touch h.box T1 (fun e => cB _ e rfl)
  have T : Touch (fun k => k = w.heap.size + 1 ∨ vu.ownBlock = some k) wr (w1.setCell ⟨w.heap.size + 1, 1, none⟩ vu') := (T1.mono (fun k _ e => .inr e)).trans (Touch.setCell _ _ _ _ (.inl rfl))
  have ab := h.ab
  have lo := h.lo
  have sz := h.sz
  have hl := h.grid.len
  refine ⟨x1, boxed2_set1 x1 vu', boxed2_touch h.res T (fun e => by rcases e with e | e; omega; exact cR _ e rfl), ownsRow_touch h.row T (fun g hg' e => ?_), ⟨by simp [hl], ?_, fun i hi => ?_⟩,
    Touch.below9 h.below T (fun k hk e => by rcases e with e | e; omega; have := cb k e; omega) (Nat.le_refl _), by have := T.size; omega⟩
  · rcases e with e | e
    · exact row_box2 h.row h.box (by decide) hg' e
    · exact rows_unlike h.row h.grid.head (by decide) hg' e rfl
  · rw [List.length_append]
    exact ho.kept (grownBy_setAt9 w1 (w.heap.size + 1) 1 vu') (by
      by_cases h0 : vu'.ownBlock = none
      · exact .inl h0
      · exact .inr fun e' => row_box2 ho x1 (by decide) e' rfl)
  · rw [List.length_append] at hi
    by_cases hi' : i < U.length
    · have e1 : (vs ++ [u]).getD i (.slice none 0 0) = vs.getD i (.slice none 0 0) := by rw [List.getD_eq_getElem?_getD, List.getElem?_append_left (by omega), ← List.getD_eq_getElem?_getD]
      have e2 : (U ++ [us]).getD i [] = U.getD i [] := by rw [List.getD_eq_getElem?_getD, List.getElem?_append_left hi', ← List.getD_eq_getElem?_getD]
      rw [e1, e2]
      refine ownsRow_touch (h.grid.rows i hi') T (fun g hg' e => ?_)
      rcases e with e | e
      · exact row_box2 (h.grid.rows i hi') h.box (by decide) hg' e
      · exact rows_unlike (h.grid.rows i hi') h.grid.head (by decide) hg' e rfl
    · have hi2 : i = U.length := by simp at hi; omega
      subst hi2
      have e1 : (vs ++ [u]).getD U.length (.slice none 0 0) = u := by rw [List.getD_eq_getElem?_getD, ← hl, List.getElem?_append_right (Nat.le_refl _), Nat.sub_self]; rfl
      have e2 : (U ++ [us]).getD U.length [] = us := by rw [List.getD_eq_getElem?_getD, List.getElem?_append_right (Nat.le_refl _), Nat.sub_self]; rfl
      rw [e1, e2]
      refine Own.mono (base := hB) ?_ (by omega)
      refine ownsRow_touch h.use T (fun g hg' e => ?_)
      rcases e with e | e
      · have := (row_block h.use hg').1; omega
      · exact rows_unlike h.use h.grid.head (by decide) hg' e rfl
theorem infoRows9 : (Try.prog.info? 41).map (fun i => (i.zero, i.size, i.bytes)) = some (some (.slice none 0 0), 1, 24) := by kernel_rfl
def dedR (xs : List ByteArray) : List ByteArray × List (List Int) × Bool := if dedOk xs then ((dedF xs).1, (dedF xs).2, true) else ([], [], false)
theorem res_rcp2 {fn : Func} {x u : Tmp} (hf : fn.results = #[.cell x 27, .tmp u]) (tmps : Array Value) (w : World) (g : Nat) (p h : Value) (fr : Nat × Nat) (hp : tmps.getD x undef = .pointer (some ⟨g, 0, none⟩))
    (hg : w.heap[g]? = some (.cells #[p, h] 27 fr)) : (results fn tmps).run Try.prog w = .ok (.tuple #[.agg #[p, h], tmps.getD u undef]) w := by
  have hp' : tmps[x]?.getD undef = .pointer (some ⟨g, 0, none⟩) := by simpa using hp
  simp [results, hf, hp', asAddr, run_loadVar_row w g _ _ _ fr _ hg Try.underlying27 rfl rcpInfo]
theorem chunksT_sizes (s : ByteArray) : ∀ t ∈ chunksT s, t.size ≤ s.size := by
  intro t ht
  unfold chunksT at ht
  obtain ⟨p, hp, rfl⟩ := List.mem_map.1 ht
  rw [ByteArray.size_extract]
  omega
theorem add9_all {P : ByteArray → Prop} {C : List ByteArray} {t : ByteArray} (h : ∀ u ∈ C, P u) (ht : P t) : ∀ u ∈ add9 C t, P u := by
  intro u hu
  by_cases hm : t ∈ C
  · rw [add9_old hm] at hu; exact h u hu
  · rw [add9_new hm] at hu
    rcases List.mem_append.1 hu with h1 | h1
    · exact h u h1
    · rw [List.mem_singleton.1 h1]; exact ht
theorem foldU_all {P : ByteArray → Prop} (ts : List ByteArray) (ht : ∀ t ∈ ts, P t) : ∀ p : List Int × List ByteArray, (∀ u ∈ p.2, P u) → ∀ u ∈ (ts.foldl stepU p).2, P u := by
  induction ts with
  | nil => intro p h; exact h
  | cons t ts ih =>
    intro p h
    rw [List.foldl_cons]
    exact ih (fun u hu => ht u (List.mem_cons_of_mem _ hu)) _ (add9_all h (ht t List.mem_cons_self))
theorem useF_all {P : ByteArray → Prop} {C ts : List ByteArray} (h : ∀ u ∈ C, P u) (ht : ∀ t ∈ ts, P t) : ∀ u ∈ (useF C ts).2, P u := foldU_all ts ht ([], C) h
theorem dedF_all (xs : List ByteArray) (k : Nat) (hk : k ≤ xs.length) (h : ∀ i, i < xs.length → (xs.getD i ⟨#[]⟩).size ≤ 300) : ∀ u ∈ (dedF (xs.take k)).1, u.size ≤ 300 := by
  induction k with
  | zero => intro u hu; cases hu
  | succ k ih =>
    rw [dedF_snoc xs k (by omega)]
    exact useF_all (ih (by omega)) (fun t ht => Nat.le_trans (chunksT_sizes _ t ht) (h k (by omega)))
theorem isAt_ix {C : List ByteArray} {t : ByteArray} {r : Int} (h : IsAt C t r) : (t ∈ C ∧ r = ((ix9 C t : Nat) : Int)) ∨ (¬ t ∈ C ∧ r = -1) := by
  rcases h with ⟨i, hi, he, hn, rfl⟩ | ⟨hn, rfl⟩
  · have hm : t ∈ C := by
      rw [← he, List.getD_eq_getElem?_getD, List.getElem?_eq_getElem hi]
      exact List.getElem_mem hi
    refine .inl ⟨hm, ?_⟩
    congr 1
    symm
    unfold ix9
    rw [List.findIdx_eq hi]
    rw [List.getD_eq_getElem?_getD, List.getElem?_eq_getElem hi] at he
    refine ⟨by simpa using he, fun j hj => ?_⟩
    have := hn j hj
    rw [List.getD_eq_getElem?_getD, List.getElem?_eq_getElem (by omega)] at this
    simpa using this
  · refine .inr ⟨fun hm => ?_, rfl⟩
    obtain ⟨i, hi, he⟩ := List.getElem_of_mem hm
    exact hn i hi (by rw [List.getD_eq_getElem?_getD, List.getElem?_eq_getElem hi]; exact he)
theorem row_slice9 {w : World} {lo n : Nat} {e : TypeId} {v : Value} {xs : List Value} (h : w.ownsRow lo e 1 v n xs) : ∃ a cap, v = .slice a n cap := by
  rcases h.2 with ⟨rfl, rfl⟩ | ⟨g, cap, cur, rfl, _⟩
  · exact ⟨none, 0, rfl⟩
  · exact ⟨_, cap, rfl⟩
end Go.Proofs.Ythmijjcddjlebaa

/-
  Texts whose chunks are kept once each, by the model, call by call. Each says what it asks. Texts whose chunks are kept once each, by the model: the whole call. It says what it asks. Texts whose chunks are kept once each, by the model: the whole call. It says what it asks.
-/
import Derived.Test.YthmijjcddjlebaaDedupB11
import Derived.Test.YthmijjcddjlebaaDedupB7
namespace Go.Proofs.Ythmijjcddjlebaa
open Go.RowKit
set_option linter.unusedVariables false

abbrev dedOk (xs : List ByteArray) : Prop := xs.length ≤ 8 ∧ ∀ i, i < xs.length → (xs.getD i ⟨#[]⟩).size ≤ 300
set_option maxRecDepth 100000 in
set_option maxHeartbeats 400000 in
theorem l9Texts_calls (v : Value) (xs : List ByteArray) (w : World) (h : RdT w v xs) :
    Calls Try.prog 65 #[v] w fun e w' => e = .returned (.bool (decide (dedOk xs))) ∧ w = w' := by
  obtain ⟨a, cap, rfl, h1, h2, h4, h3⟩ := h
  have hm : xs.length ≤ maxLen := by omega
  unfold maxLen at hm
  have H3 := hide h3
  have H4 := hide h4
  clear h3 h4 h2 h1
  generalize hy : decide (dedOk xs) = y
  have HY := hide hy
  clear hy
  go_enter Try.func65, Try.ntmps65
  go_wp2
  go_loop [7] (fun vi => ∃ k : Nat, k ≤ xs.length ∧ vi = .int .i64 k ∧ ∀ i, i < k → (xs.getD i ⟨#[]⟩).size ≤ 300) (fun vi => xs.length - (intOf vi).toNat)
  case atStart => exact ⟨0, Nat.zero_le _, rfl, fun i hi => by omega⟩
  case round =>
    obtain ⟨k, hk, rfl, hall⟩ := hrel
    have HA := hide hall
    clear hall
    by_cases hlt : k < xs.length
    · rcases H3.out with h3 | ⟨b, off, rfl, hbs, hc⟩
      · subst h3; simp at hlt
      have hc1 := hc k hlt
      have hz : (xs.getD k ⟨#[]⟩).size ≤ maxLen := by
        apply H4.out
        rw [List.getD_eq_getElem?_getD, List.getElem?_eq_getElem hlt]
        exact List.getElem_mem hlt
      unfold maxLen at hz
      clear hc
      obtain ⟨z, hzz⟩ : ∃ z, z = xs.getD k ⟨#[]⟩ := ⟨_, rfl⟩
      rw [← hzz] at hc1 hz
      have HZ := hide hzz
      have hlt' : (k : Int) < (xs.length : Int) := by omega
      clear hzz
      by_cases h3 : z.size ≤ 300
      · have u : ¬ (300 : Int) < (z.size : Int) := by omega
        have HZ3 := hide h3
        go_wp2
        go_round
        case rel =>
          refine ⟨k + 1, by omega, by go_num, fun i hi => ?_⟩
          by_cases e : i = k
          · subst e; rw [← HZ.out]; exact HZ3.out
          · exact HA.out i (by omega)
        case measure => simp [intOf]; omega
      · have u : (300 : Int) < (z.size : Int) := by omega
        have ER : Hid (y = false) := by show _ = _; rw [← HY.out]; exact decide_eq_false (fun h => h3 (by rw [HZ.out]; exact h.2 k hlt))
        go_wp2
        go_ret
        exact ⟨ret_bool ER.out.symm, rfl⟩
    · obtain rfl : k = xs.length := by omega
      have ER : Hid (y = decide ((xs.length : Int) ≤ 8)) := by show _ = _; rw [← HY.out]; exact decide_eq_decide.2 ⟨fun h => by have := h.1; omega, fun h => ⟨by omega, HA.out⟩⟩
      go_wp2
      go_ret
      exact ⟨ret_bool ER.out.symm, rfl⟩

/-- What is held within the chunks of one text. -/
structure Inn (w wr : World) (hA hB : Nat) (vc vu u vch : Value) (vs : List Value) (C : List ByteArray) (U : List (List Int)) (us : List Int) (ts : List ByteArray) : Prop where
  box : Boxed2 wr (w.heap.size + 1) 27 vc vu
  res : Boxed2 wr w.heap.size 27 (.slice none 0 0) (.slice none 0 0)
  row : wr.ownsRow w.heap.size 9 1 vc C.length (C.map Value.string)
  loc : ∀ g, vc.ownBlock = some g → g < hA ∨ hB ≤ g
  use : Own wr hB u us
  grid : Grid wr w.heap.size vu vs U
  gtop : ∀ g, vu.ownBlock = some g → g < hA
  rtop : ∀ i g, i < U.length → (vs.getD i (.slice none 0 0)).ownBlock = some g → g < hA
  chs : OwnT wr hA vch ts
  ctop : ∀ g, vch.ownBlock = some g → g < hB
  below : Below w.heap.size w wr
  ab : hA ≤ hB
  sz : hB ≤ wr.heap.size
  lo : w.heap.size + 2 ≤ hA

theorem boxed2_touch {S : Nat → Prop} {W W' : World} {B : Nat} {t : TypeId} {v u : Value} (h : Boxed2 W B t v u) (ht : Touch S W W') (hs : ¬ S B) : Boxed2 W' B t v u := (ht.same B (Array.getElem?_eq_some_iff.1 h).1 hs).trans h
theorem Touch.below9 {S : Nat → Prop} {B : Nat} {w a b : World} (h : Below B w a) (ht : Touch S a b) (hs : ∀ k, k < B → ¬ S k) (hB : B ≤ w.heap.size) : Below B w b :=
  ⟨ht.os.trans h.os, ht.tape.trans h.tape, ht.output.trans h.output, Nat.le_trans h.size ht.size, fun k hk => (ht.same k (Nat.lt_of_lt_of_le (Nat.lt_of_lt_of_le hk hB) h.size) (hs k hk)).trans (h.block k hk)⟩

theorem grownBy_setAt9 (W : World) (b i : Nat) (v : Value) : W.grownBy (W.setCell ⟨b, i, none⟩ v) (some b) :=
  ⟨rfl, rfl, rfl, (KeepsWalks.setCell W _ v).size, fun k _ hk => Below.heap_setCell _ _ _ k (fun e => hk (by rw [e]))⟩

/-- One number more in the use. -/
theorem Inn.more {w wr w1 : World} {hA hB : Nat} {vc vu u u' vch : Value} {vs : List Value} {C : List ByteArray} {U : List (List Int)} {us : List Int} {ts : List ByteArray} {x : Int} {tmp : Obj} (h : Inn w wr hA hB vc vu u vch vs C U us ts)
    (ho : w1.ownsRow hB 3 1 u' (us.length + 1) (us.map (Value.int .i64) ++ [.int .i64 x])) (hg : (wr.alloc tmp).grownBy w1 u.ownBlock) : Inn w w1 hA hB vc vu u' vch vs C U (us ++ [x]) ts := by
  have T : Touch (fun k => u.ownBlock = some k) wr w1 := (Touch.of_below ((Below.refl _ wr).alloc (Nat.le_refl _) tmp)).trans (Touch.grown hg (fun k e => e))
  have ub : ∀ g, u.ownBlock = some g → hB ≤ g := fun g e => (row_block h.use e).1
  have ab := h.ab
  have lo := h.lo
  refine ⟨boxed2_touch h.box T (fun e => by have := ub _ e; omega), boxed2_touch h.res T (fun e => by have := ub _ e; omega), ownsRow_touch h.row T (fun g hg' e => rows_unlike h.row h.use (by decide) hg' e rfl), h.loc, ?_,
    h.grid.touch T (fun g hg' e => by have := h.gtop g hg'; have := ub g e; omega) (fun i g hi hg' e => by have := h.rtop i g hi hg'; have := ub g e; omega), h.gtop, h.rtop, ownsRow_touch h.chs T (fun g hg' e => rows_unlike h.chs h.use (by decide) hg' e rfl), h.ctop,
    Touch.below9 h.below T (fun k hk e => by have := ub k e; omega) (Nat.le_refl _), h.ab, Nat.le_trans h.sz T.size, h.lo⟩
  show World.ownsRow _ _ _ _ _ (us ++ [x]).length _
  rw [List.length_append, List.map_append]
  exact ho
/-- One chunk more in the book. -/
theorem Inn.chunk {w wr w1 : World} {hA hB : Nat} {vc vc' vu u vch : Value} {vs : List Value} {C : List ByteArray} {U : List (List Int)} {us : List Int} {ts : List ByteArray} {t : ByteArray} {tmp : Obj} (h : Inn w wr hA hB vc vu u vch vs C U us ts)
    (ho : w1.ownsRow w.heap.size 9 1 vc' (C.length + 1) (C.map Value.string ++ [.string t])) (hg : (wr.alloc tmp).grownBy w1 vc.ownBlock) (ha : vc'.ownBlock = vc.ownBlock ∨ vc'.ownBlock = some (wr.heap.size + 1)) :
    Boxed2 w1 (w.heap.size + 1) 27 vc vu ∧ Inn w (w1.setCell ⟨w.heap.size + 1, 0, none⟩ vc') hA hB vc' vu u vch vs (C ++ [t]) U us ts := by
  have T1 : Touch (fun k => vc.ownBlock = some k) wr w1 := (Touch.of_below ((Below.refl _ wr).alloc (Nat.le_refl _) tmp)).trans (Touch.grown hg (fun k e => e))
  have cb : ∀ g, vc.ownBlock = some g → w.heap.size ≤ g := fun g e => (row_block h.row e).1
  have cB : ∀ g, vc.ownBlock = some g → g ≠ w.heap.size + 1 := fun g e => row_box2 h.row h.box (by decide) e
  have cR : ∀ g, vc.ownBlock = some g → g ≠ w.heap.size := fun g e => row_box2 h.row h.res (by decide) e
  have x1 : Boxed2 w1 (w.heap.size + 1) 27 vc vu := boxed2_touch h.box T1 (fun e => cB _ e rfl)
  have T : Touch (fun k => k = w.heap.size + 1 ∨ vc.ownBlock = some k) wr (w1.setCell ⟨w.heap.size + 1, 0, none⟩ vc') := (T1.mono (fun k _ e => .inr e)).trans (Touch.setCell _ _ _ _ (.inl rfl))
  have ab := h.ab
  have lo := h.lo
  have sz := h.sz
  have hBlt := (Array.getElem?_eq_some_iff.1 h.box).1
  have cB' : ∀ g, vc'.ownBlock = some g → g ≠ w.heap.size + 1 := by
    intro g e
    rcases ha with h' | h'
    · exact cB g (h'.symm.trans e)
    · rw [h'] at e; cases e; omega
  refine ⟨x1, boxed2_set0 x1 vc', boxed2_touch h.res T (fun e => by rcases e with e | e; omega; exact cR _ e rfl), ?_, ?_, ownsRow_touch h.use T (fun g hg' e => by
      rcases e with e | e
      · have := (row_block h.use hg').1; omega
      · exact rows_unlike h.row h.use (by decide) e hg' rfl), h.grid.touch T (fun g hg' e => ?_) (fun i g hi hg' e => ?_), h.gtop, h.rtop, ownsRow_touch h.chs T (fun g hg' e => ?_), h.ctop,
    Touch.below9 h.below T (fun k hk e => by rcases e with e | e; omega; have := cb k e; omega) (Nat.le_refl _), h.ab, Nat.le_trans h.sz T.size, h.lo⟩
  · rw [List.length_append, List.map_append]
    exact ho.kept (grownBy_setAt9 w1 (w.heap.size + 1) 0 vc') (by
      by_cases h0 : vc'.ownBlock = none
      · exact .inl h0
      · refine .inr fun e' => cB' _ e' rfl)
  · intro g e
    rcases ha with h' | h'
    · exact h.loc g (h'.symm.trans e)
    · rw [h'] at e; cases e; exact .inr (by omega)
  · rcases e with e | e
    · exact row_box2 h.grid.head h.box (by decide) hg' e
    · exact rows_unlike h.row h.grid.head (by decide) e hg' rfl
  · rcases e with e | e
    · exact row_box2 (h.grid.rows i hi) h.box (by decide) hg' e
    · exact rows_unlike h.row (h.grid.rows i hi) (by decide) e hg' rfl
  · rcases e with e | e
    · exact row_box2 h.chs h.box (by decide) hg' e
    · have h1 := h.loc g e
      have h2 := (row_block h.chs hg').1
      have h3 := h.ctop g hg'
      omega
end Go.Proofs.Ythmijjcddjlebaa

namespace Go.Proofs.Ythmijjcddjlebaa
open Go.RowKit
set_option linter.unusedVariables false

structure Outr (w wr : World) (vc vu : Value) (vs : List Value) (C : List ByteArray) (U : List (List Int)) : Prop where
  box : Boxed2 wr (w.heap.size + 1) 27 vc vu
  res : Boxed2 wr w.heap.size 27 (.slice none 0 0) (.slice none 0 0)
  row : wr.ownsRow w.heap.size 9 1 vc C.length (C.map Value.string)
  grid : Grid wr w.heap.size vu vs U
  below : Below w.heap.size w wr
  lo : w.heap.size + 2 ≤ wr.heap.size
theorem Outr.inn {w wr w1 : World} {vc vu vch : Value} {vs : List Value} {C : List ByteArray} {U : List (List Int)} {ts : List ByteArray} (h : Outr w wr vc vu vs C U) (hb : Below wr.heap.size wr w1) (ho : OwnT w1 wr.heap.size vch ts) :
    Inn w w1 wr.heap.size w1.heap.size vc vu (.slice none 0 0) vch vs C U [] ts := by
  have T : Touch (fun _ => False) wr w1 := Touch.of_below hb
  exact ⟨boxed2_below h.box hb, boxed2_below h.res hb, ownsRow_touch h.row T (fun _ _ e => e), fun g e => .inl (row_block h.row e).2.1, World.ownsRow_nil _ _ _ _, h.grid.touch T (fun _ _ e => e) (fun _ _ _ _ e => e), fun g e => (row_block h.grid.head e).2.1, fun i g hi e => (row_block (h.grid.rows i hi) e).2.1,
    ho, fun g e => (row_block ho e).2.1, h.below.trans (hb.mono h.below.size), hb.size, Nat.le_refl _, h.lo⟩
theorem Inn.out {w wr w1 : World} {hA hB : Nat} {vc vu vu' u vch : Value} {vs : List Value} {C : List ByteArray} {U : List (List Int)} {us : List Int} {ts : List ByteArray} {tmp : Obj} (h : Inn w wr hA hB vc vu u vch vs C U us ts)
    (ho : w1.ownsRow w.heap.size 41 1 vu' (U.length + 1) (vs ++ [u])) (hg : (wr.alloc tmp).grownBy w1 vu.ownBlock) :
    Boxed2 w1 (w.heap.size + 1) 27 vc vu ∧ Outr w (w1.setCell ⟨w.heap.size + 1, 1, none⟩ vu') vc vu' (vs ++ [u]) C (U ++ [us]) := by
  have T1 : Touch (fun k => vu.ownBlock = some k) wr w1 := (Touch.of_below ((Below.refl _ wr).alloc (Nat.le_refl _) tmp)).trans (Touch.grown hg (fun k e => e))
  have cb : ∀ g, vu.ownBlock = some g → w.heap.size ≤ g := fun g e => (row_block h.grid.head e).1
  have cB : ∀ g, vu.ownBlock = some g → g ≠ w.heap.size + 1 := fun g e => row_box2 h.grid.head h.box (by decide) e
  have cR : ∀ g, vu.ownBlock = some g → g ≠ w.heap.size := fun g e => row_box2 h.grid.head h.res (by decide) e
  have x1 : Boxed2 w1 (w.heap.size + 1) 27 vc vu := boxed2_touch h.box T1 (fun e => cB _ e rfl)
  have T : Touch (fun k => k = w.heap.size + 1 ∨ vu.ownBlock = some k) wr (w1.setCell ⟨w.heap.size + 1, 1, none⟩ vu') := (T1.mono (fun k _ e => .inr e)).trans (Touch.setCell _ _ _ _ (.inl rfl))
  have ab := h.ab
  have lo := h.lo
  have sz := h.sz
  have hl := h.grid.len
  refine ⟨x1, boxed2_set1 x1 vu', boxed2_touch h.res T (fun e => by rcases e with e | e; omega; exact cR _ e rfl), ownsRow_touch h.row T (fun g hg' e => ?_), ⟨by simp [hl], ?_, fun i hi => ?_⟩,
    Touch.below9 h.below T (fun k hk e => by rcases e with e | e; omega; have := cb k e; omega) (Nat.le_refl _), by have := T.size; omega⟩
  · rcases e with e | e
    · exact row_box2 h.row h.box (by decide) hg' e
    · exact rows_unlike h.row h.grid.head (by decide) hg' e rfl
  · rw [List.length_append]
    exact ho.kept (grownBy_setAt9 w1 (w.heap.size + 1) 1 vu') (by
      by_cases h0 : vu'.ownBlock = none
      · exact .inl h0
      · exact .inr fun e' => row_box2 ho x1 (by decide) e' rfl)
  · rw [List.length_append] at hi
    by_cases hi' : i < U.length
    · have e1 : (vs ++ [u]).getD i (.slice none 0 0) = vs.getD i (.slice none 0 0) := by rw [List.getD_eq_getElem?_getD, List.getElem?_append_left (by omega), ← List.getD_eq_getElem?_getD]
      have e2 : (U ++ [us]).getD i [] = U.getD i [] := by rw [List.getD_eq_getElem?_getD, List.getElem?_append_left hi', ← List.getD_eq_getElem?_getD]
      rw [e1, e2]
      refine ownsRow_touch (h.grid.rows i hi') T (fun g hg' e => ?_)
      rcases e with e | e
      · exact row_box2 (h.grid.rows i hi') h.box (by decide) hg' e
      · exact rows_unlike (h.grid.rows i hi') h.grid.head (by decide) hg' e rfl
    · have hi2 : i = U.length := by simp at hi; omega
      subst hi2
      have e1 : (vs ++ [u]).getD U.length (.slice none 0 0) = u := by rw [List.getD_eq_getElem?_getD, ← hl, List.getElem?_append_right (Nat.le_refl _), Nat.sub_self]; rfl
      have e2 : (U ++ [us]).getD U.length [] = us := by rw [List.getD_eq_getElem?_getD, List.getElem?_append_right (Nat.le_refl _), Nat.sub_self]; rfl
      rw [e1, e2]
      refine Own.mono (base := hB) ?_ (by omega)
      refine ownsRow_touch h.use T (fun g hg' e => ?_)
      rcases e with e | e
      · have := (row_block h.use hg').1; omega
      · exact rows_unlike h.use h.grid.head (by decide) hg' e rfl
theorem infoRows9 : (Try.prog.info? 41).map (fun i => (i.zero, i.size, i.bytes)) = some (some (.slice none 0 0), 1, 24) := by kernel_rfl
def dedR (xs : List ByteArray) : List ByteArray × List (List Int) × Bool := if dedOk xs then ((dedF xs).1, (dedF xs).2, true) else ([], [], false)
theorem res_rcp2 {fn : Func} {x u : Tmp} (hf : fn.results = #[.cell x 27, .tmp u]) (tmps : Array Value) (w : World) (g : Nat) (p h : Value) (fr : Nat × Nat) (hp : tmps.getD x undef = .pointer (some ⟨g, 0, none⟩))
    (hg : w.heap[g]? = some (.cells #[p, h] 27 fr)) : (results fn tmps).run Try.prog w = .ok (.tuple #[.agg #[p, h], tmps.getD u undef]) w := by
  have hp' : tmps[x]?.getD undef = .pointer (some ⟨g, 0, none⟩) := by simpa using hp
  simp [results, hf, hp', asAddr, run_loadVar_row w g _ _ _ fr _ hg Try.underlying27 rfl rcpInfo]
theorem chunksT_sizes (s : ByteArray) : ∀ t ∈ chunksT s, t.size ≤ s.size := by
  intro t ht
  unfold chunksT at ht
  obtain ⟨p, hp, rfl⟩ := List.mem_map.1 ht
  rw [ByteArray.size_extract]
  omega
theorem add9_all {P : ByteArray → Prop} {C : List ByteArray} {t : ByteArray} (h : ∀ u ∈ C, P u) (ht : P t) : ∀ u ∈ add9 C t, P u := by
  intro u hu
  by_cases hm : t ∈ C
  · rw [add9_old hm] at hu; exact h u hu
  · rw [add9_new hm] at hu
    rcases List.mem_append.1 hu with h1 | h1
    · exact h u h1
    · rw [List.mem_singleton.1 h1]; exact ht
theorem foldU_all {P : ByteArray → Prop} (ts : List ByteArray) (ht : ∀ t ∈ ts, P t) : ∀ p : List Int × List ByteArray, (∀ u ∈ p.2, P u) → ∀ u ∈ (ts.foldl stepU p).2, P u := by
  induction ts with
  | nil => intro p h; exact h
  | cons t ts ih =>
    intro p h
    rw [List.foldl_cons]
    exact ih (fun u hu => ht u (List.mem_cons_of_mem _ hu)) _ (add9_all h (ht t List.mem_cons_self))
theorem useF_all {P : ByteArray → Prop} {C ts : List ByteArray} (h : ∀ u ∈ C, P u) (ht : ∀ t ∈ ts, P t) : ∀ u ∈ (useF C ts).2, P u := foldU_all ts ht ([], C) h
theorem dedF_all (xs : List ByteArray) (k : Nat) (hk : k ≤ xs.length) (h : ∀ i, i < xs.length → (xs.getD i ⟨#[]⟩).size ≤ 300) : ∀ u ∈ (dedF (xs.take k)).1, u.size ≤ 300 := by
  induction k with
  | zero => intro u hu; cases hu
  | succ k ih =>
    rw [dedF_snoc xs k (by omega)]
    exact useF_all (ih (by omega)) (fun t ht => Nat.le_trans (chunksT_sizes _ t ht) (h k (by omega)))
theorem isAt_ix {C : List ByteArray} {t : ByteArray} {r : Int} (h : IsAt C t r) : (t ∈ C ∧ r = ((ix9 C t : Nat) : Int)) ∨ (¬ t ∈ C ∧ r = -1) := by
  rcases h with ⟨i, hi, he, hn, rfl⟩ | ⟨hn, rfl⟩
  · have hm : t ∈ C := by
      rw [← he, List.getD_eq_getElem?_getD, List.getElem?_eq_getElem hi]
      exact List.getElem_mem hi
    refine .inl ⟨hm, ?_⟩
    congr 1
    symm
    unfold ix9
    rw [List.findIdx_eq hi]
    rw [List.getD_eq_getElem?_getD, List.getElem?_eq_getElem hi] at he
    refine ⟨by simpa using he, fun j hj => ?_⟩
    have := hn j hj
    rw [List.getD_eq_getElem?_getD, List.getElem?_eq_getElem (by omega)] at this
    simpa using this
  · refine .inr ⟨fun hm => ?_, rfl⟩
    obtain ⟨i, hi, he⟩ := List.getElem_of_mem hm
    exact hn i hi (by rw [List.getD_eq_getElem?_getD, List.getElem?_eq_getElem hi]; exact he)
theorem row_slice9 {w : World} {lo n : Nat} {e : TypeId} {v : Value} {xs : List Value} (h : w.ownsRow lo e 1 v n xs) : ∃ a cap, v = .slice a n cap := by
  rcases h.2 with ⟨rfl, rfl⟩ | ⟨g, cap, cur, rfl, _⟩
  · exact ⟨none, 0, rfl⟩
  · exact ⟨_, cap, rfl⟩
end Go.Proofs.Ythmijjcddjlebaa

namespace Go.Proofs.Ythmijjcddjlebaa
open Go.RowKit
set_option linter.unusedVariables false

theorem KeepsWalks9 (W : World) (p : Addr) (v : Value) : (W.setCell p v).heap.size = W.heap.size := by simp [World.setCell]
theorem rdT_nil9 (w : World) : RdT w (.slice none 0 0) [] := ⟨none, 0, rfl, Nat.le_refl _, ⟨Nat.zero_le _, fun _ => rfl⟩, fun _ h => (by cases h), .inl rfl⟩
theorem rdM_nil9 (w : World) : RdM w (.slice none 0 0) [] := ⟨none, 0, rfl, Nat.le_refl _, ⟨Nat.zero_le _, fun _ => rfl⟩, .inl rfl⟩
set_option maxRecDepth 100000 in
set_option maxHeartbeats 3200000 in
theorem sDedupAll_calls (v : Value) (xs : List ByteArray) (w : World) (h : RdT w v xs) :
    Calls Try.prog 15 #[v] w fun e w' => ∃ vc vu, e = .returned (.tuple #[.agg #[vc, vu], .bool (dedR xs).2.2]) ∧ RdT w' vc (dedR xs).1 ∧ RdM w' vu (dedR xs).2.1 ∧ Below w.heap.size w w' := by
  obtain ⟨is, hi0, hz0, hz1, hz2⟩ := info_parts infoStr
  have IPS := hide (And.intro hi0 (And.intro hz0 (And.intro hz1 hz2)))
  clear hi0 hz0 hz1 hz2
  obtain ⟨ii, hi0, hz0, hz1, hz2⟩ := info_parts infoInt
  have IPI := hide (And.intro hi0 (And.intro hz0 (And.intro hz1 hz2)))
  clear hi0 hz0 hz1 hz2
  obtain ⟨ir, hi0, hz0, hz1, hz2⟩ := info_parts infoRows9
  have IPR := hide (And.intro hi0 (And.intro hz0 (And.intro hz1 hz2)))
  clear hi0 hz0 hz1 hz2
  have R := hide h
  obtain ⟨a, cap, rfl, h1, h2, h4, h3⟩ := h
  have H3 := hide h3
  clear h3 h4 h2 h1
  have x0 : Boxed2 (w.alloc (.cells #[.slice none 0 0, .slice none 0 0] 27)) w.heap.size 27 (.slice none 0 0) (.slice none 0 0) := boxed2_new w _ _ _
  have X0 := hide x0
  have B0 : Hid (Below w.heap.size w (w.alloc (.cells #[.slice none 0 0, .slice none 0 0] 27))) := (Below.refl _ w).alloc (Nat.le_refl _) _
  by_cases hok : dedOk xs
  case neg =>
    rw [show dedR xs = ([], [], false) from if_neg hok]
    have HN := hide (decide_eq_false hok)
    have c0 := x0.c0
    have c1 := x0.c1
    have f0 := x0.f0 0
    have f1 := x0.f0 1
    clear x0
    go_enter Try.func15, Try.ntmps15
    go_wp2_with fail
    refine (l9Texts_calls _ xs _ (R.out.below B0.out)).mono ?_
    rintro e w1 ⟨rfl, rfl⟩
    rw [HN.out]
    go_wp2
    refine bodyPost_ret (res_rcp2 rfl _ _ w.heap.size _ _ (0, 0) rfl X0.out) rfl ⟨_, _, rfl, rdT_nil9 _, rdM_nil9 _, B0.out⟩
  rw [show dedR xs = ((dedF xs).1, (dedF xs).2, true) from if_pos hok]
  have HN := hide (decide_eq_true hok)
  have HOK := hide hok
  clear x0 hok
  have O0 : Hid (Outr w ((w.alloc (.cells #[.slice none 0 0, .slice none 0 0] 27)).alloc (.cells #[.slice none 0 0, .slice none 0 0] 27)) (.slice none 0 0) (.slice none 0 0) [] (dedF (xs.take 0)).1 (dedF (xs.take 0)).2) := by
    refine ⟨?_, boxed2_alloc X0.out _, World.ownsRow_nil _ _ _ _, grid_nil _ _, B0.out.alloc B0.out.size _, by simp⟩
    have := boxed2_new (w.alloc (.cells #[.slice none 0 0, .slice none 0 0] 27)) 27 (.slice none 0 0) (.slice none 0 0)
    rwa [World.size_alloc] at this
  go_enter Try.func15, Try.ntmps15
  go_wp2_with fail
  refine (l9Texts_calls _ xs _ (R.out.below B0.out)).mono ?_
  rintro e w1 ⟨rfl, rfl⟩
  rw [HN.out]
  go_wp2
  generalize (w.alloc (.cells #[.slice none 0 0, .slice none 0 0] 27)).alloc (.cells #[.slice none 0 0, .slice none 0 0] 27) = w1 at O0 ⊢
  go_loopw [17] (fun vi wr => ∃ (k : Nat) (vc vu : Value) (vs : List Value), k ≤ xs.length ∧ vi = .int .i64 k ∧ Outr w wr vc vu vs (dedF (xs.take k)).1 (dedF (xs.take k)).2) (fun vi _ => xs.length - (intOf vi).toNat)
  case atStart => exact ⟨0, _, _, _, Nat.zero_le _, rfl, O0.out⟩
  case round =>
    obtain ⟨k, vc, vu, vs, hk, rfl, hO⟩ := hrel
    have O := hide hO
    clear hO
    obtain ⟨wo, hwo⟩ : ∃ wo, wo = wr := ⟨_, rfl⟩
    subst hwo
    have hk8 : k ≤ 8 := by have := HOK.out.1; omega
    by_cases hlt : k < xs.length
    · rcases H3.out with h3 | ⟨b, off, rfl, hbs, hc⟩
      · subst h3; simp at hlt
      have hck := (O.out.below.cell (p := ⟨b, off + k, none⟩) hbs).trans (hc k hlt)
      clear hc
      have hsn := dedF_snoc xs k hlt
      have hs3' := HOK.out.2 k hlt
      obtain ⟨s, hs⟩ : ∃ s, s = xs.getD k ⟨#[]⟩ := ⟨_, rfl⟩
      rw [← hs] at hck hsn hs3'
      have hl9 := dedF_len xs k hk HOK.out.2
      have hal := dedF_all xs k hk HOK.out.2
      have HS := hide hsn
      have HAL := hide hal
      clear hsn hal hs
      generalize dedF (xs.take k) = D at O hl9 HAL HS
      obtain ⟨C, U⟩ := D
      simp only at O hl9 HAL HS
      obtain ⟨hUl, hCl⟩ := hl9
      have HUL := hide hUl
      clear hUl
      have hlt' : (k : Int) < (xs.length : Int) := by omega
      go_wp2_with fail
      refine (l9Chunks_calls s _ (by omega)).mono ?_
      rintro e w2 ⟨vch, rfl, och, bch⟩
      have hall := chunksT_sizes s
      have htl := chunksT_length s
      unfold stepD at HS
      generalize chunksT s = ts at och hall htl HS
      have HA := hide hall
      have I0 := hide (O.out.inn bch och)
      obtain ⟨ach, cch, rfl⟩ := own_slice6 och
      clear hall och bch
      go_wp2
      go_loopw [7, 24] (fun u vj wr2 => ∃ (j : Nat) (vc' : Value), j ≤ ts.length ∧ vj = .int .i64 j ∧ Inn w wr2 wo.heap.size w2.heap.size vc' vu u (.slice ach ts.length cch) vs (useF C (ts.take j)).2 U (useF C (ts.take j)).1 ts) (fun _ vj _ => ts.length - (intOf vj).toNat)
      case atStart => exact ⟨0, vc, Nat.zero_le _, rfl, I0.out⟩
      case round =>
        obtain ⟨j, vc', hj, rfl, hI⟩ := hrel
        have I := hide hI
        clear hI
        by_cases hlt2 : j < ts.length
        · have hsz : ∀ t ∈ ts, t.size ≤ maxLen := fun t h => by have := HA.out t h; unfold maxLen; omega
          obtain ⟨a', cap', hv, _, _, _, h3⟩ := I.out.chs.rd hsz
          rcases h3 with h3 | ⟨b2, off2, ha, hbl, hc2⟩
          · rw [h3] at hlt2; simp at hlt2
          subst ha
          simp only [Value.slice.injEq] at hv
          obtain ⟨rfl, _, rfl⟩ := hv
          have hcj := hc2 j hlt2
          have hun := useF_snoc C ts j hlt2
          have htm : ts.getD j ⟨#[]⟩ ∈ ts := by rw [List.getD_eq_getElem?_getD, List.getElem?_eq_getElem hlt2]; exact List.getElem_mem hlt2
          have ht3 := HA.out _ htm
          obtain ⟨t, ht⟩ : ∃ t, t = ts.getD j ⟨#[]⟩ := ⟨_, rfl⟩
          rw [← ht] at hcj hun ht3
          have hul := useF_len C (ts.take j)
          have hua := useF_all (P := fun u => u.size ≤ 2400) (C := C) (ts := ts.take j) (fun u h => Nat.le_trans (HAL.out u h) (by decide)) (fun u h => by have := HA.out u (List.mem_of_mem_take h); omega)
          have HU := hide hun
          have HUA := hide hua
          clear hsz hc2 hun htm ht hua hbl
          generalize useF C (ts.take j) = D at I hul HUA HU
          obtain ⟨us, C'⟩ := D
          simp only [List.length_take] at I hul HUA HU
          obtain ⟨hu1, hu2⟩ := hul
          have hu1' : us.length ≤ 300 := by omega
          have hu2' : C'.length ≤ 2700 := by omega
          clear hu1 hu2
          have c0 := I.out.box.c0
          have f0 := I.out.box.f0 0
          obtain ⟨ac, cc, rfl⟩ := row_slice9 I.out.row
          obtain ⟨au, cu, rfl⟩ := row_slice9 I.out.use
          have hlt2' : (j : Int) < (ts.length : Int) := by omega
          go_wp2_with fail
          refine (l9Text_calls _ C' t _ (OwnT.rd I.out.row (fun u h => Nat.le_trans (HUA.out u h) (by unfold maxLen; omega)))).mono ?_
          rintro e w3 ⟨⟨r, rfl, hat⟩, rfl⟩
          rcases isAt_ix hat with ⟨hm, rfl⟩ | ⟨hm, rfl⟩
          · have HM := hide hm
            have hix := ix9_le C' t
            clear hat hm
            have HU2 : Hid (useF C (ts.take (j + 1)) = (us ++ [((ix9 C' t : Nat) : Int)], C')) := by show _ = _; rw [HU.out]; unfold stepU; rw [add9_old HM.out]
            generalize ix9 C' t = y at HU2 hix ⊢
            have u1 : ¬ (y : Int) < 0 := by omega
            go_wp2_with (at_builtin; refine wpList_append_own_at (w := wr.alloc (.cells #[.int .i64 (y : Nat)] 3)) rfl _ _ _ rfl w2.heap.size 3 ii (.int .i64 0) 1 8 Try.underlying41 IPI.out.1 IPI.out.2.1 IPI.out.2.2.1 IPI.out.2.2.2 rfl (by decide) _ us.length _ rfl (World.ownsRow.alloc I.out.use _) ⟨wr.heap.size, 0, none⟩ 1 1 [.int .i64 (y : Nat)] rfl rfl (cell_one_new _ _ _) (by simp [Value.oneCell']) (by unfold maxLen; omega) (by omega) (by have := I.out.sz; simp; omega) ?_)
            intro v' w3 o3 g3 _ _
            have I3 := hide (I.out.more o3 g3)
            clear o3 g3
            go_wp2
            go_roundw
            case rel => exact ⟨j + 1, _, by omega, by go_num, by rw [HU2.out]; exact I3.out⟩
            case measure => simp [intOf]; omega
          · have HM := hide hm
            clear hat hm
            have HU2 : Hid (useF C (ts.take (j + 1)) = (us ++ [((C'.length : Nat) : Int)], C' ++ [t])) := by show _ = _; rw [HU.out]; unfold stepU; rw [add9_new HM.out, ix9_new HM.out]
            have u1 : (-1 : Int) < 0 := by omega
            go_wp2_with (at_builtin; refine wpList_append_own_at (w := wr.alloc (.cells #[.string t] 9)) rfl _ _ _ rfl w.heap.size 9 is (.string ⟨#[]⟩) 1 16 Try.underlying23 IPS.out.1 IPS.out.2.1 IPS.out.2.2.1 IPS.out.2.2.2 rfl (by decide) _ C'.length _ rfl (World.ownsRow.alloc I.out.row _) ⟨wr.heap.size, 0, none⟩ 1 1 [.string t] rfl rfl (cell_one_new _ _ _) (by simp [Value.oneCell']) (by unfold maxLen; omega) (by omega) (by have := I.out.below.size; simp; omega) ?_)
            intro v' w3 o3 g3 _ h3
            obtain ⟨x3, I3'⟩ := I.out.chunk o3 g3 h3
            have I3 := hide I3'
            have c3 := x3.c0
            have f3 := x3.f0 0
            obtain ⟨a3, c3', rfl⟩ := row_slice9 o3
            have HZ : Hid ((w3.setCell ⟨w.heap.size + 1, 0, none⟩ (.slice a3 (C'.length + 1) c3')).heap.size = w3.heap.size) := (KeepsWalks9 w3 _ _)
            clear o3 g3 h3 x3 I3' c0 f0
            go_wp2_with (at_builtin; refine wpList_append_own_at (w := (w3.setCell ⟨w.heap.size + 1, 0, none⟩ (.slice a3 (C'.length + 1) c3')).alloc (.cells #[.int .i64 (C'.length : Nat)] 3)) rfl _ _ _ rfl w2.heap.size 3 ii (.int .i64 0) 1 8 Try.underlying41 IPI.out.1 IPI.out.2.1 IPI.out.2.2.1 IPI.out.2.2.2 rfl (by decide) _ us.length _ rfl (World.ownsRow.alloc I3.out.use _) ⟨w3.heap.size, 0, none⟩ 1 1 [.int .i64 (C'.length : Nat)] rfl rfl (by rw [← HZ.out]; exact cell_one_new _ _ _) (by simp [Value.oneCell']) (by unfold maxLen; omega) (by omega) (by have := I3.out.sz; simp only [World.size_alloc]; omega) ?_)
            intro v' w4 o4 g4 _ _
            have I4 := hide (I3.out.more o4 g4)
            clear o4 g4
            go_wp2
            go_roundw
            case rel => exact ⟨j + 1, _, by omega, by go_num, by rw [HU2.out]; exact I4.out⟩
            case measure => simp [intOf]; omega
        · obtain rfl : j = ts.length := by omega
          rw [List.take_length] at I
          generalize useF C ts = D at I HS
          obtain ⟨us, C'⟩ := D
          simp only at I HS
          have hlt2' : ¬ (ts.length : Int) < (ts.length : Int) := by omega
          have c1 := I.out.box.c1
          have hUl := HUL.out
          obtain ⟨av, cv, rfl⟩ := row_slice9 I.out.grid.head
          obtain ⟨au, cu, rfl⟩ := row_slice9 I.out.use
          have hUl' : U.length ≤ 8 := by omega
          clear hUl
          go_wp2_with (at_builtin; refine wpList_append_own_at (w := wr.alloc (.cells #[.slice au us.length cu] 41)) rfl _ _ _ rfl w.heap.size 41 ir (.slice none 0 0) 1 24 Try.underlying25 IPR.out.1 IPR.out.2.1 IPR.out.2.2.1 IPR.out.2.2.2 rfl (by decide) _ U.length _ rfl (World.ownsRow.alloc I.out.grid.head _) ⟨wr.heap.size, 0, none⟩ 1 1 [.slice au us.length cu] rfl rfl (cell_one_new _ _ _) (by simp [Value.oneCell']) (by unfold maxLen; omega) (by omega) (by have := I.out.below.size; simp; omega) ?_)
          intro v' w3 o3 g3 _ _
          obtain ⟨x3, O3'⟩ := I.out.out o3 g3
          have O3 := hide O3'
          have c3 := x3.c1
          have f3 := x3.f0 1
          obtain ⟨a3, c3', rfl⟩ := row_slice9 o3
          clear o3 g3 x3 O3' c1
          go_wp2
          go_roundw
          case rel => exact ⟨k + 1, _, _, _, by omega, by go_num, by rw [HS.out]; exact O3.out⟩
          case measure => simp [intOf]; omega
    · obtain rfl : k = xs.length := by omega
      rw [List.take_length] at O
      have hlt' : ¬ (xs.length : Int) < (xs.length : Int) := by omega
      have hal := dedF_all xs xs.length (Nat.le_refl _) HOK.out.2
      rw [List.take_length] at hal
      have HAL := hide hal
      clear hal
      obtain ⟨D, hD⟩ : ∃ D, D = dedF xs := ⟨_, rfl⟩
      rw [← hD] at O HAL
      have HD := hide hD
      clear hD
      obtain ⟨C, U⟩ := D
      simp only at O HAL
      have c0 := O.out.box.c0
      have c1 := O.out.box.c1
      have r0 := O.out.res.c0
      have r1 := O.out.res.c1
      have f0 := O.out.res.f0 0
      have f1 := O.out.res.f0 1
      obtain ⟨ac, cc, rfl⟩ := row_slice9 O.out.row
      obtain ⟨av, cv, rfl⟩ := row_slice9 O.out.grid.head
      go_wp2
      have X2 := boxed2_set1 (boxed2_set0 O.out.res (.slice ac C.length cc)) (.slice av U.length cv)
      have T : Touch (fun g => g = w.heap.size) wo ((wo.setCell ⟨w.heap.size, 0, none⟩ (.slice ac C.length cc)).setCell ⟨w.heap.size, 1, none⟩ (.slice av U.length cv)) := (Touch.setCell (S := fun g => g = w.heap.size) _ _ _ _ rfl).trans (Touch.setCell (S := fun g => g = w.heap.size) _ _ _ _ rfl)
      refine bodyPost_ret (res_rcp2 rfl _ _ w.heap.size _ _ (0, 0) rfl X2) rfl ⟨_, _, rfl, ?_, ?_, Touch.below9 O.out.below T (fun g hg e => by omega) (Nat.le_refl _)⟩
      · rw [← HD.out]
        exact OwnT.rd (ownsRow_touch O.out.row T (fun g hg e => row_box2 O.out.row O.out.res (by decide) hg e)) (fun u h => by have := HAL.out u h; unfold maxLen; omega)
      · rw [← HD.out]
        exact (O.out.grid.touch T (fun g hg e => row_box2 O.out.grid.head O.out.res (by decide) hg e) (fun i g hi hg e => row_box2 (O.out.grid.rows i hi) O.out.res (by decide) hg e)).rd
end Go.Proofs.Ythmijjcddjlebaa

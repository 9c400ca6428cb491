/-
  Texts whose chunks are kept once each, by the model, call by call. Each says what it asks.
-/
import Derived.Test.YthmijjcddjlebaaDd1
namespace Go.Proofs.Ythmijjcddjlebaa
open Go.RowKit
set_option linter.unusedVariables false

abbrev dedOk (xs : List ByteArray) : Prop := xs.length ≤ 8 ∧ ∀ i, i < xs.length → (xs.getD i ⟨#[]⟩).size ≤ 300
set_option maxRecDepth 100000 in
set_option maxHeartbeats 400000 in
theorem l9Texts_calls (v : Value) (xs : List ByteArray) (w : World) (h : RdT w v xs) :
    Calls Try.prog 65 #[v] w fun e w' => e = .returned (.bool (decide (dedOk xs))) ∧ w = w' := by
  obtain ⟨a, cap, rfl, h1, h2, h4, h3⟩ := h
  have hm : xs.length ≤ maxLen := by omega
  unfold maxLen at hm
  have H3 := hide h3
  have H4 := hide h4
  clear h3 h4 h2 h1
  generalize hy : decide (dedOk xs) = y
  have HY := hide hy
  clear hy
  go_enter Try.func65, Try.ntmps65
  go_wp2
  go_loop [7] (fun vi => ∃ k : Nat, k ≤ xs.length ∧ vi = .int .i64 k ∧ ∀ i, i < k → (xs.getD i ⟨#[]⟩).size ≤ 300) (fun vi => xs.length - (intOf vi).toNat)
  case atStart => exact ⟨0, Nat.zero_le _, rfl, fun i hi => by omega⟩
  case round =>
    obtain ⟨k, hk, rfl, hall⟩ := hrel
    have HA := hide hall
    clear hall
    by_cases hlt : k < xs.length
    · rcases H3.out with h3 | ⟨b, off, rfl, hbs, hc⟩
      · subst h3; simp at hlt
      have hc1 := hc k hlt
      have hz : (xs.getD k ⟨#[]⟩).size ≤ maxLen := by
        apply H4.out
        rw [List.getD_eq_getElem?_getD, List.getElem?_eq_getElem hlt]
        exact List.getElem_mem hlt
      unfold maxLen at hz
      clear hc
      obtain ⟨z, hzz⟩ : ∃ z, z = xs.getD k ⟨#[]⟩ := ⟨_, rfl⟩
      rw [← hzz] at hc1 hz
      have HZ := hide hzz
      have hlt' : (k : Int) < (xs.length : Int) := by omega
      clear hzz
      by_cases h3 : z.size ≤ 300
      · have u : ¬ (300 : Int) < (z.size : Int) := by omega
        have HZ3 := hide h3
        go_wp2
        go_round
        case rel =>
          refine ⟨k + 1, by omega, by go_num, fun i hi => ?_⟩
          by_cases e : i = k
          · subst e; rw [← HZ.out]; exact HZ3.out
          · exact HA.out i (by omega)
        case measure => simp [intOf]; omega
      · have u : (300 : Int) < (z.size : Int) := by omega
        have ER : Hid (y = false) := by show _ = _; rw [← HY.out]; exact decide_eq_false (fun h => h3 (by rw [HZ.out]; exact h.2 k hlt))
        go_wp2
        go_ret
        exact ⟨ret_bool ER.out.symm, rfl⟩
    · obtain rfl : k = xs.length := by omega
      have ER : Hid (y = decide ((xs.length : Int) ≤ 8)) := by show _ = _; rw [← HY.out]; exact decide_eq_decide.2 ⟨fun h => by have := h.1; omega, fun h => ⟨by omega, HA.out⟩⟩
      go_wp2
      go_ret
      exact ⟨ret_bool ER.out.symm, rfl⟩

/-- What is held within the chunks of one text. -/
structure Inn (w wr : World) (hA hB : Nat) (vc vu u vch : Value) (vs : List Value) (C : List ByteArray) (U : List (List Int)) (us : List Int) (ts : List ByteArray) : Prop where
  box : Boxed2 wr (w.heap.size + 1) 27 vc vu
  res : Boxed2 wr w.heap.size 27 (.slice none 0 0) (.slice none 0 0)
  row : wr.ownsRow w.heap.size 9 1 vc C.length (C.map Value.string)
  loc : ∀ g, vc.ownBlock = some g → g < hA ∨ hB ≤ g
  use : Own wr hB u us
  grid : Grid wr w.heap.size vu vs U
  gtop : ∀ g, vu.ownBlock = some g → g < hA
  rtop : ∀ i g, i < U.length → (vs.getD i (.slice none 0 0)).ownBlock = some g → g < hA
  chs : OwnT wr hA vch ts
  ctop : ∀ g, vch.ownBlock = some g → g < hB
  below : Below w.heap.size w wr
  ab : hA ≤ hB
  sz : hB ≤ wr.heap.size
  lo : w.heap.size + 2 ≤ hA

theorem boxed2_touch {S : Nat → Prop} {W W' : World} {B : Nat} {t : TypeId} {v u : Value} (h : Boxed2 W B t v u) (ht : Touch S W W') (hs : ¬ S B) : Boxed2 W' B t v u := (ht.same B (Array.getElem?_eq_some_iff.1 h).1 hs).trans h
theorem Touch.below9 {S : Nat → Prop} {B : Nat} {w a b : World} (h : Below B w a) (ht : Touch S a b) (hs : ∀ k, k < B → ¬ S k) (hB : B ≤ w.heap.size) : Below B w b :=
  ⟨ht.os.trans h.os, ht.tape.trans h.tape, ht.output.trans h.output, Nat.le_trans h.size ht.size, fun k hk => (ht.same k (Nat.lt_of_lt_of_le (Nat.lt_of_lt_of_le hk hB) h.size) (hs k hk)).trans (h.block k hk)⟩

theorem grownBy_setAt9 (W : World) (b i : Nat) (v : Value) : W.grownBy (W.setCell ⟨b, i, none⟩ v) (some b) :=
  ⟨rfl, rfl, rfl, (KeepsWalks.setCell W _ v).size, fun k _ hk => Below.heap_setCell _ _ _ k (fun e => hk (by rw [e]))⟩

/-- One number more in the use. -/
theorem Inn.more {w wr w1 : World} {hA hB : Nat} {vc vu u u' vch : Value} {vs : List Value} {C : List ByteArray} {U : List (List Int)} {us : List Int} {ts : List ByteArray} {x : Int} {tmp : Obj} (h : Inn w wr hA hB vc vu u vch vs C U us ts)
    (ho : w1.ownsRow hB 3 1 u' (us.length + 1) (us.map (Value.int .i64) ++ [.int .i64 x])) (hg : (wr.alloc tmp).grownBy w1 u.ownBlock) : Inn w w1 hA hB vc vu u' vch vs C U (us ++ [x]) ts := by
  have T : Touch (fun k => u.ownBlock = some k) wr w1 := (Touch.of_below ((Below.refl _ wr).alloc (Nat.le_refl _) tmp)).trans (Touch.grown hg (fun k e => e))
  have ub : ∀ g, u.ownBlock = some g → hB ≤ g := fun g e => (row_block h.use e).1
  have ab := h.ab
  have lo := h.lo
  refine ⟨boxed2_touch h.box T (fun e => by have := ub _ e; omega), boxed2_touch h.res T (fun e => by have := ub _ e; omega), ownsRow_touch h.row T (fun g hg' e => rows_unlike h.row h.use (by decide) hg' e rfl), h.loc, ?_,
    h.grid.touch T (fun g hg' e => by have := h.gtop g hg'; have := ub g e; omega) (fun i g hi hg' e => by have := h.rtop i g hi hg'; have := ub g e; omega), h.gtop, h.rtop, ownsRow_touch h.chs T (fun g hg' e => rows_unlike h.chs h.use (by decide) hg' e rfl), h.ctop,
    Touch.below9 h.below T (fun k hk e => by have := ub k e; omega) (Nat.le_refl _), h.ab, Nat.le_trans h.sz T.size, h.lo⟩
  show World.ownsRow _ _ _ _ _ (us ++ [x]).length _
  rw [List.length_append, List.map_append]
  exact ho
/-- One chunk more in the book. -/
theorem Inn.chunk {w wr w1 : World} {hA hB : Nat} {vc vc' vu u vch : Value} {vs : List Value} {C : List ByteArray} {U : List (List Int)} {us : List Int} {ts : List ByteArray} {t : ByteArray} {tmp : Obj} (h : Inn w wr hA hB vc vu u vch vs C U us ts)
    (ho : w1.ownsRow w.heap.size 9 1 vc' (C.length + 1) (C.map Value.string ++ [.string t])) (hg : (wr.alloc tmp).grownBy w1 vc.ownBlock) (ha : vc'.ownBlock = vc.ownBlock ∨ vc'.ownBlock = some (wr.heap.size + 1)) :
    Boxed2 w1 (w.heap.size + 1) 27 vc vu ∧ Inn w (w1.setCell ⟨w.heap.size + 1, 0, none⟩ vc') hA hB vc' vu u vch vs (C ++ [t]) U us ts := by
  have T1 : Touch (fun k => vc.ownBlock = some k) wr w1 := (Touch.of_below ((Below.refl _ wr).alloc (Nat.le_refl _) tmp)).trans (Touch.grown hg (fun k e => e))
  have cb : ∀ g, vc.ownBlock = some g → w.heap.size ≤ g := fun g e => (row_block h.row e).1
  have cB : ∀ g, vc.ownBlock = some g → g ≠ w.heap.size + 1 := fun g e => row_box2 h.row h.box (by decide) e
  have cR : ∀ g, vc.ownBlock = some g → g ≠ w.heap.size := fun g e => row_box2 h.row h.res (by decide) e
  have x1 : Boxed2 w1 (w.heap.size + 1) 27 vc vu := boxed2_touch h.box T1 (fun e => cB _ e rfl)
  have T : Touch (fun k => k = w.heap.size + 1 ∨ vc.ownBlock = some k) wr (w1.setCell ⟨w.heap.size + 1, 0, none⟩ vc') := (T1.mono (fun k _ e => .inr e)).trans (Touch.setCell _ _ _ _ (.inl rfl))
  have ab := h.ab
  have lo := h.lo
  have sz := h.sz
  have hBlt := (Array.getElem?_eq_some_iff.1 h.box).1
  have cB' : ∀ g, vc'.ownBlock = some g → g ≠ w.heap.size + 1 := by
    intro g e
    rcases ha with h' | h'
    · exact cB g (h'.symm.trans e)
    · rw [h'] at e; cases e; omega
  refine ⟨x1, boxed2_set0 x1 vc', boxed2_touch h.res T (fun e => by rcases e with e | e; omega; exact cR _ e rfl), ?_, ?_, ownsRow_touch h.use T (fun g hg' e => by
      rcases e with e | e
      · have := (row_block h.use hg').1; omega
      · exact rows_unlike h.row h.use (by decide) e hg' rfl), h.grid.touch T (fun g hg' e => ?_) (fun i g hi hg' e => ?_), h.gtop, h.rtop, ownsRow_touch h.chs T (fun g hg' e => ?_), h.ctop,
    Touch.below9 h.below T (fun k hk e => by rcases e with e | e; omega; have := cb k e; omega) (Nat.le_refl _), h.ab, Nat.le_trans h.sz T.size, h.lo⟩
  · rw [List.length_append, List.map_append]
    exact ho.kept (grownBy_setAt9 w1 (w.heap.size + 1) 0 vc') (by
      by_cases h0 : vc'.ownBlock = none
      · exact .inl h0
      · refine .inr fun e' => cB' _ e' rfl)
  · intro g e
    rcases ha with h' | h'
    · exact h.loc g (h'.symm.trans e)
    · rw [h'] at e; cases e; exact .inr (by omega)
  · rcases e with e | e
    · exact row_box2 h.grid.head h.box (by decide) hg' e
    · exact rows_unlike h.row h.grid.head (by decide) e hg' rfl
  · rcases e with e | e
    · exact row_box2 (h.grid.rows i hi) h.box (by decide) hg' e
    · exact rows_unlike h.row (h.grid.rows i hi) (by decide) e hg' rfl
  · rcases e with e | e
    · exact row_box2 h.chs h.box (by decide) hg' e
    · have h1 := h.loc g e
      have h2 := (row_block h.chs hg').1
      have h3 := h.ctop g hg'
      omega
end Go.Proofs.Ythmijjcddjlebaa

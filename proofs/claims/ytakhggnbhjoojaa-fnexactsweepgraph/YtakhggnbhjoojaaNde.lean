/-
  Graphs: what the laws' own small functions do with them (copy, measure, compare, mark, look whether the marks are held), call by call. Each contract says what it asks.
-/
import Derived.Test.YtakhggnbhjoojaaNdd
namespace Go.Proofs.Ytakhggnbhjoojaa
open Go.RowKit
set_option linter.unusedVariables false

abbrev nilG : Array Value := #[.slice none 0 0, .slice none 0 0, .slice none 0 0]
theorem grInfo : (Try.prog.info? 27).map (·.size) = some 3 := by kernel_rfl
theorem res_gr {fn : Func} {x : Tmp} (hf : fn.results = #[.cell x 27]) (tmps : Array Value) (w : World) (g : Nat) (a b c : Value) (fr : Nat × Nat) (hp : tmps.getD x undef = .pointer (some ⟨g, 0, none⟩))
    (hg : w.heap[g]? = some (.cells #[a, b, c] 27 fr)) : (results fn tmps).run Try.prog w = .ok (.agg #[a, b, c]) w :=
  results_cell_row hf tmps w g _ _ fr _ hp hg Try.underlying27 rfl grInfo
theorem Hand.setBox {W w : World} {L : List Tg} {g : Nat} {cs : Array Value} {T : TypeId} (A : Hand W w L) (i : Nat) (hi : L[i]? = some (TBox g cs T)) (j : Nat) (v : Value) :
    Hand W (w.setCell ⟨g, j, none⟩ v) (L.set i (TBox g (cs.setIfInBounds j v) T)) := by
  obtain ⟨lo, hi', ⟨b1, b2, b3⟩, _, _, put⟩ := A.open i hi
  exact put _ (TBox g (cs.setIfInBounds j v) T) (TBox.st _ _ _) ⟨b1, b2, b3.set j v⟩ (Chg.ofSetCell w g j v b1 b2)
theorem Hand.store3G {W w : World} {L : List Tg} {g : Nat} {a b c : Value} {T : TypeId} (A : Hand W w L) (i : Nat) (hi : L[i]? = some (TBox g #[a, b, c] T)) (v0 v1 v2 : Value) :
    Hand W (((w.setCell ⟨g, 0, none⟩ v0).setCell ⟨g, 1, none⟩ v1).setCell ⟨g, 2, none⟩ v2) (L.set i (TBox g #[v0, v1, v2] T)) := by
  obtain ⟨lo, hi', ⟨b1, b2, b3⟩, _, _, put⟩ := A.open i hi
  exact put _ (TBox g #[v0, v1, v2] T) (TBox.st _ _ _) ⟨b1, b2, b3.store3 v0 v1 v2⟩ (Chg.store3 w g v0 v1 v2 b1 b2)
/-- Three things held one above another are a graph. -/
theorem Hand.graph {W w : World} {L : List Tg} {p r c : Value} {xs : List Nd} {rs cs : List Int} (A : Hand W w (TInts c cs :: TInts r rs :: TNds p xs :: L)) : TGrf p r c xs rs cs W.heap.size w.heap.size w := by
  obtain ⟨lo1, hi1, ⟨_, o1, t1⟩, a1, a2, lo2, hi2, ⟨_, o2, t2⟩, b1, b2, lo3, hi3, ⟨_, us, h⟩, c1, c2, d⟩ := A.held
  have hb := d.base
  have h0 := h.wider (lo' := W.heap.size) (hi' := hi3) hb (Nat.le_refl _)
  have l1 := row_low o1
  have l2 := row_low o2
  have h1 := h0.addAny (u := c) (r := cs) (hi2 := hi1) (ownsRow_mono o1 (by omega)) (by omega) t1 (fun b hb' => ⟨fun i hi => by simp at hi, fun i hi e => by
    have := h.rowTop i hi b e
    have := l1 b hb'
    omega⟩)
  have h2 := h1.addAny (u := r) (r := rs) (hi2 := hi1) (ownsRow_mono o2 (by omega)) (by omega) (fun b hb' => by have := t2 b hb'; omega) (fun b hb' => ⟨fun i hi e => by
    have : i = 0 := by simpa using hi
    subst this
    have := l1 b e
    have := t2 b hb'
    omega, fun i hi e => by
    have := h.rowTop i hi b e
    have := l2 b hb'
    omega⟩)
  exact ⟨us, h2.wider (Nat.le_refl _) a2⟩
/-- What a graph's measure tells. -/
def SzG (xs : List Nd) (rs cs : List Int) : Prop := xs.length + totN xs ≤ 1048576 ∧ rs.length ≤ 1048576 ∧ cs.length ≤ 1048576

set_option maxRecDepth 100000 in
set_option maxHeartbeats 1600000 in
theorem toGraph_calls (p r c : Value) (xs : List Nd) (rs cs : List Int) (w : World) (h : RdG w p r c xs rs cs) (hz : SzG xs rs cs) :
    Calls Try.prog 28 #[.agg #[p, r, c]] w fun e w' => ∃ p' r' c', e = .returned (.agg #[p', r', c']) ∧ TGrf p' r' c' xs rs cs w.heap.size w'.heap.size w' ∧ Below w.heap.size w w' := by
  have A0 := hide (Hand.threeN w #[p, r, c] nilG nilG 40 27 27)
  have R := hide h
  have Z := hide hz
  obtain ⟨⟨ap, cp, rfl, _⟩, ⟨ar, cr, rfl, _⟩, ⟨ac, cc, rfl, _⟩⟩ := h
  clear hz
  go_enter Try.func28, Try.ntmps28
  go_wp2_with fail
  refine (toNodeS_calls _ xs _ (R.out.1.below A0.out.below) Z.out.1).mono ?_
  rintro e w1 ⟨gp, rfl, o1, b1⟩
  have A1 := hide (A0.out.add b1 (TNds.st _ _) o1)
  clear o1 b1 A0
  have x1 := A1.out.atBox 1 rfl
  have x2 := A1.out.atBox 2 rfl
  have x3 := A1.out.atBox 3 rfl
  obtain ⟨c0, c1, c2⟩ := x1.c3
  obtain ⟨e0, e1, e2⟩ := x3.c3
  have f0 := x1.frozen 0
  have A2 : Hid (Hand w _ [TNds _ xs, TBox (w.heap.size + 1 + 1) #[.slice (some ⟨gp, 0, none⟩) xs.length xs.length, .slice none 0 0, .slice none 0 0] 27, TBox (w.heap.size + 1) nilG 27, TBox w.heap.size #[.slice ap xs.length cp, .slice ar rs.length cr, .slice ac cs.length cc] 40]) := A1.out.setBox 1 rfl 0 (.slice (some ⟨gp, 0, none⟩) xs.length xs.length)
  clear x1 x2 x3 A1
  go_wp2_with fail
  generalize w1.setCell ⟨w.heap.size + 1 + 1, 0, none⟩ (.slice (some ⟨gp, 0, none⟩) xs.length xs.length) = w2 at *
  clear c0 c1 c2 e0 e1 e2 f0
  refine (toIntS_calls _ rs _ (R.out.2.1.below A2.out.below) Z.out.2.1).mono ?_
  rintro e w3 ⟨r', rfl, o3, b3⟩
  obtain ⟨a3, k3, rfl⟩ := row_slice o3
  have A3 := hide (A2.out.add b3 (TInts.st _ _) ⟨o3, row_top o3⟩)
  clear o3 b3 A2
  have x1 := A3.out.atBox 2 rfl
  have x3 := A3.out.atBox 4 rfl
  obtain ⟨c0, c1, c2⟩ := x1.c3
  obtain ⟨e0, e1, e2⟩ := x3.c3
  have f0 := x1.frozen 1
  have A4 : Hid (Hand w _ [TInts _ rs, TNds _ xs, TBox (w.heap.size + 1 + 1) #[.slice (some ⟨gp, 0, none⟩) xs.length xs.length, .slice a3 rs.length k3, .slice none 0 0] 27, TBox (w.heap.size + 1) nilG 27, TBox w.heap.size #[.slice ap xs.length cp, .slice ar rs.length cr, .slice ac cs.length cc] 40]) := A3.out.setBox 2 rfl 1 (.slice a3 rs.length k3)
  clear x1 x3 A3
  go_wp2_with fail
  generalize w3.setCell ⟨w.heap.size + 1 + 1, 1, none⟩ (.slice a3 rs.length k3) = w4 at *
  clear c0 c1 c2 e0 e1 e2 f0
  refine (toIntS_calls _ cs _ (R.out.2.2.below A4.out.below) Z.out.2.2).mono ?_
  rintro e w5 ⟨c', rfl, o5, b5⟩
  obtain ⟨a5, k5, rfl⟩ := row_slice o5
  have A5 := hide (A4.out.add b5 (TInts.st _ _) ⟨o5, row_top o5⟩)
  clear o5 b5 A4
  have x1 := A5.out.atBox 3 rfl
  have x2 := A5.out.atBox 4 rfl
  obtain ⟨c0, c1, c2⟩ := x1.c3
  obtain ⟨d0, d1, d2⟩ := x2.c3
  have f2 := x1.frozen 2
  have g0 := x2.frozen 0
  have g1 := x2.frozen 1
  have g2 := x2.frozen 2
  have A6 : Hid (Hand w _ [TInts _ cs, TInts _ rs, TNds _ xs, TBox (w.heap.size + 1 + 1) #[.slice (some ⟨gp, 0, none⟩) xs.length xs.length, .slice a3 rs.length k3, .slice a5 cs.length k5] 27, TBox (w.heap.size + 1) nilG 27, TBox w.heap.size #[.slice ap xs.length cp, .slice ar rs.length cr, .slice ac cs.length cc] 40]) := A5.out.setBox 3 rfl 2 (.slice a5 cs.length k5)
  have A7 := hide (A6.out.store3G 4 rfl (.slice (some ⟨gp, 0, none⟩) xs.length xs.length) (.slice a3 rs.length k3) (.slice a5 cs.length k5))
  clear x1 x2 A5 A6
  go_wp2
  exact bodyPost_ret (res_gr rfl _ _ (w.heap.size + 1) _ _ _ (0, 0) rfl (A7.out.atBox 4 rfl)) rfl ⟨_, _, _, rfl, A7.out.graph, A7.out.below⟩
end Go.Proofs.Ytakhggnbhjoojaa

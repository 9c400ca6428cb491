/-
  Slices of Booleans: what is read, what is owned, and what the laws' own small functions do with them (copy, compare, measure, mark, look whether the marks are held), call by call. Each contract says what it asks. What a law holds in its hands, of any kind: a thing says what is so of the blocks from lo up to hi, and stays so where nothing but other blocks is changed. No condition; no call is walked here. Blocks, elements and bodies: the program's blockOf, elementsOf, bodyOf, and these for each of a list. Each contract says what it asks. 'append(l, k)': one integer behind a row of the call's own, and where it lies then. No call is walked here. PiecesFor: the program's and its model's, at every text. The program's table of rests must hold its seven numbers where the program's own functions are called. Texts put together, and counted: the program's JoinChunks and its model's, call by call. Each says what it asks of the texts' sizes. Pieces put together: the program's JoinBody and its model's, call by call. No condition but a bound on the texts' lengths. A piece as bytes, by the model: l8Text. The contract says what it asks.
-/
import Derived.Test.YtdoldboefceliaaDoorTextFromB3
import Derived.Test.YtdoldboefceliaaDoorTextFromB1
import Derived.Test.YtdoldboefceliaaDoorTextFromB4
import Derived.Test.YtdoldboefceliaaDoorTextFromB6
import Derived.Deep.AppendLies
import Derived.Deep.DeepCutAuto
import Derived.Lib.AppendStr
namespace Go.Proofs.YtdoldboefceliaaDoor
open Go.RowKit
set_option linter.unusedVariables false

theorem infoBol : (Tryd.prog.info? 4).map (fun i => (i.zero, i.size, i.bytes)) = some (some (.bool false), 1, 1) := by kernel_rfl
theorem infoBolSize : (Tryd.prog.info? 4).map (·.size) = some 1 := by kernel_rfl
/-- The value v is a slice that reads as these Booleans, in this world. -/
def RdZ (w : World) (v : Value) (xs : List Bool) : Prop :=
  ∃ a cap, v = .slice a xs.length cap ∧ xs.length ≤ cap ∧ (cap ≤ maxLen ∧ (a = none → cap = 0)) ∧ (xs = [] ∨ ∃ b off, a = some ⟨b, off, none⟩ ∧ b < w.heap.size ∧ ∀ i, i < xs.length → w.cell? ⟨b, off + i, none⟩ = some (.bool (xs.getD i false)))
/-- The value v is a slice of the call's own (its block is base or later) that reads as these Booleans. -/
abbrev OwnZ (w : World) (base : Nat) (v : Value) (xs : List Bool) : Prop := w.ownsRow base 4 1 v xs.length (xs.map Value.bool)

theorem RdZ.below {w w' : World} {v : Value} {xs : List Bool} (h : RdZ w v xs) (hb : Below w.heap.size w w') : RdZ w' v xs := by
  obtain ⟨a, cap, rfl, h1, h2, h3⟩ := h
  refine ⟨a, cap, rfl, h1, h2, ?_⟩
  rcases h3 with h3 | ⟨b, off, rfl, hlt, hc⟩
  · exact .inl h3
  · exact .inr ⟨b, off, rfl, Nat.lt_of_lt_of_le hlt hb.size, fun i hi => (hb.cell (p := ⟨b, off + i, none⟩) hlt).trans (hc i hi)⟩
theorem OwnZ.rd {w : World} {base : Nat} {v : Value} {xs : List Bool} (h : OwnZ w base v xs) : RdZ w v xs := by
  rcases h.2 with ⟨rfl, hn⟩ | ⟨g, cap, cur, rfl, hb, hg, hc, hm, hs, ht⟩
  · have : xs = [] := List.eq_nil_of_length_eq_zero hn
    subst this
    exact ⟨none, 0, rfl, Nat.le_refl _, ⟨Nat.zero_le _, fun _ => rfl⟩, .inl rfl⟩
  · refine ⟨_, cap, rfl, hc, ⟨hm, fun h => by cases h⟩, .inr ⟨g, 0, rfl, (Array.getElem?_eq_some_iff.1 hg).1, fun i hi => ?_⟩⟩
    have := World.ownsRow.cellAt h i (by omega)
    rw [Nat.zero_add, this]
    simp [hi]
theorem rdZ_nil (w : World) : RdZ w (.slice none 0 0) [] := ⟨none, 0, rfl, Nat.le_refl _, ⟨Nat.zero_le _, fun _ => rfl⟩, .inl rfl⟩
theorem bols_oneCell (zs : List Bool) : ∀ u ∈ zs.map Value.bool, u.oneCell' = true := by
  intro u hu
  obtain ⟨b, _, rfl⟩ := List.mem_map.1 hu
  rfl
/-- What is copied so far. -/
def cpZ (xs : List Bool) (k : Nat) : List Bool := xs.take k ++ List.replicate (xs.length - k) false
theorem cpZ_length (xs : List Bool) (k : Nat) (h : k ≤ xs.length) : (cpZ xs k).length = xs.length := by simp [cpZ]; omega
theorem cpZ_step (xs : List Bool) (k : Nat) (h : k < xs.length) : (cpZ xs k).set k (xs.getD k false) = cpZ xs (k + 1) := by
  have e1 : (xs.take k).length = k := by simp; omega
  unfold cpZ
  rw [List.set_append_right _ _ (by omega), e1, Nat.sub_self]
  obtain ⟨m, hm⟩ : ∃ m, xs.length - k = m + 1 := ⟨xs.length - k - 1, by omega⟩
  have hm2 : xs.length - (k + 1) = m := by omega
  rw [hm, hm2, List.replicate_succ, List.set_cons_zero, List.take_succ_eq_append_getElem h, List.append_assoc]
  simp only [List.getD_eq_getElem?_getD, List.getElem?_eq_getElem h, Option.getD_some, List.singleton_append]
theorem cpZ_end (xs : List Bool) : cpZ xs xs.length = xs := by simp [cpZ]
theorem cpZ_zero (xs : List Bool) : cpZ xs 0 = List.replicate xs.length false := by simp [cpZ]

/-- The mark of a number. -/
def mz (k : Int) : Bool := (k % 3 == 0)
/-- The marks k, k + 1, .. -/
def marksZ (k : Int) (n : Nat) : List Bool := (List.range n).map fun i : Nat => mz (k + (i : Int))
theorem marksZ_length (k : Int) (n : Nat) : (marksZ k n).length = n := by simp [marksZ]
theorem marksZ_getD (k : Int) (n i : Nat) (h : i < n) : (marksZ k n).getD i false = mz (k + i) := by simp [marksZ, h]
/-- What is marked so far. -/
def mkZ (k : Int) (xs : List Bool) (i : Nat) : List Bool := marksZ k i ++ xs.drop i
theorem mkZ_length (k : Int) (xs : List Bool) (i : Nat) (h : i ≤ xs.length) : (mkZ k xs i).length = xs.length := by simp [mkZ, marksZ]; omega
theorem mkZ_step (k : Int) (xs : List Bool) (i : Nat) (h : i < xs.length) : (mkZ k xs i).set i (mz (k + i)) = mkZ k xs (i + 1) := by
  unfold mkZ
  rw [List.set_append_right _ _ (by simp [marksZ]), marksZ_length, Nat.sub_self, List.drop_eq_getElem_cons h, List.set_cons_zero]
  simp [marksZ, List.range_succ]
theorem mkZ_end (k : Int) (xs : List Bool) : mkZ k xs xs.length = marksZ k xs.length := by simp [mkZ]

end Go.Proofs.YtdoldboefceliaaDoor

namespace Go.Proofs.YtdoldboefceliaaDoor
open Go.RowKit
set_option linter.unusedVariables false

theorem Chg.ofSetCell {lo hi : Nat} (w : World) (g i : Nat) (v : Value) (h1 : lo ≤ g) (h2 : g < hi) : Chg lo hi w (w.setCell ⟨g, i, none⟩ v) := by
  refine ⟨rfl, rfl, rfl, ?_, fun k hk ho => ?_⟩
  · unfold World.setCell
    split <;> simp
  · exact heap_setCell_other w ⟨g, i, none⟩ k v (by simp; omega)
theorem Chg.ofAlloc {lo hi : Nat} (w : World) (o : Obj) : Chg lo hi w (w.alloc o) := Chg.ofBelow (below_box w o)
theorem ownsRow_chg {w w' : World} {lo hi a b n : Nat} {e : TypeId} {v : Value} {xs : List Value} (h : w.ownsRow lo e 1 v n xs) (ht : ∀ k, v.ownBlock = some k → k < hi) (hc : Chg a b w w') (hd : hi ≤ a ∨ b ≤ lo) : w'.ownsRow lo e 1 v n xs := by
  refine ⟨h.1, ?_⟩
  rcases h.2 with hn | ⟨g, cap, cur, rfl, hb', hg, rest⟩
  · exact .inl hn
  · have := ht g rfl
    exact .inr ⟨g, cap, cur, rfl, hb', by rw [hc.block g (Array.getElem?_eq_some_iff.1 hg).1 (by omega)]; exact hg, rest⟩
theorem ownsRow_mono {w : World} {lo lo' n : Nat} {e : TypeId} {v : Value} {xs : List Value} (h : w.ownsRow lo e 1 v n xs) (hl : lo' ≤ lo) : w.ownsRow lo' e 1 v n xs := by
  refine ⟨h.1, ?_⟩
  rcases h.2 with hn | ⟨g, cap, cur, rfl, hb', rest⟩
  · exact .inl hn
  · exact .inr ⟨g, cap, cur, rfl, Nat.le_trans hl hb', rest⟩
theorem ownsRow_raise {w : World} {lo n : Nat} {e : TypeId} {v : Value} {xs : List Value} (h : w.ownsRow lo e 1 v n xs) (lo' : Nat) (hl : ∀ k, v.ownBlock = some k → lo' ≤ k) : w.ownsRow lo' e 1 v n xs := by
  refine ⟨h.1, ?_⟩
  rcases h.2 with hn | ⟨g, cap, cur, rfl, hb', rest⟩
  · exact .inl hn
  · exact .inr ⟨g, cap, cur, rfl, hl g rfl, rest⟩

/-- A block of a variable's own cells. -/
def BoxAt (w : World) (g : Nat) (cs : Array Value) (T : TypeId) : Prop := w.heap[g]? = some (.cells cs T (0, 0))
theorem BoxAt.lt {w : World} {g : Nat} {cs : Array Value} {T : TypeId} (h : BoxAt w g cs T) : g < w.heap.size := (Array.getElem?_eq_some_iff.1 h).1
theorem BoxAt.chg {w w' : World} {g a b : Nat} {cs : Array Value} {T : TypeId} (h : BoxAt w g cs T) (hc : Chg a b w w') (hd : g < a ∨ b ≤ g) : BoxAt w' g cs T := by
  unfold BoxAt
  rw [hc.block g h.lt (by omega)]
  exact h
theorem BoxAt.below {w w' : World} {g : Nat} {cs : Array Value} {T : TypeId} (h : BoxAt w g cs T) (hc : Below w.heap.size w w') : BoxAt w' g cs T :=
  h.chg (Chg.ofBelow (lo := w.heap.size) (hi := w.heap.size) hc) (.inl h.lt)
theorem BoxAt.new (w : World) (cs : Array Value) (T : TypeId) : BoxAt (w.alloc (.cells cs T)) w.heap.size cs T := heap_alloc_new w _
theorem BoxAt.set {w : World} {g : Nat} {cs : Array Value} {T : TypeId} (h : BoxAt w g cs T) (i : Nat) (v : Value) : BoxAt (w.setCell ⟨g, i, none⟩ v) g (cs.setIfInBounds i v) T := heap_setCell_same w g i _ _ v h
theorem BoxAt.cell {w : World} {g : Nat} {cs : Array Value} {T : TypeId} (h : BoxAt w g cs T) (i : Nat) : w.cell? ⟨g, i, none⟩ = cs[i]? := cell_of_row w g i _ _ _ h
theorem BoxAt.frozen {w : World} {g : Nat} {cs : Array Value} {T : TypeId} (h : BoxAt w g cs T) (i : Nat) : w.frozen? ⟨g, i, none⟩ = false := frozen_of_row w g i _ _ h
theorem BoxAt.c3 {w : World} {g : Nat} {a b c : Value} {T : TypeId} (h : BoxAt w g #[a, b, c] T) : w.cell? ⟨g, 0, none⟩ = some a ∧ w.cell? ⟨g, 1, none⟩ = some b ∧ w.cell? ⟨g, 2, none⟩ = some c := ⟨h.cell 0, h.cell 1, h.cell 2⟩
theorem BoxAt.c4 {w : World} {g : Nat} {a b c d : Value} {T : TypeId} (h : BoxAt w g #[a, b, c, d] T) : w.cell? ⟨g, 0, none⟩ = some a ∧ w.cell? ⟨g, 1, none⟩ = some b ∧ w.cell? ⟨g, 2, none⟩ = some c ∧ w.cell? ⟨g, 3, none⟩ = some d := ⟨h.cell 0, h.cell 1, h.cell 2, h.cell 3⟩

theorem BoxAt.store3 {w : World} {g : Nat} {a b c : Value} {T : TypeId} (h : BoxAt w g #[a, b, c] T) (v0 v1 v2 : Value) : BoxAt (((w.setCell ⟨g, 0, none⟩ v0).setCell ⟨g, 1, none⟩ v1).setCell ⟨g, 2, none⟩ v2) g #[v0, v1, v2] T := by
  simpa using ((h.set 0 v0).set 1 v1).set 2 v2
theorem BoxAt.store4 {w : World} {g : Nat} {a b c d : Value} {T : TypeId} (h : BoxAt w g #[a, b, c, d] T) (v0 v1 v2 v3 : Value) : BoxAt ((((w.setCell ⟨g, 0, none⟩ v0).setCell ⟨g, 1, none⟩ v1).setCell ⟨g, 2, none⟩ v2).setCell ⟨g, 3, none⟩ v3) g #[v0, v1, v2, v3] T := by
  simpa using (((h.set 0 v0).set 1 v1).set 2 v2).set 3 v3
theorem Chg.store3 {lo hi : Nat} (w : World) (g : Nat) (v0 v1 v2 : Value) (h1 : lo ≤ g) (h2 : g < hi) : Chg lo hi w (((w.setCell ⟨g, 0, none⟩ v0).setCell ⟨g, 1, none⟩ v1).setCell ⟨g, 2, none⟩ v2) :=
  ((Chg.ofSetCell _ _ _ _ h1 h2).trans (Chg.ofSetCell _ _ _ _ h1 h2)).trans (Chg.ofSetCell _ _ _ _ h1 h2)
theorem Chg.store4 {lo hi : Nat} (w : World) (g : Nat) (v0 v1 v2 v3 : Value) (h1 : lo ≤ g) (h2 : g < hi) : Chg lo hi w ((((w.setCell ⟨g, 0, none⟩ v0).setCell ⟨g, 1, none⟩ v1).setCell ⟨g, 2, none⟩ v2).setCell ⟨g, 3, none⟩ v3) :=
  (Chg.store3 _ _ _ _ _ h1 h2).trans (Chg.ofSetCell _ _ _ _ h1 h2)

/-- What is new in the first world's eyes may be written besides. -/
theorem chg_new {lo hi x y : Nat} {w w1 w2 : World} (h : Chg lo hi w w1) (k : Chg x y w1 w2) (hx : w.heap.size ≤ x) : Chg lo hi w w2 :=
  ⟨k.os.trans h.os, k.tape.trans h.tape, k.output.trans h.output, Nat.le_trans h.size k.size, fun i hi' ho => (k.block i (Nat.lt_of_lt_of_le hi' h.size) (.inl (by omega))).trans (h.block i hi' ho)⟩

/-- A thing: what is so of the blocks from lo up to hi. -/
abbrev Tg := Nat → Nat → World → Prop
def Tg.st (t : Tg) : Prop := ∀ lo hi a b w w', t lo hi w → Chg a b w w' → (hi ≤ a ∨ b ≤ lo) → t lo hi w'
/-- The newest on top; each lies above what was there ahead of it. -/
def HeldG (W w : World) : Nat → List Tg → Prop
  | top, [] => W.heap.size ≤ top
  | top, t :: L => ∃ lo hi, (t.st ∧ t lo hi w) ∧ lo ≤ hi ∧ hi ≤ top ∧ HeldG W w lo L
theorem HeldG.base {W w : World} : ∀ {top : Nat} {L : List Tg}, HeldG W w top L → W.heap.size ≤ top
  | _, [], h => h
  | _, _ :: _, ⟨_, _, _, h1, h2, h⟩ => Nat.le_trans (Nat.le_trans (HeldG.base h) h1) h2
theorem HeldG.up {W w : World} {top top' : Nat} : ∀ {L : List Tg}, HeldG W w top L → top ≤ top' → HeldG W w top' L
  | [], h, hl => Nat.le_trans h hl
  | _ :: _, ⟨lo, hi, h0, h1, h2, h⟩, hl => ⟨lo, hi, h0, h1, Nat.le_trans h2 hl, h⟩
theorem HeldG.chg {W w w' : World} {a b : Nat} (hc : Chg a b w w') : ∀ {top : Nat} {L : List Tg}, HeldG W w top L → top ≤ a → HeldG W w' top L
  | _, [], h, _ => h
  | _, _ :: _, ⟨lo, hi, h0, h1, h2, h⟩, hl => ⟨lo, hi, ⟨h0.1, h0.1 _ _ _ _ _ _ h0.2 hc (.inl (by omega))⟩, h1, h2, HeldG.chg hc h (by omega)⟩
theorem HeldG.open {W w : World} : ∀ {top : Nat} {L : List Tg} {i : Nat} {t : Tg}, HeldG W w top L → L[i]? = some t →
    ∃ lo hi, t lo hi w ∧ W.heap.size ≤ lo ∧ hi ≤ top ∧ ∀ w' t', Tg.st t' → t' lo hi w' → Chg lo hi w w' → HeldG W w' top (L.set i t')
  | top, [], i, t, _, h => by simp at h
  | top, t0 :: L, 0, t, ⟨lo, hi, h0, h1, h2, h⟩, hi' => by
    simp at hi'
    subst hi'
    exact ⟨lo, hi, h0.2, h.base, h2, fun w' t' hs ht hc => ⟨lo, hi, ⟨hs, ht⟩, h1, h2, HeldG.chg hc h (Nat.le_refl _)⟩⟩
  | top, t0 :: L, i + 1, t, ⟨lo, hi, h0, h1, h2, h⟩, hi' => by
    obtain ⟨lo', hi2, ok, hb, ht, put⟩ := HeldG.open h (by simpa using hi')
    exact ⟨lo', hi2, ok, hb, by omega, fun w' t' hs ok' hc => ⟨lo, hi, ⟨h0.1, h0.1 _ _ _ _ _ _ h0.2 hc (.inr ht)⟩, h1, h2, put w' t' hs ok' hc⟩⟩
structure Hand (W w : World) (L : List Tg) : Prop where
  below : Below W.heap.size W w
  held : HeldG W w w.heap.size L
theorem Hand.start (W : World) : Hand W W [] := ⟨Below.refl _ _, Nat.le_refl _⟩
theorem Hand.step {W w w' : World} {L : List Tg} (h : Hand W w L) (hb : Below w.heap.size w w') : Hand W w' L :=
  ⟨h.below.trans (hb.mono h.below.size), (HeldG.chg (a := w.heap.size) (b := w.heap.size) (Chg.ofBelow hb) h.held (Nat.le_refl _)).up hb.size⟩
theorem Hand.add {W w w' : World} {L : List Tg} {t : Tg} (h : Hand W w L) (hb : Below w.heap.size w w') (hs : t.st) (ho : t w.heap.size w'.heap.size w') : Hand W w' (t :: L) :=
  ⟨(h.step hb).below, w.heap.size, w'.heap.size, ⟨hs, ho⟩, hb.size, Nat.le_refl _, HeldG.chg (a := w.heap.size) (b := w.heap.size) (Chg.ofBelow hb) h.held (Nat.le_refl _)⟩
theorem Hand.open {W w : World} {L : List Tg} {t : Tg} (h : Hand W w L) (i : Nat) (hi : L[i]? = some t) :
    ∃ lo hi, t lo hi w ∧ W.heap.size ≤ lo ∧ hi ≤ w.heap.size ∧ ∀ w' t', Tg.st t' → t' lo hi w' → Chg lo hi w w' → Hand W w' (L.set i t') := by
  obtain ⟨lo, hi', ok, hb, ht, put⟩ := HeldG.open h.held hi
  exact ⟨lo, hi', ok, hb, ht, fun w' t' hs ok' hc => ⟨h.below.trans (hc.below hb h.below.size), (put w' t' hs ok' hc).up hc.size⟩⟩
theorem Hand.get {W w : World} {L : List Tg} {t : Tg} (h : Hand W w L) (i : Nat) (hi : L[i]? = some t) : ∃ lo hi, t lo hi w := by
  obtain ⟨lo, hi', ok, _⟩ := h.open i hi
  exact ⟨lo, hi', ok⟩

/-- A variable's block. -/
def TBox (g : Nat) (cs : Array Value) (T : TypeId) : Tg := fun lo hi w => lo ≤ g ∧ g < hi ∧ BoxAt w g cs T
theorem TBox.st (g : Nat) (cs : Array Value) (T : TypeId) : (TBox g cs T).st := by
  intro lo hi a b w w' h hc hd
  obtain ⟨h1, h2, h3⟩ := h
  exact ⟨h1, h2, h3.chg hc (by omega)⟩
theorem Hand.box {W w : World} {L : List Tg} (h : Hand W w L) (cs : Array Value) (T : TypeId) : Hand W (w.alloc (.cells cs T)) (TBox w.heap.size cs T :: L) :=
  h.add (below_box w _) (TBox.st _ _ _) ⟨Nat.le_refl _, by simp, BoxAt.new w cs T⟩
theorem Hand.atBox {W w : World} {L : List Tg} {g : Nat} {cs : Array Value} {T : TypeId} (h : Hand W w L) (i : Nat) (hi : L[i]? = some (TBox g cs T)) : BoxAt w g cs T := by
  obtain ⟨_, _, _, _, h⟩ := h.get i hi
  exact h
/-- Rows of the call's own. -/
def TInts (v : Value) (xs : List Int) : Tg := fun lo hi w => Own w lo v xs ∧ ∀ k, v.ownBlock = some k → k < hi
theorem TInts.st (v : Value) (xs : List Int) : (TInts v xs).st := fun lo hi a b w w' h hc hd => ⟨ownsRow_chg h.1 h.2 hc hd, h.2⟩
def TBols (v : Value) (xs : List Bool) : Tg := fun lo hi w => OwnZ w lo v xs ∧ ∀ k, v.ownBlock = some k → k < hi
theorem TBols.st (v : Value) (xs : List Bool) : (TBols v xs).st := fun lo hi a b w w' h hc hd => ⟨ownsRow_chg h.1 h.2 hc hd, h.2⟩
theorem row_top {w : World} {lo n : Nat} {e : TypeId} {v : Value} {xs : List Value} (h : w.ownsRow lo e 1 v n xs) : ∀ k, v.ownBlock = some k → k < w.heap.size := fun k hk => (World.ownsRow.lt h k hk).2
theorem row_low {w : World} {lo n : Nat} {e : TypeId} {v : Value} {xs : List Value} (h : w.ownsRow lo e 1 v n xs) : ∀ k, v.ownBlock = some k → lo ≤ k := fun k hk => (World.ownsRow.lt h k hk).1

theorem row_slice {w : World} {lo n : Nat} {e : TypeId} {v : Value} {xs : List Value} (h : w.ownsRow lo e 1 v n xs) : ∃ a cap, v = .slice a n cap := by
  rcases h.2 with ⟨rfl, h0⟩ | ⟨g, cap, cur, rfl, hb, _⟩
  · exact ⟨none, 0, by rw [h0]⟩
  · exact ⟨_, cap, rfl⟩

theorem RdT.small {w : World} {v : Value} {xs : List ByteArray} (h : RdT w v xs) : ∀ s ∈ xs, s.size ≤ maxLen := by
  obtain ⟨a, cap, rfl, h1, h2, h4, h3⟩ := h
  exact h4

/-- A disk of the call's own: three rows, in blocks from lo up to hi. -/
structure DskV (w : World) (lo hi : Nat) (p h b : Value) (P H : List ByteArray) (B : List Bool) : Prop where
  plate : OwnT w lo p P
  held : OwnT w lo h H
  bad : OwnZ w lo b B
  tp : ∀ k, p.ownBlock = some k → k < hi
  th : ∀ k, h.ownBlock = some k → k < hi
  tb : ∀ k, b.ownBlock = some k → k < hi
  ph : p.ownBlock = none ∨ p.ownBlock ≠ h.ownBlock
  sp : ∀ s ∈ P, s.size ≤ maxLen
  sh : ∀ s ∈ H, s.size ≤ maxLen
theorem DskV.chg {w w' : World} {lo hi x y : Nat} {p h b : Value} {P H : List ByteArray} {B : List Bool} (d : DskV w lo hi p h b P H B) (hc : Chg x y w w') (hd : hi ≤ x ∨ y ≤ lo) : DskV w' lo hi p h b P H B :=
  ⟨ownsRow_chg d.plate d.tp hc hd, ownsRow_chg d.held d.th hc hd, ownsRow_chg d.bad d.tb hc hd, d.tp, d.th, d.tb, d.ph, d.sp, d.sh⟩
theorem DskV.below {w w' : World} {lo hi : Nat} {p h b : Value} {P H : List ByteArray} {B : List Bool} (d : DskV w lo hi p h b P H B) (hb : Below w.heap.size w w') : DskV w' lo hi p h b P H B :=
  ⟨ownsRow_below d.plate hb, ownsRow_below d.held hb, ownsRow_below d.bad hb, d.tp, d.th, d.tb, d.ph, d.sp, d.sh⟩
theorem DskV.wider {w : World} {lo hi lo' hi' : Nat} {p h b : Value} {P H : List ByteArray} {B : List Bool} (d : DskV w lo hi p h b P H B) (h1 : lo' ≤ lo) (h2 : hi ≤ hi') : DskV w lo' hi' p h b P H B :=
  ⟨ownsRow_mono d.plate h1, ownsRow_mono d.held h1, ownsRow_mono d.bad h1, fun k hk => Nat.lt_of_lt_of_le (d.tp k hk) h2, fun k hk => Nat.lt_of_lt_of_le (d.th k hk) h2, fun k hk => Nat.lt_of_lt_of_le (d.tb k hk) h2, d.ph, d.sp, d.sh⟩
theorem DskV.sl {w : World} {lo hi : Nat} {p h b : Value} {P H : List ByteArray} {B : List Bool} (d : DskV w lo hi p h b P H B) : ∃ ap cp ah ch ab cb, p = .slice ap P.length cp ∧ h = .slice ah H.length ch ∧ b = .slice ab B.length cb := by
  obtain ⟨ap, cp, rfl⟩ := row_slice d.plate
  obtain ⟨ah, ch, rfl⟩ := row_slice d.held
  obtain ⟨ab, cb, rfl⟩ := row_slice d.bad
  exact ⟨ap, cp, ah, ch, ab, cb, rfl, rfl, rfl⟩
theorem DskV.rp {w : World} {lo hi : Nat} {p h b : Value} {P H : List ByteArray} {B : List Bool} (d : DskV w lo hi p h b P H B) : RdT w p P := OwnT.rd d.plate d.sp
theorem DskV.rh {w : World} {lo hi : Nat} {p h b : Value} {P H : List ByteArray} {B : List Bool} (d : DskV w lo hi p h b P H B) : RdT w h H := OwnT.rd d.held d.sh
theorem DskV.rb {w : World} {lo hi : Nat} {p h b : Value} {P H : List ByteArray} {B : List Bool} (d : DskV w lo hi p h b P H B) : RdZ w b B := OwnZ.rd d.bad
theorem DskV.nil (w : World) (lo hi : Nat) : DskV w lo hi (.slice none 0 0) (.slice none 0 0) (.slice none 0 0) [] [] [] :=
  ⟨World.ownsRow_nil _ _ _ _, World.ownsRow_nil _ _ _ _, World.ownsRow_nil _ _ _ _, fun k hk => by simp [Value.ownBlock] at hk, fun k hk => by simp [Value.ownBlock] at hk, fun k hk => by simp [Value.ownBlock] at hk, .inl rfl, by simp, by simp⟩
def TDsk (p h b : Value) (P H : List ByteArray) (B : List Bool) : Tg := fun lo hi w => DskV w lo hi p h b P H B
theorem TDsk.st (p h b : Value) (P H : List ByteArray) (B : List Bool) : (TDsk p h b P H B).st := fun lo hi x y w w' d hc hd => d.chg hc hd
/-- A row of Booleans and a row of texts lie in unlike blocks. -/
theorem bol_txt {w : World} {lo lo' n k : Nat} {v u : Value} {xs ys : List Value} (h : w.ownsRow lo 4 1 v n xs) (h' : w.ownsRow lo' 9 1 u k ys) : (v.ownBlock = none ∨ v.ownBlock ≠ u.ownBlock) ∧ (u.ownBlock = none ∨ u.ownBlock ≠ v.ownBlock) := by
  rcases h.2 with ⟨rfl, _⟩ | ⟨g, cap, cur, rfl, _, hg, _⟩
  · refine ⟨.inl rfl, ?_⟩
    cases hu : u.ownBlock with
    | none => exact .inl rfl
    | some x => right; simp [Value.ownBlock]
  rcases h'.2 with ⟨rfl, _⟩ | ⟨g', cap', cur', rfl, _, hg', _⟩
  · exact ⟨.inr (by simp [Value.ownBlock]), .inl rfl⟩
  · have hne : g ≠ g' := by
      intro e
      subst e
      rw [hg] at hg'
      simp at hg'
    exact ⟨.inr (by simpa [Value.ownBlock] using hne), .inr (by simpa [Value.ownBlock] using fun e : g' = g => hne e.symm)⟩
/-- One row is written. -/
theorem DskV.setP {w w' : World} {lo hi : Nat} {p h b : Value} {P H P' : List ByteArray} {B : List Bool} (d : DskV w lo hi p h b P H B) (ho : OwnT w' lo p P') (hs : ∀ s ∈ P', s.size ≤ maxLen) (hg : w.grownBy w' p.ownBlock) : DskV w' lo hi p h b P' H B :=
  ⟨ho, World.ownsRow.kept d.held hg (by
      rcases d.ph with e | e
      · cases hh : h.ownBlock with
        | none => exact .inl rfl
        | some x => right; rw [e]; simp
      · exact .inr (fun h' => e h'.symm)), World.ownsRow.kept d.bad hg (bol_txt d.bad d.plate).1, d.tp, d.th, d.tb, d.ph, hs, d.sh⟩
theorem DskV.setH {w w' : World} {lo hi : Nat} {p h b : Value} {P H H' : List ByteArray} {B : List Bool} (d : DskV w lo hi p h b P H B) (ho : OwnT w' lo h H') (hs : ∀ s ∈ H', s.size ≤ maxLen) (hg : w.grownBy w' h.ownBlock) : DskV w' lo hi p h b P H' B :=
  ⟨World.ownsRow.kept d.plate hg d.ph, ho, World.ownsRow.kept d.bad hg (bol_txt d.bad d.held).1, d.tp, d.th, d.tb, d.ph, d.sp, hs⟩
theorem DskV.setB {w w' : World} {lo hi : Nat} {p h b : Value} {P H : List ByteArray} {B B' : List Bool} (d : DskV w lo hi p h b P H B) (ho : OwnZ w' lo b B') (hg : w.grownBy w' b.ownBlock) : DskV w' lo hi p h b P H B' :=
  ⟨World.ownsRow.kept d.plate hg (bol_txt d.bad d.plate).2, World.ownsRow.kept d.held hg (bol_txt d.bad d.held).2, ho, d.tp, d.th, d.tb, d.ph, d.sp, d.sh⟩
theorem DskV.chgP {w w' : World} {lo hi : Nat} {p h b : Value} {P H : List ByteArray} {B : List Bool} (d : DskV w lo hi p h b P H B) (hg : w.grownBy w' p.ownBlock) : Chg lo hi w w' := Chg.ofGrown hg (fun k hk => ⟨row_low d.plate k hk, d.tp k hk⟩)
theorem DskV.chgH {w w' : World} {lo hi : Nat} {p h b : Value} {P H : List ByteArray} {B : List Bool} (d : DskV w lo hi p h b P H B) (hg : w.grownBy w' h.ownBlock) : Chg lo hi w w' := Chg.ofGrown hg (fun k hk => ⟨row_low d.held k hk, d.th k hk⟩)
theorem DskV.chgB {w w' : World} {lo hi : Nat} {p h b : Value} {P H : List ByteArray} {B : List Bool} (d : DskV w lo hi p h b P H B) (hg : w.grownBy w' b.ownBlock) : Chg lo hi w w' := Chg.ofGrown hg (fun k hk => ⟨row_low d.bad k hk, d.tb k hk⟩)
end Go.Proofs.YtdoldboefceliaaDoor

namespace Go.Proofs.YtdoldboefceliaaDoor
open Go.RowKit
open Gf (ci nat)
set_option linter.unusedVariables false

/-- A block: a byte of the text's length, the text, noughts: 48 in all. -/
def blk (S : ByteArray) : List Nat := S.size :: (bs S ++ List.replicate (47 - S.size) 0)
theorem blk_length {S : ByteArray} (h : S.size ≤ 47) : (blk S).length = 48 := by
  unfold blk
  rw [List.length_cons, List.length_append, bs_length, List.length_replicate]
  omega
theorem blk_small {S : ByteArray} (h : S.size ≤ 47) : ∀ b ∈ blk S, b < 256 := by
  intro b hb
  unfold blk at hb
  rcases List.mem_cons.1 hb with hb | hb
  · omega
  · rcases List.mem_append.1 hb with hb | hb
    · exact bs_lt S b hb
    · simp only [List.mem_replicate] at hb
      omega
theorem rep0 (c : Nat) : (⟨(Go.Lib.repeatL (⟨#[0]⟩ : ByteArray).data.toList c).toArray⟩ : ByteArray) = ofN (List.replicate c 0) := by
  have := Go.Lib.repeatL_replicate 0 1 c
  simp only [List.replicate_one, Nat.mul_one] at this
  unfold ofN
  congr 1
  show (Go.Lib.repeatL [0] c).toArray = _
  rw [this, List.map_replicate]
  rfl
theorem RdT.slB {w : World} {v : Value} {xs : List ByteArray} (h : RdT w v xs) : ∃ a cap, v = .slice a xs.length cap ∧ xs.length ≤ cap := by
  obtain ⟨a, cap, rfl, h1, _⟩ := h
  exact ⟨a, cap, rfl, h1⟩
theorem RdT.cellB {w : World} {a : Option Addr} {n cap : Nat} {xs : List ByteArray} (h : RdT w (.slice a n cap) xs) (i : Nat) (hi : i < xs.length) : ∃ b off, a = some ⟨b, off, none⟩ ∧ w.cell? ⟨b, off + i, none⟩ = some (.string (xs.getD i ⟨#[]⟩)) := by
  obtain ⟨a', cap', e, h1, h2, h4, h3⟩ := h
  simp only [Value.slice.injEq] at e
  obtain ⟨rfl, _, rfl⟩ := e
  rcases h3 with h3 | ⟨b, off, rfl, hlt, hc⟩
  · subst h3; simp at hi
  · exact ⟨b, off, rfl, hc i hi⟩
/-- What is laid so far. -/
def padU (us : List Value) (n : Nat) : List Value := us ++ List.replicate (n - us.length) nilRow
theorem padU_length (us : List Value) (n : Nat) (h : us.length ≤ n) : (padU us n).length = n := by simp [padU]; omega
theorem padU_set (us : List Value) (n : Nat) (u : Value) (h : us.length < n) : (padU us n).set us.length u = padU (us ++ [u]) n := by
  unfold padU
  obtain ⟨k, hk⟩ : ∃ k, n - us.length = k + 1 := ⟨n - us.length - 1, by omega⟩
  have hk2 : n - (us ++ [u]).length = k := by simp; omega
  rw [hk, hk2, List.replicate_succ, List.set_append_right _ _ (Nat.le_refl _), Nat.sub_self, List.set_cons_zero, List.append_assoc]
  rfl

set_option maxRecDepth 100000 in
set_option maxHeartbeats 800000 in
theorem blockOf_calls (S : ByteArray) (w : World) (hS : S.size ≤ 47) :
    Calls Tryd.prog 19 #[.string S] w fun e w' => e = .returned (.string (ofN (blk S))) ∧ Below w.heap.size w w' := by
  have B0 := hide (below_box w (.cells #[.int .u8 (S.size : Int)] 5))
  have hbt := byte_text S.size (by omega) w
  have e1 : ofN [S.size] ++ S = ofN (S.size :: bs S) := by
    have := ofN_append [S.size] (bs S)
    rw [ofN_bs] at this
    exact this
  have RP := hide (fun W => Tryd.strings_Repeat ⟨#[0]⟩ (47 - S.size) W (by omega) (by show 1 * _ ≤ _; omega))
  have E5 : Hid ((47 : Int) - (S.size : Int) = ((47 - S.size : Nat) : Int)) := by show _ = _; omega
  have hadd := run_string_add_sum (P := Tryd.prog) (w := w.alloc (.cells #[.int .u8 (S.size : Int)] 5)) (ofN [S.size]) S (by rw [ofN_size]; simp; omega)
  rw [e1] at hadd
  clear e1
  go_enter Tryd.func19, Tryd.ntmps19
  go_wp2_with fail
  rw [E5.out]
  refine (RP.out _).mono ?_
  rintro e w1 ⟨rfl, q⟩
  rw [rep0]
  have B1 := hide (B0.out.trans (q.mono (by simp)))
  clear q hadd hbt
  have hadd2 := run_string_add_sum (P := Tryd.prog) (w := w1) (ofN (S.size :: bs S)) (ofN (List.replicate (47 - S.size) 0)) (by rw [ofN_size, ofN_size, List.length_cons, List.length_replicate, bs_length]; omega)
  rw [ofN_append] at hadd2
  go_wp2
  go_ret
  exact ⟨rfl, B1.out⟩

set_option maxRecDepth 100000 in
set_option maxHeartbeats 800000 in
theorem bodyOf_calls (v : Value) (l : List Nat) (w : World) (h : Rd w v (ci l)) (hl : ∀ b ∈ l, b < 256) (hn : l.length ≤ 4096) :
    Calls Tryd.prog 18 #[v] w fun e w' => e = .returned (.string (ofN l)) ∧ Below w.heap.size w w' := by
  obtain ⟨a, cap, hv, m1, m2, m3⟩ := h
  rw [Gf.ci_length] at hv m3
  subst hv
  have M3 := hide m3
  have HL := hide hl
  clear m1 m2 m3 hl
  go_enter Tryd.func18, Tryd.ntmps18
  go_wp2_with (at_make; refine wpList_make_bytes rfl _ _ rfl w.heap.size _ _ l.length rfl rfl (by omega) (by omega) (by omega) (Nat.le_refl _) ?_)
  intro w2 hown hgrow
  have Z2 := hide (zrow_made hown)
  have B2 := hide (grown_none hgrow)
  clear hown hgrow
  go_wp2
  go_loopw [4, 5, 11] (fun _ _ vi wr => ∃ k : Nat, k ≤ l.length ∧ vi = .int .i64 k ∧ ZRow wr w.heap.size (l.take k ++ List.replicate (l.length - k) 0) ∧ Below w.heap.size w wr) (fun _ _ vi _ => l.length - (intOf vi).toNat)
  case atStart => exact ⟨0, Nat.zero_le _, rfl, by simpa using Z2.out, B2.out⟩
  case round =>
    obtain ⟨k, hk, rfl, hz, hb⟩ := hrel
    have HB := hide hb
    have HZ := hide hz
    by_cases hlt : k < l.length
    · have hlt' : (k : Int) < (l.length : Int) := by omega
      rcases M3.out with h3 | ⟨b, off, rfl, hbs, hc⟩
      · have : l = [] := by simpa [ci] using h3
        rw [this] at hlt
        simp at hlt
      have hck : wr.cell? ⟨b, off + k, none⟩ = some (.int .i64 ((l.getD k 0 : Nat) : Int)) := by
        rw [← Gf.ci_getD]
        exact (hb.cell (p := ⟨b, off + k, none⟩) hbs).trans (hc k hlt)
      have hx256 : l.getD k 0 < 256 := by
        rw [List.getD_eq_getElem?_getD, List.getElem?_eq_getElem hlt]
        exact HL.out _ (List.getElem_mem hlt)
      have hst : (l.take k ++ List.replicate (l.length - k) 0).set k (l.getD k 0) = l.take (k + 1) ++ List.replicate (l.length - (k + 1)) 0 := by
        obtain ⟨n, hn'⟩ : ∃ n, l.length - k = n + 1 := ⟨l.length - k - 1, by omega⟩
        have hn2 : l.length - (k + 1) = n := by omega
        rw [hn', hn2, List.replicate_succ, List.set_append_right _ _ (by simp; omega), List.take_succ_eq_append_getElem hlt, List.append_assoc]
        have e2 : k - (l.take k).length = 0 := by simp; omega
        rw [e2, List.set_cons_zero, List.getD_eq_getElem?_getD, List.getElem?_eq_getElem hlt]
        rfl
      have c0 := hz.cell k (by simp; omega)
      have f0 := hz.frozen k
      have ST := hide hst
      generalize l.getD k 0 = x at hck hx256 ST
      have SZ := hide (HZ.out.set k x)
      generalize (l.take k ++ List.replicate (l.length - k) 0).getD k 0 = old at c0
      clear hc hz hb hst HZ
      go_wp2
      go_roundw
      case rel =>
        refine ⟨k + 1, by omega, by go_num, ?_, HB.out.setCell (Nat.le_refl _) _⟩
        have := SZ.out
        rw [ST.out] at this
        exact this
      case measure => simp [intOf]; omega
    · obtain rfl : k = l.length := by omega
      have hz2 : ZRow wr w.heap.size l := by simpa using hz
      have hcv := hz2.conv (n := l.length) (cap := l.length) HL.out (Nat.le_refl _)
      rw [List.take_of_length_le (Nat.le_refl _)] at hcv
      clear hz hz2 hb HZ
      go_wp2
      go_ret
      exact ⟨rfl, HB.out⟩

set_option maxRecDepth 100000 in
set_option maxHeartbeats 800000 in
theorem eachBody_calls (v : Value) (m : List (List Nat)) (w : World) (h : RdM w v (m.map ci)) (hl : ∀ i, i < m.length → (∀ b ∈ m.getD i [], b < 256) ∧ (m.getD i []).length ≤ 4096) (hn : m.length ≤ 24) :
    Calls Tryd.prog 17 #[v, .func (.func 18) #[] #[]] w fun e w' => ∃ v', e = .returned v' ∧ OwnT w' w.heap.size v' (m.map ofN) ∧ Below w.heap.size w w' := by
  have R := hide h
  have HL := hide hl
  obtain ⟨xs, hxs⟩ : ∃ xs, xs = m.map ofN := ⟨_, rfl⟩
  have xl : xs.length = m.length := by rw [hxs, List.length_map]
  have xg : ∀ k, k < m.length → xs.getD k ⟨#[]⟩ = ofN (m.getD k []) := fun k hk => by
    rw [hxs]
    simp only [List.getD_eq_getElem?_getD]
    rw [List.getElem?_map, List.getElem?_eq_getElem hk]
    rfl
  rw [← hxs]
  have XL := hide xl
  have XG := hide xg
  obtain ⟨a, cap, hv, m1, m2, m3⟩ := h
  rw [List.length_map] at hv
  subst hv
  clear hl hxs xl xg m1 m2 m3
  go_enter Tryd.func17, Tryd.ntmps17
  go_wp2_with (at_make; refine wpList_make_texts rfl _ _ rfl w.heap.size _ _ m.length rfl rfl (by omega) (by omega) (by omega) (Nat.le_refl _) ?_)
  intro w0 hown0 hgrow0
  have E0 := hide hown0
  have G0 := hide hgrow0
  clear hown0 hgrow0
  go_wp2
  go_loopw [6, 7, 13] (fun _ _ vi wr => ∃ k : Nat, k ≤ m.length ∧ vi = .int .i64 k ∧ wr.ownsRow w.heap.size 9 1 (.slice (some ⟨w.heap.size, 0, none⟩) m.length m.length) m.length ((cpT xs k).map Value.string) ∧ Below w.heap.size w wr) (fun _ _ vi _ => m.length - (intOf vi).toNat)
  case atStart =>
    refine ⟨0, Nat.zero_le _, rfl, ?_, (Below.refl _ _).grown G0.out (Nat.le_refl _) (fun k h => by cases h)⟩
    rw [cpT_zero, XL.out]
    have := E0.out
    unfold OwnT at this
    rwa [List.length_replicate] at this
  case round =>
    obtain ⟨k, hk, rfl, hown, hb⟩ := hrel
    have O := hide hown
    have HB := hide hb
    by_cases hlt : k < m.length
    · obtain ⟨gb, off, u, rfl, _, hc, hu⟩ := (R.out.below hb).rowAt k (by rw [List.length_map]; exact hlt)
      have hmg : (m.map ci).getD k [] = ci (m.getD k []) := by
        simp only [List.getD_eq_getElem?_getD]
        rw [List.getElem?_map, List.getElem?_eq_getElem hlt]
        rfl
      rw [hmg] at hu
      obtain ⟨q1, q2⟩ := HL.out k hlt
      have U := hide hu
      have Q1 := hide q1
      have STP := hide (cpT_step xs k (by rw [XL.out]; exact hlt))
      have XGk := hide (XG.out k hlt)
      rw [XG.out k hlt] at STP
      generalize m.getD k [] = z at U Q1 q2 STP XGk
      have hlt' : (k : Int) < (m.length : Int) := by omega
      clear hown hb hmg hu q1
      obtain ⟨ua, uc, hu2, _⟩ := U.out
      rw [Gf.ci_length] at hu2
      subst hu2
      go_wp2_with fail
      refine (bodyOf_calls _ z _ U.out Q1.out q2).mono ?_
      rintro e w1 ⟨rfl, b1⟩
      have o1 := ownsRow_below O.out b1
      have hc2 : w1.frozen? ⟨w.heap.size, k, none⟩ = false := o1.frozenAt k
      obtain ⟨old, hc3⟩ : ∃ old, w1.cell? ⟨w.heap.size, k, none⟩ = some old := by
        rw [o1.cellAt k (by omega)]
        have := cpT_length xs k (by rw [XL.out]; exact hk)
        rw [XL.out] at this
        exact ⟨_, List.getElem?_eq_getElem (by simp; omega)⟩
      have KK := hide (o1.stored k (.string (ofN z))).1
      have B1 := hide ((HB.out.trans (b1.mono HB.out.size)).setCell (p := ⟨w.heap.size, k, none⟩) (Nat.le_refl _) (.string (ofN z)))
      clear o1 b1 hc
      generalize ofN z = zz at KK B1 STP ⊢
      go_wp2
      go_roundw
      case rel =>
        refine ⟨k + 1, by omega, by go_num, ?_, B1.out⟩
        have := KK.out
        rw [← List.map_set, STP.out] at this
        exact this
      case measure => simp [intOf]; omega
    · obtain rfl : k = m.length := by omega
      clear hown hb
      have o1 := O.out
      have e := cpT_end xs
      rw [XL.out] at e
      rw [e] at o1
      have O1 := hide o1
      clear o1
      go_wp2
      go_ret
      refine ⟨_, rfl, ?_, HB.out⟩
      show World.ownsRow _ _ _ _ _ xs.length _
      rw [XL.out]
      exact O1.out
end Go.Proofs.YtdoldboefceliaaDoor

namespace Go.Proofs.YtdoldboefceliaaDoor
open Go.RowKit
/-- One integer behind a row of the call's own, and where it lies then. -/
theorem wpList_append_int1 {w : World} {ops : Array Oper} {rest : List Oper} {o : Oper} {a : Act} {Q : Exit → Act → World → Prop} (hgd : o.guard = none) (s x : Operand)
    (ho : o.op = .call { callee := .builtin .append, args := #[s, x], argTypes := #[30, 30] })
    (base : Nat) (v : Value) (n : Nat) (xs : List Int) (z : Int) (hs : a.eval s = v) (hown : w.ownsRow base 3 1 v n (xs.map (Value.int .i64))) (gx : Nat) (hx : a.eval x = .slice (some ⟨gx, 0, none⟩) 1 1) (hc : w.cell? ⟨gx, 0, none⟩ = some (.int .i64 z))
    (hm : n ≤ 1000) (hbase : base ≤ w.heap.size)
    (h : ∀ g cap w', w'.ownsRow base 3 1 (.slice (some ⟨g, 0, none⟩) (n + 1) cap) (n + 1) ((xs ++ [z]).map (Value.int .i64)) → w.grownBy w' v.ownBlock → (v.ownBlock = some g ∨ g = w.heap.size) → g < w'.heap.size → wpList Tryd.prog ops Q rest (a.put o.dst (.slice (some ⟨g, 0, none⟩) (n + 1) cap)) w') : wpList Tryd.prog ops Q (o :: rest) a w := by
  obtain ⟨i0, hi, hz0, hz1, hz2⟩ := info_parts infoInt
  refine wpList_append_lies (w := w) hgd s x _ ho base _ i0 (.int .i64 0) 1 8 Tryd.underlying30 hi hz0 hz1 hz2 rfl (by decide) v n _ hs hown ⟨gx, 0, none⟩ 1 1 ([z].map (Value.int .i64)) hx (by simp) ?_ (ints_oneCell _ _) (by decide) (by unfold maxLen; omega) (by omega) hbase _ rfl ?_
  · intro j u hu
    have : j = 0 := by
      have := (List.getElem?_eq_some_iff.1 hu).1
      simpa using this
    subst this
    simp at hu
    subst hu
    simpa [Addr.add] using hc
  · intro g cap w' h1 h2 h3 h4
    rw [← List.map_append] at h1
    exact h g cap w' h1 h2 h3 h4
end Go.Proofs.YtdoldboefceliaaDoor

namespace Go.Proofs.YtdoldboefceliaaDoor
open Go.RowKit
open Gf (ci nat)
set_option linter.unusedVariables false

/-- The k-th sixteen bytes of a block. -/
def rowN (S : ByteArray) (k : Nat) : List Nat := ((blk S).drop (16 * k)).take 16
def datM (S : ByteArray) : List (List Int) := (List.range 3).map fun k => ci (rowN S k)
def pfR (S : ByteArray) : List (List Int) × Bool := if S.size ≤ 47 then (mulM (codeM 3 2) (datM S), true) else ([], false)
theorem rowN_length {S : ByteArray} (h : S.size ≤ 47) (k : Nat) (hk : k < 3) : (rowN S k).length = 16 := by
  unfold rowN
  rw [List.length_take, List.length_drop, blk_length h]
  omega
theorem rowN_small {S : ByteArray} (h : S.size ≤ 47) (k : Nat) : ∀ b ∈ rowN S k, b < 256 := fun b hb => blk_small h b (List.mem_of_mem_drop (List.mem_of_mem_take hb))
theorem rowN_get {S : ByteArray} (h : S.size ≤ 47) (k j : Nat) (hk : k < 3) (hj : j < 16) : (rowN S k).getD j 0 = (blk S).getD (k * 16 + j) 0 := by
  unfold rowN
  simp only [List.getD_eq_getElem?_getD]
  rw [List.getElem?_take, if_pos hj, List.getElem?_drop, Nat.mul_comm]
theorem datM_length (S : ByteArray) : (datM S).length = 3 := by simp [datM]
theorem datM_get (S : ByteArray) (k : Nat) (hk : k < 3) : (datM S).getD k [] = ci (rowN S k) := by
  unfold datM
  simp only [List.getD_eq_getElem?_getD]
  rw [List.getElem?_map, List.getElem?_range hk]
  rfl
theorem ci_el {l : List Nat} (h : ∀ b ∈ l, b < 256) : (ci l).all Gf.elOk = true := by
  rw [List.all_eq_true]
  intro x hx
  unfold ci at hx
  obtain ⟨b, hb, rfl⟩ := List.mem_map.1 hx
  have := h b hb
  simp only [Gf.elOk, decide_eq_true_eq]
  omega
theorem datM_ok {S : ByteArray} (h : S.size ≤ 47) : piecesOk (datM S) = true := by
  refine piecesOk_yes fun i hi => ?_
  rw [datM_length] at hi
  unfold pieceAt
  rw [datM_get S i hi, datM_get S 0 (by omega), Gf.ci_length, Gf.ci_length, rowN_length h i hi, rowN_length h 0 (by omega), ci_el (rowN_small h i)]
  rfl
theorem pf_enc {S : ByteArray} (h : S.size ≤ 47) : encR (datM S) 2 = pfR S := by
  unfold encR pfR encOk
  rw [if_pos h, datM_ok h, datM_length, if_pos (by decide)]
  rfl
theorem pf_split {S : ByteArray} (h : S.size ≤ 47) : (splR (ofN (blk S))).1.map (fun s : ByteArray => ci (bs s)) = datM S ∧ (splR (ofN (blk S))).1.length = 3 ∧ ∀ i, i < 3 → ((splR (ofN (blk S))).1.getD i ⟨#[]⟩).size ≤ 4096 := by
  have hz : (ofN (blk S)).size = 48 := by rw [ofN_size, blk_length h]
  have hb : bs (ofN (blk S)) = blk S := bs_ofN (blk_small h)
  have e : splR (ofN (blk S)) = (pcs (ofN (blk S)) 3, true) := by
    unfold splR many
    rw [hz, if_pos (by omega)]
  rw [e]
  have hpc : ∀ k, bs (pc (ofN (blk S)) k) = rowN S k := by
    intro k
    unfold pc rowN
    rw [hb]
    exact bs_ofN (fun b hb => blk_small h b (List.mem_of_mem_drop (List.mem_of_mem_take hb)))
  refine ⟨?_, pcs_length _ _, fun i hi => ?_⟩
  · show (pcs (ofN (blk S)) 3).map _ = _
    unfold pcs datM
    rw [List.map_map]
    apply List.map_congr_left
    intro k _
    show ci (bs (pc (ofN (blk S)) k)) = _
    rw [hpc]
  · have : (pcs (ofN (blk S)) 3).getD i ⟨#[]⟩ = pc (ofN (blk S)) i := by
      unfold pcs
      simp only [List.getD_eq_getElem?_getD]
      rw [List.getElem?_map, List.getElem?_range hi]
      rfl
    show ((pcs (ofN (blk S)) 3).getD i ⟨#[]⟩).size ≤ 4096
    rw [this, pc_size]
    omega
theorem pfR_tot (S : ByteArray) : (pfR S).1.length + tot (pfR S).1 ≤ 1048576 := by
  by_cases h : S.size ≤ 47
  · rw [← pf_enc h]
    exact encR_tot _ _
  · unfold pfR
    rw [if_neg h]
    simp [tot]

set_option maxRecDepth 100000 in
theorem conv_zst (n : Nat) (W W' : World) (h : Below (W.alloc (.cells (madeCells #[.int .u8 0] n) 5)).heap.size (W.alloc (.cells (madeCells #[.int .u8 0] n) 5)) W') :
    (convert 45 9 (.slice (some ⟨W.heap.size, 0, none⟩) n n)).run Tryd.prog W' = .ok (.string (zst n)) W' := by
  have hz : ZRow W' W.heap.size (List.replicate n 0) := by
    unfold ZRow
    rw [h.block W.heap.size (by simp), heap_alloc_new]
    congr 2
    apply Array.ext'
    rw [toList_madeCells_one]
    simp [u8v]
  have := hz.conv (n := n) (cap := n) (fun y hy => by have := (List.mem_replicate.1 hy).2; omega) (by simp)
  rw [List.take_of_length_le (by simp)] at this
  rw [this]
  congr 2
  apply bs_inj
  rw [bs_zst, bs_ofN (fun y hy => by have := (List.mem_replicate.1 hy).2; omega)]

end Go.Proofs.YtdoldboefceliaaDoor

namespace Go.Proofs.YtdoldboefceliaaDoor
open Go.RowKit
set_option linter.unusedVariables false

def fl9 (xs : List ByteArray) : List Nat := xs.flatMap bs
theorem fl9_snoc (xs : List ByteArray) (k : Nat) (h : k < xs.length) : fl9 (xs.take (k + 1)) = fl9 (xs.take k) ++ bs (xs.getD k ⟨#[]⟩) := by
  unfold fl9
  rw [List.take_succ_eq_append_getElem h, List.flatMap_append, List.getD_eq_getElem?_getD, List.getElem?_eq_getElem h]
  simp
theorem fl9_small (xs : List ByteArray) : ∀ b ∈ fl9 xs, b < 256 := by
  intro b hb
  obtain ⟨s, _, hs⟩ := List.mem_flatMap.1 hb
  exact bs_lt s b hs
theorem fl9_len (xs : List ByteArray) (k : Nat) (hk : k ≤ xs.length) (h : ∀ i, i < xs.length → (xs.getD i ⟨#[]⟩).size ≤ 1048576) : (fl9 (xs.take k)).length ≤ 1048576 * k := by
  induction k with
  | zero => simp [fl9]
  | succ k ih =>
    rw [fl9_snoc xs k (by omega), List.length_append, bs_length]
    have := ih (by omega)
    have := h k (by omega)
    omega
theorem fl9_mono (xs : List ByteArray) (k : Nat) : (fl9 (xs.take k)).length ≤ (fl9 xs).length := by
  conv => rhs; rw [← List.take_append_drop k xs]
  unfold fl9
  rw [List.flatMap_append, List.length_append]
  exact Nat.le_add_right _ _
theorem szs_of {xs : List ByteArray} (h : ∀ i, i < xs.length → (xs.getD i ⟨#[]⟩).size ≤ 1048576) (k : Nat) : (xs.getD k ⟨#[]⟩).size ≤ 1048576 := by
  by_cases hk : k < xs.length
  · exact h k hk
  · rw [List.getD_eq_getElem?_getD, List.getElem?_eq_none (by omega)]
    exact Nat.zero_le _

theorem strCells_bs9 (s : ByteArray) : Go.Lib.strCells s = (bs s).map u8v := by
  unfold Go.Lib.strCells bs
  rw [List.map_map]
  rfl
theorem infoU8j : (Tryd.prog.info? 5).map (fun i => (i.zero, i.size, i.bytes)) = some (some (.int .u8 0), 1, 1) := by kernel_rfl
theorem own_conv9 {w : World} {base g n cap : Nat} {l : List Nat} (h : w.ownsRow base 5 1 (.slice (some ⟨g, 0, none⟩) n cap) n (l.map u8v)) (hl : ∀ b ∈ l, b < 256) :
    (convert 45 9 (.slice (some ⟨g, 0, none⟩) n cap)).run Tryd.prog w = .ok (.string (ofN l)) w := by
  have hn : l.length = n := by have := h.1; simpa using this
  have := run_convert_bytes_back (P := Tryd.prog) w 45 9 5 ⟨g, 0, none⟩ cap (l.map UInt8.ofNat) Tryd.underlying45 Tryd.underlying5 Tryd.underlying9 (fun j hj => by
    have hj' : j < l.length := by simpa using hj
    have hadd : (⟨g, 0, none⟩ : Addr).add j = ⟨g, 0 + j, none⟩ := by unfold Addr.add; split <;> simp_all
    rw [hadd, Nat.zero_add, World.ownsRow.cellAt h j (by omega), List.getElem?_map, List.getElem?_eq_getElem hj', List.getElem_map]
    show some (u8v l[j]) = _
    unfold u8v
    rw [UInt8.toNat_ofNat', Nat.mod_eq_of_lt (hl _ (List.getElem_mem hj'))])
  rw [List.length_map, hn] at this
  exact this

set_option maxRecDepth 100000 in
set_option maxHeartbeats 800000 in
theorem joinTexts_calls (v : Value) (xs : List ByteArray) (w : World) (h : RdT w v xs) (hn : xs.length ≤ 1048576) (hF : (fl9 xs).length ≤ 1048576) (hs : ∀ i, i < xs.length → (xs.getD i ⟨#[]⟩).size ≤ 1048576) :
    Calls Tryd.prog 33 #[v] w fun e w' => e = .returned (.string (ofN (fl9 xs))) ∧ Below w.heap.size w w' := by
  obtain ⟨a, cap, rfl, hl1, h2, h4, h3⟩ := h
  have H3 := hide h3
  have HS := hide hs
  clear h3 h4 hs hl1 h2
  obtain ⟨i0, hi, hz0, hz1, hz2⟩ := info_parts infoU8j
  have IP := hide (And.intro hi (And.intro hz0 (And.intro hz1 hz2)))
  clear hi hz0 hz1 hz2
  have O0 : Hid ((w.alloc (.cells #[] 5)).ownsRow w.heap.size 5 1 (.slice (some ⟨w.heap.size, 0, none⟩) 0 0) 0 (([] : List Nat).map u8v)) := by
    show World.ownsRow _ _ _ _ _ _ _
    have := World.ownsRow_lit (base := w.heap.size) (e := 5) (size := 1) w #[] 0 (Nat.le_refl _) (by unfold maxLen; omega) (by simp)
    simpa using this
  go_enter Tryd.func33, Tryd.ntmps33
  go_wp2
  go_loopw [3, 9] (fun vt vi wr => ∃ (k g c : Nat), k ≤ xs.length ∧ vi = .int .i64 k ∧ vt = .slice (some ⟨g, 0, none⟩) (fl9 (xs.take k)).length c ∧ wr.ownsRow w.heap.size 5 1 (.slice (some ⟨g, 0, none⟩) (fl9 (xs.take k)).length c) (fl9 (xs.take k)).length ((fl9 (xs.take k)).map u8v) ∧ Below w.heap.size w wr) (fun _ vi _ => xs.length - (intOf vi).toNat)
  case atStart => exact ⟨0, w.heap.size, 0, Nat.zero_le _, rfl, rfl, O0.out, (Below.refl _ w).alloc (Nat.le_refl _) _⟩
  case round =>
    obtain ⟨k, g, c, hk, rfl, rfl, hown, hb⟩ := hrel
    have O := hide hown
    have HB := hide hb
    have hgl : w.heap.size ≤ g := by
      rcases hown.2 with ⟨h', _⟩ | ⟨g', cap', cur, h', hbg, _⟩
      · simp at h'
      · simp at h'; omega
    have hfl := fl9_mono xs k
    by_cases hlt : k < xs.length
    · rcases H3.out with h3 | ⟨b, off, rfl, hbs, hc⟩
      · subst h3; simp at hlt
      have hc1 : wr.cell? ⟨b, off + k, none⟩ = some (.string (xs.getD k ⟨#[]⟩)) := (hb.cell (p := ⟨b, off + k, none⟩) hbs).trans (hc k hlt)
      have hz := HS.out k hlt
      have hsn := fl9_snoc xs k hlt
      obtain ⟨z, hzz⟩ : ∃ z, z = xs.getD k ⟨#[]⟩ := ⟨_, rfl⟩
      rw [← hzz] at hc1 hz hsn
      have HSN := hide hsn
      have hlt' : (k : Int) < (xs.length : Int) := by omega
      clear hzz hc hsn hown hb
      obtain ⟨m, hm2⟩ : ∃ m, m = (fl9 (xs.take k)).length := ⟨_, rfl⟩
      have HM := hide hm2
      have oo := O.out
      rw [← hm2] at oo hfl ⊢
      have OO := hide oo
      clear hm2 oo
      have hbb : w.heap.size ≤ wr.heap.size := HB.out.size
      go_wp2_with (at_builtin; refine Go.Lib.wpList_append_own_string (w := wr) rfl _ _ _ _ rfl w.heap.size 5 i0 Tryd.underlying45 Tryd.underlying9 IP.out.1 IP.out.2.1 IP.out.2.2.1 IP.out.2.2.2 _ m _ rfl OO.out z rfl (by unfold maxLen; omega) (by omega) hbb ?_)
      intro v' w2 o2 g2 hnil
      have B2 := hide (HB.out.grown g2 HB.out.size (fun j hj => by simp [Value.ownBlock] at hj; omega))
      have o3 := o2
      rw [strCells_bs9, ← List.map_append, ← HSN.out] at o3
      rcases o3.2 with ⟨h', _⟩ | ⟨g', cap', cur, h', _⟩
      · exact absurd h' hnil
      have O3 := hide o3
      have H' := hide h'
      clear o2 o3 g2 hnil h'
      go_wp2
      go_roundw
      case rel =>
        have e : (fl9 (xs.take (k + 1))).length = m + z.size := by rw [HSN.out, List.length_append, bs_length, HM.out]
        refine ⟨k + 1, g', cap', by omega, by go_num, by rw [H'.out, e], ?_, B2.out⟩
        rw [e, ← H'.out]
        exact O3.out
      case measure => simp [intOf]; omega
    · obtain rfl : k = xs.length := by omega
      have oo := O.out
      rw [List.take_length] at oo ⊢
      have hcv := own_conv9 oo (fl9_small xs)
      clear oo hown hb
      go_wp2
      go_ret
      exact ⟨rfl, HB.out⟩

abbrev jchOk (xs : List ByteArray) : Prop := xs.length ≤ 80 ∧ (fl9 xs).length ≤ 300
def jchR (xs : List ByteArray) : ByteArray × Bool := if jchOk xs then (ofN (fl9 xs), true) else (⟨#[]⟩, false)

end Go.Proofs.YtdoldboefceliaaDoor

namespace Go.Proofs.YtdoldboefceliaaDoor
open Go.RowKit
set_option linter.unusedVariables false

/-- The i-th text may stand there. -/
abbrev gd (xs : List ByteArray) (i : Nat) : Prop := (1 ≤ (xs.getD i ⟨#[]⟩).size ∧ (xs.getD i ⟨#[]⟩).size ≤ 16) ∧ (i + 1 < xs.length → (xs.getD i ⟨#[]⟩).size = 16)
abbrev joinOk (xs : List ByteArray) : Prop := (1 ≤ xs.length ∧ xs.length ≤ 10) ∧ ∀ i, i < xs.length → gd xs i
def fl (xs : List ByteArray) : List Nat := xs.flatMap bs
def jnbR (xs : List ByteArray) : ByteArray × Bool := if joinOk xs then (ofN (fl xs), true) else (⟨#[]⟩, false)
theorem fl_snoc (xs : List ByteArray) (k : Nat) (h : k < xs.length) : fl (xs.take (k + 1)) = fl (xs.take k) ++ bs (xs.getD k ⟨#[]⟩) := by
  unfold fl
  rw [List.take_succ_eq_append_getElem h, List.flatMap_append, List.getD_eq_getElem?_getD, List.getElem?_eq_getElem h]
  simp
theorem fl_small (xs : List ByteArray) : ∀ b ∈ fl xs, b < 256 := by
  intro b hb
  obtain ⟨s, _, hs⟩ := List.mem_flatMap.1 hb
  exact bs_lt s b hs
theorem fl_len (xs : List ByteArray) (k : Nat) (hk : k ≤ xs.length) (h : ∀ i, i < k → (xs.getD i ⟨#[]⟩).size ≤ 16) : (fl (xs.take k)).length ≤ 16 * k := by
  induction k with
  | zero => simp [fl]
  | succ k ih =>
    rw [fl_snoc xs k (by omega), List.length_append, bs_length]
    have := ih (by omega) (fun i hi => h i (by omega))
    have := h k (by omega)
    omega

set_option maxRecDepth 100000 in
theorem hasBodies_yes (n : Int) (w : World) (h0 : 1 ≤ n) (h1 : n ≤ 10) : Calls Tryd.prog 31 #[.int .i64 n] w fun e w' => e = .returned (.bool true) ∧ w = w' := by
  go_enter Tryd.func31, Tryd.ntmps31
  go_wp2
  go_ret
  exact ⟨rfl, rfl⟩
set_option maxRecDepth 100000 in
theorem hasBodies_no (n : Int) (w : World) (h : n < 1 ∨ 10 < n) : Calls Tryd.prog 31 #[.int .i64 n] w fun e w' => e = .returned (.bool false) ∧ w = w' := by
  rcases h with h | h
  · go_enter Tryd.func31, Tryd.ntmps31
    go_wp2
    go_ret
    exact ⟨rfl, rfl⟩
  · have h0 : 1 ≤ n := by omega
    have hd : decide (n ≤ 10) = false := decide_eq_false (by omega)
    go_enter Tryd.func31, Tryd.ntmps31
    go_wp2
    go_ret
    exact ⟨rfl, rfl⟩
set_option maxRecDepth 100000 in
theorem isFull_calls (s : ByteArray) (w : World) (hs : s.size ≤ maxLen) : Calls Tryd.prog 45 #[.string s] w fun e w' => e = .returned (.bool (decide (s.size = 16))) ∧ w = w' := by
  unfold maxLen at hs
  by_cases h : s.size = 16
  · have h' : (s.size : Int) = 16 := by omega
    go_enter Tryd.func45, Tryd.ntmps45
    go_wp2
    go_ret
    exact ⟨by simp [h], rfl⟩
  · have h' : ¬ (s.size : Int) = 16 := by omega
    have h2 : ((s.size : Int) == 16) = false := by simp; omega
    go_enter Tryd.func45, Tryd.ntmps45
    go_wp2
    go_ret
    exact ⟨by simp [h], rfl⟩

set_option maxRecDepth 100000 in
set_option maxHeartbeats 400000 in
theorem allFull_calls (v : Value) (xs : List ByteArray) (w : World) (h : RdT w v xs) :
    Calls Tryd.prog 46 #[v, .func (.func 45) #[] #[]] w fun e w' => e = .returned (.bool (decide (∀ i, i < xs.length → (xs.getD i ⟨#[]⟩).size = 16))) ∧ w = w' := by
  obtain ⟨a, cap, rfl, h1, h2, h4, h3⟩ := h
  have hm : xs.length ≤ maxLen := by omega
  unfold maxLen at hm
  have H3 := hide h3
  have H4 := hide h4
  clear h3 h4 h2 h1
  go_enter Tryd.func46, Tryd.ntmps46
  go_wp2
  go_loop [9] (fun vi => ∃ k : Nat, k ≤ xs.length ∧ vi = .int .i64 k ∧ ∀ i, i < k → (xs.getD i ⟨#[]⟩).size = 16) (fun vi => xs.length - (intOf vi).toNat)
  case atStart => exact ⟨0, Nat.zero_le _, rfl, fun i hi => by omega⟩
  case round =>
    obtain ⟨k, hk, rfl, hall⟩ := hrel
    have HA := hide hall
    clear hall
    by_cases hlt : k < xs.length
    · rcases H3.out with h3 | ⟨b, off, rfl, hbs, hc⟩
      · subst h3; simp at hlt
      have hc1 := hc k hlt
      have hz : (xs.getD k ⟨#[]⟩).size ≤ maxLen := by
        apply H4.out
        rw [List.getD_eq_getElem?_getD, List.getElem?_eq_getElem hlt]
        exact List.getElem_mem hlt
      clear hc
      obtain ⟨z, hzz⟩ : ∃ z, z = xs.getD k ⟨#[]⟩ := ⟨_, rfl⟩
      rw [← hzz] at hc1 hz
      have HZ := hide hzz
      have hlt' : (k : Int) < (xs.length : Int) := by omega
      clear hzz
      go_wp2_with fail
      refine (isFull_calls z _ hz).mono ?_
      rintro e w1 ⟨rfl, rfl⟩
      by_cases h16 : z.size = 16
      · rw [decide_eq_true h16]
        have H16 := hide h16
        clear h16
        go_wp2
        go_round
        case rel =>
          refine ⟨k + 1, by omega, by go_num, fun i hi => ?_⟩
          by_cases e : i = k
          · subst e; rw [← HZ.out]; exact H16.out
          · exact HA.out i (by omega)
        case measure => simp [intOf]; omega
      · rw [decide_eq_false h16]
        have H16 := hide h16
        clear h16
        go_wp2
        go_ret
        refine ⟨ret_bool ?_, rfl⟩
        symm
        exact decide_eq_false (fun h => H16.out (by rw [HZ.out]; exact h k hlt))
    · obtain rfl : k = xs.length := by omega
      go_wp2
      go_ret
      exact ⟨ret_bool (decide_eq_true HA.out).symm, rfl⟩

theorem getD_take (xs : List ByteArray) (n i : Nat) (h : i < n) (hn : n ≤ xs.length) : (xs.take n).getD i ⟨#[]⟩ = xs.getD i ⟨#[]⟩ := by
  rw [List.getD_eq_getElem?_getD, List.getD_eq_getElem?_getD, List.getElem?_take, if_pos h]
theorem RdT.cut {w : World} {a : Option Addr} {cap n m : Nat} {xs : List ByteArray} (h : RdT w (.slice a m cap) xs) (hn : n ≤ xs.length) : RdT w (.slice a n cap) (xs.take n) := by
  obtain ⟨a', cap', hv, h1, h2, h4, h3⟩ := h
  simp only [Value.slice.injEq] at hv
  obtain ⟨rfl, _, rfl⟩ := hv
  have el : (xs.take n).length = n := by rw [List.length_take]; omega
  refine ⟨a, cap, by rw [el], by rw [el]; omega, h2, fun s hs => h4 s (List.mem_of_mem_take hs), ?_⟩
  rcases h3 with h3 | ⟨b, off, rfl, hlt, hc⟩
  · left; subst h3; simp
  · right
    refine ⟨b, off, rfl, hlt, fun i hi => ?_⟩
    rw [el] at hi
    rw [getD_take xs n i hi hn]
    exact hc i (by omega)
theorem gd_all (xs : List ByteArray) (h1 : 1 ≤ xs.length) : (∀ i, i < xs.length → gd xs i) ↔ ((1 ≤ (xs.getD (xs.length - 1) ⟨#[]⟩).size ∧ (xs.getD (xs.length - 1) ⟨#[]⟩).size ≤ 16) ∧ ∀ i, i < (xs.take (xs.length - 1)).length → ((xs.take (xs.length - 1)).getD i ⟨#[]⟩).size = 16) := by
  have el : (xs.take (xs.length - 1)).length = xs.length - 1 := by rw [List.length_take]; omega
  rw [el]
  constructor
  · intro h
    refine ⟨(h (xs.length - 1) (by omega)).1, fun i hi => ?_⟩
    rw [getD_take xs _ i hi (by omega)]
    exact (h i (by omega)).2 (by omega)
  · rintro ⟨h2, h3⟩ i hi
    by_cases e : i = xs.length - 1
    · subst e
      exact ⟨h2, fun h => by omega⟩
    · have := h3 i (by omega)
      rw [getD_take xs _ i (by omega) (by omega)] at this
      exact ⟨by omega, fun _ => this⟩

set_option maxRecDepth 100000 in
set_option maxHeartbeats 400000 in
theorem areBodies_calls (v : Value) (xs : List ByteArray) (w : World) (h : RdT w v xs) (h1 : 1 ≤ xs.length) :
    Calls Tryd.prog 32 #[v] w fun e w' => e = .returned (.bool (decide (∀ i, i < xs.length → gd xs i))) ∧ w = w' := by
  have R := hide h
  have IFF := hide (gd_all xs h1)
  obtain ⟨a, cap, rfl, hl1, h2, h4, h3⟩ := h
  have hm : xs.length ≤ maxLen := by omega
  unfold maxLen at hm
  have hz : (xs.getD (xs.length - 1) ⟨#[]⟩).size ≤ maxLen := by
    apply h4
    rw [List.getD_eq_getElem?_getD, List.getElem?_eq_getElem (by omega)]
    exact List.getElem_mem _
  unfold maxLen at hz
  rcases h3 with h3 | ⟨b, off, rfl, hbs, hc⟩
  · subst h3; simp at h1
  have hc1 := hc (xs.length - 1) (by omega)
  obtain ⟨z, hzz⟩ : ∃ z, z = xs.getD (xs.length - 1) ⟨#[]⟩ := ⟨_, rfl⟩
  rw [← hzz] at hc1 hz
  have HZ := hide hzz
  clear hzz hc h4 h2
  have t1 : ((xs.length : Int) - 1).toNat = xs.length - 1 := by omega
  have t2 : (0 : Int) ≤ (xs.length : Int) - 1 := by omega
  have t3 : (xs.length : Int) - 1 < (xs.length : Int) := by omega
  have t4 : (xs.length : Int) - 1 ≤ (cap : Int) := by omega
  by_cases hz1 : 1 ≤ z.size
  case neg =>
    have hf : decide (∀ i, i < xs.length → gd xs i) = false := decide_eq_false (fun h => hz1 (by rw [HZ.out]; exact (IFF.out.1 h).1.1))
    have HF := hide hf
    have u1 : ¬ (1 : Int) ≤ (z.size : Int) := by omega
    clear hf
    go_enter Tryd.func32, Tryd.ntmps32
    go_wp2
    go_ret
    exact ⟨ret_bool HF.out.symm, rfl⟩
  by_cases hz2 : z.size ≤ 16
  case neg =>
    have hf : decide (∀ i, i < xs.length → gd xs i) = false := decide_eq_false (fun h => hz2 (by rw [HZ.out]; exact (IFF.out.1 h).1.2))
    have HF := hide hf
    have u1 : (1 : Int) ≤ (z.size : Int) := by omega
    have u2 : ¬ (z.size : Int) ≤ 16 := by omega
    have u3 : decide ((z.size : Int) ≤ 16) = false := decide_eq_false u2
    clear hf
    go_enter Tryd.func32, Tryd.ntmps32
    go_wp2
    go_ret
    exact ⟨ret_bool HF.out.symm, rfl⟩
  have u1 : (1 : Int) ≤ (z.size : Int) := by omega
  have u2 : (z.size : Int) ≤ 16 := by omega
  have RC := hide (R.out.cut (n := xs.length - 1) (by omega))
  have hd : Hid (decide (∀ i, i < (xs.take (xs.length - 1)).length → ((xs.take (xs.length - 1)).getD i ⟨#[]⟩).size = 16) = decide (∀ i, i < xs.length → gd xs i)) := by
    show _ = _
    refine decide_eq_decide.2 ⟨fun h => IFF.out.2 ⟨by rw [← HZ.out]; exact ⟨hz1, hz2⟩, h⟩, fun h => (IFF.out.1 h).2⟩
  generalize decide (∀ i, i < xs.length → gd xs i) = y at hd ⊢
  go_enter Tryd.func32, Tryd.ntmps32
  go_wp2_with fail
  refine (allFull_calls _ _ _ RC.out).mono ?_
  rintro e w1 ⟨rfl, rfl⟩
  rw [hd.out]
  go_wp2
  go_ret
  exact ⟨rfl, rfl⟩

theorem strCells_bs (s : ByteArray) : Go.Lib.strCells s = (bs s).map u8v := by
  unfold Go.Lib.strCells bs
  rw [List.map_map]
  rfl
theorem infoU8 : (Tryd.prog.info? 5).map (fun i => (i.zero, i.size, i.bytes)) = some (some (.int .u8 0), 1, 1) := by kernel_rfl
theorem own_conv {w : World} {base g n cap : Nat} {l : List Nat} (h : w.ownsRow base 5 1 (.slice (some ⟨g, 0, none⟩) n cap) n (l.map u8v)) (hl : ∀ b ∈ l, b < 256) :
    (convert 45 9 (.slice (some ⟨g, 0, none⟩) n cap)).run Tryd.prog w = .ok (.string (ofN l)) w := by
  have hn : l.length = n := by have := h.1; simpa using this
  have := run_convert_bytes_back (P := Tryd.prog) w 45 9 5 ⟨g, 0, none⟩ cap (l.map UInt8.ofNat) Tryd.underlying45 Tryd.underlying5 Tryd.underlying9 (fun j hj => by
    have hj' : j < l.length := by simpa using hj
    have hadd : (⟨g, 0, none⟩ : Addr).add j = ⟨g, 0 + j, none⟩ := by unfold Addr.add; split <;> simp_all
    rw [hadd, Nat.zero_add, World.ownsRow.cellAt h j (by omega), List.getElem?_map, List.getElem?_eq_getElem hj', List.getElem_map]
    show some (u8v l[j]) = _
    unfold u8v
    rw [UInt8.toNat_ofNat', Nat.mod_eq_of_lt (hl _ (List.getElem_mem hj'))])
  rw [List.length_map, hn] at this
  exact this

set_option maxRecDepth 100000 in
set_option maxHeartbeats 800000 in
theorem joinBody_calls (v : Value) (xs : List ByteArray) (w : World) (h : RdT w v xs) :
    Calls Tryd.prog 16 #[v] w fun e w' => e = .returned (.tuple #[.string (jnbR xs).1, .bool (jnbR xs).2]) ∧ Below w.heap.size w w' := by
  have R := hide h
  obtain ⟨a, cap, rfl, hl1, h2, h4, h3⟩ := h
  have hm : xs.length ≤ maxLen := by omega
  unfold maxLen at hm
  by_cases hn : 1 ≤ xs.length ∧ xs.length ≤ 10
  case neg =>
    have er : jnbR xs = (⟨#[]⟩, false) := if_neg (fun h => hn h.1)
    rw [er]
    clear er h3 h4
    go_enter Tryd.func16, Tryd.ntmps16
    go_wp2_with fail
    refine (hasBodies_no _ _ (by omega)).mono ?_
    rintro e w1 ⟨rfl, rfl⟩
    go_wp2
    go_ret2
    exact ⟨rfl, Below.refl _ _⟩
  obtain ⟨hn1, hn2⟩ := hn
  by_cases hg : ∀ i, i < xs.length → gd xs i
  case neg =>
    have er : jnbR xs = (⟨#[]⟩, false) := if_neg (fun h => hg h.2)
    have hd : Hid (decide (∀ i, i < xs.length → gd xs i) = false) := decide_eq_false hg
    rw [er]
    clear er h3 h4 hg
    go_enter Tryd.func16, Tryd.ntmps16
    go_wp2_with fail
    refine (hasBodies_yes _ _ (by omega) (by omega)).mono ?_
    rintro e w1 ⟨rfl, rfl⟩
    go_wp2_with fail
    refine (areBodies_calls _ xs _ R.out hn1).mono ?_
    rintro e w1 ⟨rfl, rfl⟩
    rw [hd.out]
    go_wp2
    go_ret2
    exact ⟨rfl, Below.refl _ _⟩
  have er : jnbR xs = (ofN (fl xs), true) := if_pos ⟨⟨hn1, hn2⟩, hg⟩
  have hd : Hid (decide (∀ i, i < xs.length → gd xs i) = true) := decide_eq_true hg
  have hF : (fl9 xs).length ≤ 160 := by
    have := fl_len xs xs.length (Nat.le_refl _) (fun i hi => (hg i hi).1.2)
    rw [List.take_length] at this
    show (fl xs).length ≤ 160
    omega
  have HF := hide hF
  have HS : Hid (∀ i, i < xs.length → (xs.getD i ⟨#[]⟩).size ≤ 1048576) := fun i hi => Nat.le_trans (hg i hi).1.2 (by decide)
  rw [er]
  clear er h3 h4 hg hF
  go_enter Tryd.func16, Tryd.ntmps16
  go_wp2_with fail
  refine (hasBodies_yes _ _ (by omega) (by omega)).mono ?_
  rintro e w1 ⟨rfl, rfl⟩
  go_wp2_with fail
  refine (areBodies_calls _ xs _ R.out hn1).mono ?_
  rintro e w1 ⟨rfl, rfl⟩
  rw [hd.out]
  go_wp2_with fail
  refine (joinTexts_calls _ xs _ R.out (by omega) (Nat.le_trans HF.out (by decide)) HS.out).mono ?_
  rintro e w1 ⟨rfl, b1⟩
  go_wp2
  go_ret2
  exact ⟨rfl, b1⟩


end Go.Proofs.YtdoldboefceliaaDoor

namespace Go.Proofs.YtdoldboefceliaaDoor
open Go.RowKit
open Gf (ci nat)
set_option linter.unusedVariables false

set_option maxRecDepth 100000 in
set_option maxHeartbeats 800000 in
theorem l8Text_calls (v : Value) (l : List Nat) (w : World) (h : Rd w v (ci l)) (hl : ∀ b ∈ l, b < 256) (hn : l.length ≤ 4096) :
    Calls Tryd.prog 25 #[v] w fun e w' => e = .returned (.string (ofN l)) ∧ Below w.heap.size w w' := by
  obtain ⟨a, cap, hv, m1, m2, m3⟩ := h
  rw [Gf.ci_length] at hv m3
  subst hv
  have M3 := hide m3
  have HL := hide hl
  clear m1 m2 m3 hl
  go_enter Tryd.func25, Tryd.ntmps25
  go_wp2
  go_loopw [3, 5, 8] (fun vs _ vi wr => ∃ k : Nat, k ≤ l.length ∧ vi = .int .i64 k ∧ vs = .string (ofN (l.take k)) ∧ Below w.heap.size w wr) (fun _ _ vi _ => l.length - (intOf vi).toNat)
  case atStart => exact ⟨0, Nat.zero_le _, rfl, rfl, Below.refl _ _⟩
  case round =>
    obtain ⟨k, hk, rfl, rfl, hb⟩ := hrel
    have HB := hide hb
    by_cases hlt : k < l.length
    · have hlt' : (k : Int) < (l.length : Int) := by omega
      rcases M3.out with h3 | ⟨b, off, rfl, hbs, hc⟩
      · have : l = [] := by simpa [ci] using h3
        rw [this] at hlt
        simp at hlt
      have hck : wr.cell? ⟨b, off + k, none⟩ = some (.int .i64 ((l.getD k 0 : Nat) : Int)) := by
        rw [← Gf.ci_getD]
        exact (hb.cell (p := ⟨b, off + k, none⟩) hbs).trans (hc k hlt)
      have hx256 : l.getD k 0 < 256 := by
        rw [List.getD_eq_getElem?_getD, List.getElem?_eq_getElem hlt]
        exact HL.out _ (List.getElem_mem hlt)
      have NX : Hid (ofN (l.take (k + 1)) = ofN (l.take k) ++ ofN [l.getD k 0]) := by
        show _ = _
        rw [ofN_append, take_snoc l k hlt]
      have tsz : (ofN (l.take k)).size ≤ 4096 := by rw [ofN_size, List.length_take]; omega
      generalize l.getD k 0 = x at hck hx256 NX
      generalize ofN (l.take k) = tt at NX tsz ⊢
      have hbt := byte_text x hx256 wr
      have hadd := run_string_add_sum (P := Tryd.prog) (w := wr.alloc (.cells #[.int .u8 (x : Int)] 5)) tt (ofN [x]) (by rw [ofN_size]; simp; omega)
      have HB2 := hide (HB.out.alloc HB.out.size (.cells #[.int .u8 (x : Int)] 5))
      clear hc hb
      go_wp2
      go_roundw
      case rel => exact ⟨k + 1, by omega, by go_num, by rw [NX.out], HB2.out⟩
      case measure => simp [intOf]; omega
    · obtain rfl : k = l.length := by omega
      rw [List.take_of_length_le (Nat.le_refl _)]
      clear hb
      go_wp2
      go_ret
      exact ⟨rfl, HB.out⟩
end Go.Proofs.YtdoldboefceliaaDoor

/-
  What a law holds in its hands, of any kind: a thing says what is so of the blocks from lo up to hi, and stays so where nothing but other blocks is changed. No condition; no call is walked here. Arguments opened: a row of texts, of integers, of Booleans, a disk, a step. No condition; no call is walked here. Disks: what the laws' own small functions do with them (copy, compare, measure, mark, look whether the marks are held), call by call. Each contract says what it asks. Disks copied, marked, and whether the marks are held, call by call. Each contract says what it asks.
-/
import Derived.Test.YtbgadbokejaomaaGreatDoorRewriteAtB6
import Derived.Test.YtbgadbokejaomaaGreatDoorRewriteAtB1
import Derived.Lib.SmallJoins
import Derived.SliceStrings
import Derived.Deep.Grids
namespace Go.Proofs.YtbgadbokejaomaaGreatDoor
open Go.RowKit
set_option linter.unusedVariables false

theorem Chg.ofSetCell {lo hi : Nat} (w : World) (g i : Nat) (v : Value) (h1 : lo ≤ g) (h2 : g < hi) : Chg lo hi w (w.setCell ⟨g, i, none⟩ v) := by
  refine ⟨rfl, rfl, rfl, ?_, fun k hk ho => ?_⟩
  · unfold World.setCell
    split <;> simp
  · exact heap_setCell_other w ⟨g, i, none⟩ k v (by simp; omega)
theorem Chg.ofAlloc {lo hi : Nat} (w : World) (o : Obj) : Chg lo hi w (w.alloc o) := Chg.ofBelow (below_box w o)
theorem ownsRow_chg {w w' : World} {lo hi a b n : Nat} {e : TypeId} {v : Value} {xs : List Value} (h : w.ownsRow lo e 1 v n xs) (ht : ∀ k, v.ownBlock = some k → k < hi) (hc : Chg a b w w') (hd : hi ≤ a ∨ b ≤ lo) : w'.ownsRow lo e 1 v n xs := by
  refine ⟨h.1, ?_⟩
  rcases h.2 with hn | ⟨g, cap, cur, rfl, hb', hg, rest⟩
  · exact .inl hn
  · have := ht g rfl
    exact .inr ⟨g, cap, cur, rfl, hb', by rw [hc.block g (Array.getElem?_eq_some_iff.1 hg).1 (by omega)]; exact hg, rest⟩
theorem ownsRow_mono {w : World} {lo lo' n : Nat} {e : TypeId} {v : Value} {xs : List Value} (h : w.ownsRow lo e 1 v n xs) (hl : lo' ≤ lo) : w.ownsRow lo' e 1 v n xs := by
  refine ⟨h.1, ?_⟩
  rcases h.2 with hn | ⟨g, cap, cur, rfl, hb', rest⟩
  · exact .inl hn
  · exact .inr ⟨g, cap, cur, rfl, Nat.le_trans hl hb', rest⟩
/-- A block of a variable's own cells. -/
def BoxAt (w : World) (g : Nat) (cs : Array Value) (T : TypeId) : Prop := w.heap[g]? = some (.cells cs T (0, 0))
theorem BoxAt.lt {w : World} {g : Nat} {cs : Array Value} {T : TypeId} (h : BoxAt w g cs T) : g < w.heap.size := (Array.getElem?_eq_some_iff.1 h).1
theorem BoxAt.chg {w w' : World} {g a b : Nat} {cs : Array Value} {T : TypeId} (h : BoxAt w g cs T) (hc : Chg a b w w') (hd : g < a ∨ b ≤ g) : BoxAt w' g cs T := by
  unfold BoxAt
  rw [hc.block g h.lt (by omega)]
  exact h
theorem BoxAt.below {w w' : World} {g : Nat} {cs : Array Value} {T : TypeId} (h : BoxAt w g cs T) (hc : Below w.heap.size w w') : BoxAt w' g cs T :=
  h.chg (Chg.ofBelow (lo := w.heap.size) (hi := w.heap.size) hc) (.inl h.lt)
theorem BoxAt.new (w : World) (cs : Array Value) (T : TypeId) : BoxAt (w.alloc (.cells cs T)) w.heap.size cs T := heap_alloc_new w _
theorem BoxAt.set {w : World} {g : Nat} {cs : Array Value} {T : TypeId} (h : BoxAt w g cs T) (i : Nat) (v : Value) : BoxAt (w.setCell ⟨g, i, none⟩ v) g (cs.setIfInBounds i v) T := heap_setCell_same w g i _ _ v h
theorem BoxAt.cell {w : World} {g : Nat} {cs : Array Value} {T : TypeId} (h : BoxAt w g cs T) (i : Nat) : w.cell? ⟨g, i, none⟩ = cs[i]? := cell_of_row w g i _ _ _ h
theorem BoxAt.frozen {w : World} {g : Nat} {cs : Array Value} {T : TypeId} (h : BoxAt w g cs T) (i : Nat) : w.frozen? ⟨g, i, none⟩ = false := frozen_of_row w g i _ _ h
theorem BoxAt.c3 {w : World} {g : Nat} {a b c : Value} {T : TypeId} (h : BoxAt w g #[a, b, c] T) : w.cell? ⟨g, 0, none⟩ = some a ∧ w.cell? ⟨g, 1, none⟩ = some b ∧ w.cell? ⟨g, 2, none⟩ = some c := ⟨h.cell 0, h.cell 1, h.cell 2⟩
theorem BoxAt.c4 {w : World} {g : Nat} {a b c d : Value} {T : TypeId} (h : BoxAt w g #[a, b, c, d] T) : w.cell? ⟨g, 0, none⟩ = some a ∧ w.cell? ⟨g, 1, none⟩ = some b ∧ w.cell? ⟨g, 2, none⟩ = some c ∧ w.cell? ⟨g, 3, none⟩ = some d := ⟨h.cell 0, h.cell 1, h.cell 2, h.cell 3⟩

theorem BoxAt.store3 {w : World} {g : Nat} {a b c : Value} {T : TypeId} (h : BoxAt w g #[a, b, c] T) (v0 v1 v2 : Value) : BoxAt (((w.setCell ⟨g, 0, none⟩ v0).setCell ⟨g, 1, none⟩ v1).setCell ⟨g, 2, none⟩ v2) g #[v0, v1, v2] T := by
  simpa using ((h.set 0 v0).set 1 v1).set 2 v2
theorem BoxAt.store4 {w : World} {g : Nat} {a b c d : Value} {T : TypeId} (h : BoxAt w g #[a, b, c, d] T) (v0 v1 v2 v3 : Value) : BoxAt ((((w.setCell ⟨g, 0, none⟩ v0).setCell ⟨g, 1, none⟩ v1).setCell ⟨g, 2, none⟩ v2).setCell ⟨g, 3, none⟩ v3) g #[v0, v1, v2, v3] T := by
  simpa using (((h.set 0 v0).set 1 v1).set 2 v2).set 3 v3
theorem Chg.store3 {lo hi : Nat} (w : World) (g : Nat) (v0 v1 v2 : Value) (h1 : lo ≤ g) (h2 : g < hi) : Chg lo hi w (((w.setCell ⟨g, 0, none⟩ v0).setCell ⟨g, 1, none⟩ v1).setCell ⟨g, 2, none⟩ v2) :=
  ((Chg.ofSetCell _ _ _ _ h1 h2).trans (Chg.ofSetCell _ _ _ _ h1 h2)).trans (Chg.ofSetCell _ _ _ _ h1 h2)
theorem Chg.store4 {lo hi : Nat} (w : World) (g : Nat) (v0 v1 v2 v3 : Value) (h1 : lo ≤ g) (h2 : g < hi) : Chg lo hi w ((((w.setCell ⟨g, 0, none⟩ v0).setCell ⟨g, 1, none⟩ v1).setCell ⟨g, 2, none⟩ v2).setCell ⟨g, 3, none⟩ v3) :=
  (Chg.store3 _ _ _ _ _ h1 h2).trans (Chg.ofSetCell _ _ _ _ h1 h2)

/-- What is new in the first world's eyes may be written besides. -/
theorem chg_new {lo hi x y : Nat} {w w1 w2 : World} (h : Chg lo hi w w1) (k : Chg x y w1 w2) (hx : w.heap.size ≤ x) : Chg lo hi w w2 :=
  ⟨k.os.trans h.os, k.tape.trans h.tape, k.output.trans h.output, Nat.le_trans h.size k.size, fun i hi' ho => (k.block i (Nat.lt_of_lt_of_le hi' h.size) (.inl (by omega))).trans (h.block i hi' ho)⟩

/-- A thing: what is so of the blocks from lo up to hi. -/
abbrev Tg := Nat → Nat → World → Prop
def Tg.st (t : Tg) : Prop := ∀ lo hi a b w w', t lo hi w → Chg a b w w' → (hi ≤ a ∨ b ≤ lo) → t lo hi w'
/-- The newest on top; each lies above what was there ahead of it. -/
def HeldG (W w : World) : Nat → List Tg → Prop
  | top, [] => W.heap.size ≤ top
  | top, t :: L => ∃ lo hi, (t.st ∧ t lo hi w) ∧ lo ≤ hi ∧ hi ≤ top ∧ HeldG W w lo L
theorem HeldG.base {W w : World} : ∀ {top : Nat} {L : List Tg}, HeldG W w top L → W.heap.size ≤ top
  | _, [], h => h
  | _, _ :: _, ⟨_, _, _, h1, h2, h⟩ => Nat.le_trans (Nat.le_trans (HeldG.base h) h1) h2
theorem HeldG.up {W w : World} {top top' : Nat} : ∀ {L : List Tg}, HeldG W w top L → top ≤ top' → HeldG W w top' L
  | [], h, hl => Nat.le_trans h hl
  | _ :: _, ⟨lo, hi, h0, h1, h2, h⟩, hl => ⟨lo, hi, h0, h1, Nat.le_trans h2 hl, h⟩
theorem HeldG.chg {W w w' : World} {a b : Nat} (hc : Chg a b w w') : ∀ {top : Nat} {L : List Tg}, HeldG W w top L → top ≤ a → HeldG W w' top L
  | _, [], h, _ => h
  | _, _ :: _, ⟨lo, hi, h0, h1, h2, h⟩, hl => ⟨lo, hi, ⟨h0.1, h0.1 _ _ _ _ _ _ h0.2 hc (.inl (by omega))⟩, h1, h2, HeldG.chg hc h (by omega)⟩
theorem HeldG.open {W w : World} : ∀ {top : Nat} {L : List Tg} {i : Nat} {t : Tg}, HeldG W w top L → L[i]? = some t →
    ∃ lo hi, t lo hi w ∧ W.heap.size ≤ lo ∧ hi ≤ top ∧ ∀ w' t', Tg.st t' → t' lo hi w' → Chg lo hi w w' → HeldG W w' top (L.set i t')
  | top, [], i, t, _, h => by simp at h
  | top, t0 :: L, 0, t, ⟨lo, hi, h0, h1, h2, h⟩, hi' => by
    simp at hi'
    subst hi'
    exact ⟨lo, hi, h0.2, h.base, h2, fun w' t' hs ht hc => ⟨lo, hi, ⟨hs, ht⟩, h1, h2, HeldG.chg hc h (Nat.le_refl _)⟩⟩
  | top, t0 :: L, i + 1, t, ⟨lo, hi, h0, h1, h2, h⟩, hi' => by
    obtain ⟨lo', hi2, ok, hb, ht, put⟩ := HeldG.open h (by simpa using hi')
    exact ⟨lo', hi2, ok, hb, by omega, fun w' t' hs ok' hc => ⟨lo, hi, ⟨h0.1, h0.1 _ _ _ _ _ _ h0.2 hc (.inr ht)⟩, h1, h2, put w' t' hs ok' hc⟩⟩
structure Hand (W w : World) (L : List Tg) : Prop where
  below : Below W.heap.size W w
  held : HeldG W w w.heap.size L
theorem Hand.start (W : World) : Hand W W [] := ⟨Below.refl _ _, Nat.le_refl _⟩
theorem Hand.step {W w w' : World} {L : List Tg} (h : Hand W w L) (hb : Below w.heap.size w w') : Hand W w' L :=
  ⟨h.below.trans (hb.mono h.below.size), (HeldG.chg (a := w.heap.size) (b := w.heap.size) (Chg.ofBelow hb) h.held (Nat.le_refl _)).up hb.size⟩
theorem Hand.add {W w w' : World} {L : List Tg} {t : Tg} (h : Hand W w L) (hb : Below w.heap.size w w') (hs : t.st) (ho : t w.heap.size w'.heap.size w') : Hand W w' (t :: L) :=
  ⟨(h.step hb).below, w.heap.size, w'.heap.size, ⟨hs, ho⟩, hb.size, Nat.le_refl _, HeldG.chg (a := w.heap.size) (b := w.heap.size) (Chg.ofBelow hb) h.held (Nat.le_refl _)⟩
theorem Hand.open {W w : World} {L : List Tg} {t : Tg} (h : Hand W w L) (i : Nat) (hi : L[i]? = some t) :
    ∃ lo hi, t lo hi w ∧ W.heap.size ≤ lo ∧ hi ≤ w.heap.size ∧ ∀ w' t', Tg.st t' → t' lo hi w' → Chg lo hi w w' → Hand W w' (L.set i t') := by
  obtain ⟨lo, hi', ok, hb, ht, put⟩ := HeldG.open h.held hi
  exact ⟨lo, hi', ok, hb, ht, fun w' t' hs ok' hc => ⟨h.below.trans (hc.below hb h.below.size), (put w' t' hs ok' hc).up hc.size⟩⟩
theorem Hand.get {W w : World} {L : List Tg} {t : Tg} (h : Hand W w L) (i : Nat) (hi : L[i]? = some t) : ∃ lo hi, t lo hi w := by
  obtain ⟨lo, hi', ok, _⟩ := h.open i hi
  exact ⟨lo, hi', ok⟩

/-- A variable's block. -/
def TBox (g : Nat) (cs : Array Value) (T : TypeId) : Tg := fun lo hi w => lo ≤ g ∧ g < hi ∧ BoxAt w g cs T
theorem TBox.st (g : Nat) (cs : Array Value) (T : TypeId) : (TBox g cs T).st := by
  intro lo hi a b w w' h hc hd
  obtain ⟨h1, h2, h3⟩ := h
  exact ⟨h1, h2, h3.chg hc (by omega)⟩
theorem Hand.box {W w : World} {L : List Tg} (h : Hand W w L) (cs : Array Value) (T : TypeId) : Hand W (w.alloc (.cells cs T)) (TBox w.heap.size cs T :: L) :=
  h.add (below_box w _) (TBox.st _ _ _) ⟨Nat.le_refl _, by simp, BoxAt.new w cs T⟩
theorem Hand.atBox {W w : World} {L : List Tg} {g : Nat} {cs : Array Value} {T : TypeId} (h : Hand W w L) (i : Nat) (hi : L[i]? = some (TBox g cs T)) : BoxAt w g cs T := by
  obtain ⟨_, _, _, _, h⟩ := h.get i hi
  exact h
/-- Rows of the call's own. -/
def TInts (v : Value) (xs : List Int) : Tg := fun lo hi w => Own w lo v xs ∧ ∀ k, v.ownBlock = some k → k < hi
theorem TInts.st (v : Value) (xs : List Int) : (TInts v xs).st := fun lo hi a b w w' h hc hd => ⟨ownsRow_chg h.1 h.2 hc hd, h.2⟩
def TBols (v : Value) (xs : List Bool) : Tg := fun lo hi w => OwnZ w lo v xs ∧ ∀ k, v.ownBlock = some k → k < hi
theorem TBols.st (v : Value) (xs : List Bool) : (TBols v xs).st := fun lo hi a b w w' h hc hd => ⟨ownsRow_chg h.1 h.2 hc hd, h.2⟩
theorem row_top {w : World} {lo n : Nat} {e : TypeId} {v : Value} {xs : List Value} (h : w.ownsRow lo e 1 v n xs) : ∀ k, v.ownBlock = some k → k < w.heap.size := fun k hk => (World.ownsRow.lt h k hk).2
theorem row_low {w : World} {lo n : Nat} {e : TypeId} {v : Value} {xs : List Value} (h : w.ownsRow lo e 1 v n xs) : ∀ k, v.ownBlock = some k → lo ≤ k := fun k hk => (World.ownsRow.lt h k hk).1

theorem row_slice {w : World} {lo n : Nat} {e : TypeId} {v : Value} {xs : List Value} (h : w.ownsRow lo e 1 v n xs) : ∃ a cap, v = .slice a n cap := by
  rcases h.2 with ⟨rfl, h0⟩ | ⟨g, cap, cur, rfl, hb, _⟩
  · exact ⟨none, 0, by rw [h0]⟩
  · exact ⟨_, cap, rfl⟩

theorem RdT.small {w : World} {v : Value} {xs : List ByteArray} (h : RdT w v xs) : ∀ s ∈ xs, s.size ≤ maxLen := by
  obtain ⟨a, cap, rfl, h1, h2, h4, h3⟩ := h
  exact h4

/-- A disk of the call's own: three rows, in blocks from lo up to hi. -/
structure DskV (w : World) (lo hi : Nat) (p h b : Value) (P H : List ByteArray) (B : List Bool) : Prop where
  plate : OwnT w lo p P
  held : OwnT w lo h H
  bad : OwnZ w lo b B
  tp : ∀ k, p.ownBlock = some k → k < hi
  th : ∀ k, h.ownBlock = some k → k < hi
  tb : ∀ k, b.ownBlock = some k → k < hi
  ph : p.ownBlock = none ∨ p.ownBlock ≠ h.ownBlock
  sp : ∀ s ∈ P, s.size ≤ maxLen
  sh : ∀ s ∈ H, s.size ≤ maxLen
theorem DskV.chg {w w' : World} {lo hi x y : Nat} {p h b : Value} {P H : List ByteArray} {B : List Bool} (d : DskV w lo hi p h b P H B) (hc : Chg x y w w') (hd : hi ≤ x ∨ y ≤ lo) : DskV w' lo hi p h b P H B :=
  ⟨ownsRow_chg d.plate d.tp hc hd, ownsRow_chg d.held d.th hc hd, ownsRow_chg d.bad d.tb hc hd, d.tp, d.th, d.tb, d.ph, d.sp, d.sh⟩
theorem DskV.below {w w' : World} {lo hi : Nat} {p h b : Value} {P H : List ByteArray} {B : List Bool} (d : DskV w lo hi p h b P H B) (hb : Below w.heap.size w w') : DskV w' lo hi p h b P H B :=
  ⟨ownsRow_below d.plate hb, ownsRow_below d.held hb, ownsRow_below d.bad hb, d.tp, d.th, d.tb, d.ph, d.sp, d.sh⟩
theorem DskV.wider {w : World} {lo hi lo' hi' : Nat} {p h b : Value} {P H : List ByteArray} {B : List Bool} (d : DskV w lo hi p h b P H B) (h1 : lo' ≤ lo) (h2 : hi ≤ hi') : DskV w lo' hi' p h b P H B :=
  ⟨ownsRow_mono d.plate h1, ownsRow_mono d.held h1, ownsRow_mono d.bad h1, fun k hk => Nat.lt_of_lt_of_le (d.tp k hk) h2, fun k hk => Nat.lt_of_lt_of_le (d.th k hk) h2, fun k hk => Nat.lt_of_lt_of_le (d.tb k hk) h2, d.ph, d.sp, d.sh⟩
theorem DskV.sl {w : World} {lo hi : Nat} {p h b : Value} {P H : List ByteArray} {B : List Bool} (d : DskV w lo hi p h b P H B) : ∃ ap cp ah ch ab cb, p = .slice ap P.length cp ∧ h = .slice ah H.length ch ∧ b = .slice ab B.length cb := by
  obtain ⟨ap, cp, rfl⟩ := row_slice d.plate
  obtain ⟨ah, ch, rfl⟩ := row_slice d.held
  obtain ⟨ab, cb, rfl⟩ := row_slice d.bad
  exact ⟨ap, cp, ah, ch, ab, cb, rfl, rfl, rfl⟩
theorem DskV.rp {w : World} {lo hi : Nat} {p h b : Value} {P H : List ByteArray} {B : List Bool} (d : DskV w lo hi p h b P H B) : RdT w p P := OwnT.rd d.plate d.sp
theorem DskV.rh {w : World} {lo hi : Nat} {p h b : Value} {P H : List ByteArray} {B : List Bool} (d : DskV w lo hi p h b P H B) : RdT w h H := OwnT.rd d.held d.sh
theorem DskV.rb {w : World} {lo hi : Nat} {p h b : Value} {P H : List ByteArray} {B : List Bool} (d : DskV w lo hi p h b P H B) : RdZ w b B := OwnZ.rd d.bad
theorem DskV.nil (w : World) (lo hi : Nat) : DskV w lo hi (.slice none 0 0) (.slice none 0 0) (.slice none 0 0) [] [] [] :=
  ⟨World.ownsRow_nil _ _ _ _, World.ownsRow_nil _ _ _ _, World.ownsRow_nil _ _ _ _, fun k hk => by simp [Value.ownBlock] at hk, fun k hk => by simp [Value.ownBlock] at hk, fun k hk => by simp [Value.ownBlock] at hk, .inl rfl, by simp, by simp⟩
def TDsk (p h b : Value) (P H : List ByteArray) (B : List Bool) : Tg := fun lo hi w => DskV w lo hi p h b P H B
theorem TDsk.st (p h b : Value) (P H : List ByteArray) (B : List Bool) : (TDsk p h b P H B).st := fun lo hi x y w w' d hc hd => d.chg hc hd
/-- A row of Booleans and a row of texts lie in unlike blocks. -/
theorem bol_txt {w : World} {lo lo' n k : Nat} {v u : Value} {xs ys : List Value} (h : w.ownsRow lo 4 1 v n xs) (h' : w.ownsRow lo' 9 1 u k ys) : (v.ownBlock = none ∨ v.ownBlock ≠ u.ownBlock) ∧ (u.ownBlock = none ∨ u.ownBlock ≠ v.ownBlock) := by
  rcases h.2 with ⟨rfl, _⟩ | ⟨g, cap, cur, rfl, _, hg, _⟩
  · refine ⟨.inl rfl, ?_⟩
    cases hu : u.ownBlock with
    | none => exact .inl rfl
    | some x => right; simp [Value.ownBlock]
  rcases h'.2 with ⟨rfl, _⟩ | ⟨g', cap', cur', rfl, _, hg', _⟩
  · exact ⟨.inr (by simp [Value.ownBlock]), .inl rfl⟩
  · have hne : g ≠ g' := by
      intro e
      subst e
      rw [hg] at hg'
      simp at hg'
    exact ⟨.inr (by simpa [Value.ownBlock] using hne), .inr (by simpa [Value.ownBlock] using fun e : g' = g => hne e.symm)⟩
/-- One row is written. -/
theorem DskV.setP {w w' : World} {lo hi : Nat} {p h b : Value} {P H P' : List ByteArray} {B : List Bool} (d : DskV w lo hi p h b P H B) (ho : OwnT w' lo p P') (hs : ∀ s ∈ P', s.size ≤ maxLen) (hg : w.grownBy w' p.ownBlock) : DskV w' lo hi p h b P' H B :=
  ⟨ho, World.ownsRow.kept d.held hg (by
      rcases d.ph with e | e
      · cases hh : h.ownBlock with
        | none => exact .inl rfl
        | some x => right; rw [e]; simp
      · exact .inr (fun h' => e h'.symm)), World.ownsRow.kept d.bad hg (bol_txt d.bad d.plate).1, d.tp, d.th, d.tb, d.ph, hs, d.sh⟩
theorem DskV.setH {w w' : World} {lo hi : Nat} {p h b : Value} {P H H' : List ByteArray} {B : List Bool} (d : DskV w lo hi p h b P H B) (ho : OwnT w' lo h H') (hs : ∀ s ∈ H', s.size ≤ maxLen) (hg : w.grownBy w' h.ownBlock) : DskV w' lo hi p h b P H' B :=
  ⟨World.ownsRow.kept d.plate hg d.ph, ho, World.ownsRow.kept d.bad hg (bol_txt d.bad d.held).1, d.tp, d.th, d.tb, d.ph, d.sp, hs⟩
theorem DskV.setB {w w' : World} {lo hi : Nat} {p h b : Value} {P H : List ByteArray} {B B' : List Bool} (d : DskV w lo hi p h b P H B) (ho : OwnZ w' lo b B') (hg : w.grownBy w' b.ownBlock) : DskV w' lo hi p h b P H B' :=
  ⟨World.ownsRow.kept d.plate hg (bol_txt d.bad d.plate).2, World.ownsRow.kept d.held hg (bol_txt d.bad d.held).2, ho, d.tp, d.th, d.tb, d.ph, d.sp, d.sh⟩
theorem DskV.chgP {w w' : World} {lo hi : Nat} {p h b : Value} {P H : List ByteArray} {B : List Bool} (d : DskV w lo hi p h b P H B) (hg : w.grownBy w' p.ownBlock) : Chg lo hi w w' := Chg.ofGrown hg (fun k hk => ⟨row_low d.plate k hk, d.tp k hk⟩)
theorem DskV.chgH {w w' : World} {lo hi : Nat} {p h b : Value} {P H : List ByteArray} {B : List Bool} (d : DskV w lo hi p h b P H B) (hg : w.grownBy w' h.ownBlock) : Chg lo hi w w' := Chg.ofGrown hg (fun k hk => ⟨row_low d.held k hk, d.th k hk⟩)
theorem DskV.chgB {w w' : World} {lo hi : Nat} {p h b : Value} {P H : List ByteArray} {B : List Bool} (d : DskV w lo hi p h b P H B) (hg : w.grownBy w' b.ownBlock) : Chg lo hi w w' := Chg.ofGrown hg (fun k hk => ⟨row_low d.bad k hk, d.tb k hk⟩)
end Go.Proofs.YtbgadbokejaomaaGreatDoor

namespace Go.Proofs.YtbgadbokejaomaaGreatDoor.Frame
open Go.ChangeShapes Go.WideShapes Go.ChangeAt Go.RowKit
set_option linter.unusedVariables false
section
variable {H : Type} {enc : TypeId × Value → H} {W : World}

theorem rdT_of {n : Nat} {v : Value} {y : DataW H × List MemPlace} (h : DataW.trod enc Tryz.prog W 0 (fun _ => true) true n 22 [v] = some y) : ∃ xs, RdT W v xs := by
  rcases open_strings Tryz.underlying22 Tryz.underlying9 (by kernel_rfl) h with ⟨hcs, _⟩ | ⟨x, l, c, ss, hcs, _, hl, hm, hz, hx, hcell, hwz⟩
  · simp only [List.cons.injEq, and_true] at hcs
    subst hcs
    exact ⟨[], rdT_nil W⟩
  · simp only [List.cons.injEq, and_true] at hcs
    subst hcs
    exact ⟨_, rdT_open hl hm (by simpa using hz) hcell hwz⟩
theorem rd_open {w : World} {x : Addr} {len cap : Nat} {zs : List Int} (hl : len ≤ cap) (hm : cap ≤ maxLen) (hz : zs.length = cap)
    (hcell : ∀ i, i < zs.length → w.cell? (x.add i) = some (.int .i64 (zs.getD i 0))) : Rd w (.slice (some x) len cap) (zs.take len) := by
  obtain ⟨b, off, sp⟩ := x
  have el : (zs.take len).length = len := by rw [List.length_take]; omega
  refine ⟨_, cap, by rw [el], by rw [el]; exact hl, ⟨hm, fun h => by cases h⟩, ?_⟩
  by_cases h0 : len = 0
  · left
    subst h0
    rfl
  · right
    have h00 := hcell 0 (by omega)
    obtain rfl : sp = none := by simpa [Addr.add] using World.cell?_spot h00
    refine ⟨b, off, rfl, ?_, ?_⟩
    · have : w.cell? ⟨b, off, none⟩ = some (.int .i64 (zs.getD 0 0)) := by simpa [Addr.add] using h00
      unfold World.cell? at this
      cases hh : w.heap[b]? with
      | none => simp [hh] at this
      | some o => exact (Array.getElem?_eq_some_iff.1 hh).1
    · intro i hi
      rw [el] at hi
      have := hcell i (by omega)
      have hadd : (⟨b, off, none⟩ : Addr).add i = ⟨b, off + i, none⟩ := by unfold Addr.add; split <;> simp_all
      rw [hadd] at this
      rw [this]
      have hiz : i < zs.length := by omega
      simp only [List.getD_eq_getElem?_getD, List.getElem?_take, if_pos hi, List.getElem?_eq_getElem hiz, Option.getD_some]
theorem rd_of {n : Nat} {v : Value} {y : DataW H × List MemPlace} (h : DataW.trod enc Tryz.prog W 0 (fun _ => true) true n 27 [v] = some y) : ∃ xs, Rd W v xs := by
  rcases open_ints Tryz.underlying27 Tryz.underlying3 (by kernel_rfl) h with ⟨hcs, _⟩ | ⟨x, l, c, ss, hcs, _, hl, hm, hz, hx, hcell, hwz⟩
  · simp only [List.cons.injEq, and_true] at hcs
    subst hcs
    exact ⟨[], ⟨none, 0, rfl, Nat.le_refl _, ⟨Nat.zero_le _, fun _ => rfl⟩, .inl rfl⟩⟩
  · simp only [List.cons.injEq, and_true] at hcs
    subst hcs
    exact ⟨_, rd_open hl hm (by simpa using hz) hcell⟩
theorem rdZ_open {w : World} {x : Addr} {len cap : Nat} {B : Nat → Bool} (hl : len ≤ cap) (hm : cap ≤ maxLen)
    (hcell : ∀ i, i < cap → w.cell? (x.add i) = some (.bool (B i))) : RdZ w (.slice (some x) len cap) ((List.range len).map B) := by
  obtain ⟨b, off, sp⟩ := x
  have el : ((List.range len).map B).length = len := by simp
  refine ⟨_, cap, by rw [el], by rw [el]; exact hl, ⟨hm, fun h => by cases h⟩, ?_⟩
  by_cases h0 : len = 0
  · left
    subst h0
    rfl
  · right
    have h00 := hcell 0 (by omega)
    obtain rfl : sp = none := by simpa [Addr.add] using World.cell?_spot h00
    refine ⟨b, off, rfl, ?_, ?_⟩
    · have : w.cell? ⟨b, off, none⟩ = some (.bool (B 0)) := by simpa [Addr.add] using h00
      unfold World.cell? at this
      cases hh : w.heap[b]? with
      | none => simp [hh] at this
      | some o => exact (Array.getElem?_eq_some_iff.1 hh).1
    · intro i hi
      rw [el] at hi
      have := hcell i (by omega)
      have hadd : (⟨b, off, none⟩ : Addr).add i = ⟨b, off + i, none⟩ := by unfold Addr.add; split <;> simp_all
      rw [hadd] at this
      rw [this]
      simp [hi]
theorem rdZ_of {n : Nat} {v : Value} {y : DataW H × List MemPlace} (h : DataW.trod enc Tryz.prog W 0 (fun _ => true) true n 24 [v] = some y) : ∃ xs, RdZ W v xs := by
  rcases Go.Deep.open_bools Tryz.underlying24 Tryz.underlying4 (by kernel_rfl) h with ⟨hcs, _⟩ | ⟨x, l, c, B, hcs, _, hl, hm, hx, hcell⟩
  · simp only [List.cons.injEq, and_true] at hcs
    subst hcs
    exact ⟨[], rdZ_nil W⟩
  · simp only [List.cons.injEq, and_true] at hcs
    subst hcs
    exact ⟨_, rdZ_open hl hm hcell⟩
end
end Go.Proofs.YtbgadbokejaomaaGreatDoor.Frame

namespace Go.Proofs.YtbgadbokejaomaaGreatDoor
open Go.RowKit
set_option linter.unusedVariables false

set_option maxRecDepth 100000 in
set_option maxHeartbeats 400000 in
theorem szStringS_any (v : Value) (xs : List ByteArray) (l : Int) (w : World) (h : RdT w v xs) (hl0 : 0 ≤ l) (hl1 : l ≤ 1048576) :
    Calls Tryz.prog 13 #[v, .int .i64 l] w fun e w' => (∃ r : Int, e = .returned (.int .i64 r) ∧ (r < 0 ∨ (0 ≤ r ∧ r ≤ 1048576 ∧ xs.length ≤ 1048576))) ∧ w = w' := by
  obtain ⟨a, cap, rfl, h1, h2, h4, h3⟩ := h
  have hm : xs.length ≤ maxLen := by omega
  unfold maxLen at hm
  have H3 := hide h3
  have H4 := hide h4
  clear h3 h4 h2 h1
  by_cases hn : (xs.length : Int) ≤ l
  case neg =>
    have hn' : l - (xs.length : Int) < 0 := by omega
    go_enter Tryz.func13, Tryz.ntmps13
    go_wp2
    go_ret
    exact ⟨⟨-1, rfl, .inl (by decide)⟩, rfl⟩
  have hn' : ¬ l - (xs.length : Int) < 0 := by omega
  go_enter Tryz.func13, Tryz.ntmps13
  go_wp2
  go_loop [1, 5] (fun vl vi => ∃ (k : Nat) (l : Int), k ≤ xs.length ∧ vi = .int .i64 k ∧ vl = .int .i64 l ∧ 0 ≤ l ∧ l ≤ 1048576) (fun _ vi => xs.length - (intOf vi).toNat)
  case atStart => exact ⟨0, _, Nat.zero_le _, rfl, rfl, by omega, by omega⟩
  case round =>
    obtain ⟨k, l2, hk, rfl, rfl, hl0, hl1⟩ := hrel
    by_cases hlt : k < xs.length
    · rcases H3.out with h3 | ⟨b, off, rfl, hbs, hc⟩
      · subst h3; simp at hlt
      have hc1 := hc k hlt
      have hz : (xs.getD k ⟨#[]⟩).size ≤ maxLen := by
        apply H4.out
        rw [List.getD_eq_getElem?_getD, List.getElem?_eq_getElem hlt]
        exact List.getElem_mem hlt
      unfold maxLen at hz
      clear hc
      generalize xs.getD k ⟨#[]⟩ = z at hc1 hz
      by_cases hle : (z.size : Int) ≤ l2
      · have t1 : ¬ l2 - (z.size : Int) < 0 := by omega
        go_wp2
        go_round
        case rel => exact ⟨k + 1, _, by omega, by go_num, rfl, by omega, by omega⟩
        case measure => simp [intOf]; omega
      · have t1 : l2 - (z.size : Int) < 0 := by omega
        go_wp2
        go_ret
        exact ⟨⟨-1, rfl, .inl (by decide)⟩, rfl⟩
    · obtain rfl : k = xs.length := by omega
      go_wp2
      go_ret
      exact ⟨⟨l2, rfl, Or.inr ⟨hl0, hl1, by omega⟩⟩, rfl⟩

/-- What a disk's measure tells. -/
def SzD (P H : List ByteArray) (B : List Bool) : Prop := P.length ≤ 1048576 ∧ H.length ≤ 1048576 ∧ B.length ≤ 1048576

set_option maxRecDepth 100000 in
set_option maxHeartbeats 800000 in
theorem szDisk_calls (p h b : Value) (P H : List ByteArray) (B : List Bool) (w : World) (hp : RdT w p P) (hh : RdT w h H) (hb : RdZ w b B) :
    Calls Tryz.prog 46 #[.agg #[p, h, b], .int .i64 1048576] w fun e w' => (∃ r : Int, e = .returned (.int .i64 r) ∧ (r < 0 ∨ (0 ≤ r ∧ r ≤ 1048576 ∧ SzD P H B))) ∧ Below w.heap.size w w' := by
  have b0 := below_box w (.cells #[p, h, b] 37)
  have RP := hide (hp.below b0)
  have RH := hide (hh.below b0)
  have RB := hide (hb.below b0)
  clear hp hh hb
  have C : Hid (BoxAt _ _ _ _) := hide (BoxAt.new w #[p, h, b] 37)
  have B0 := hide b0
  clear b0
  go_enter Tryz.func46, Tryz.ntmps46
  go_wp2_with fail
  refine (szStringS_any _ P _ _ RP.out (by decide) (by decide)).mono ?_
  rintro e w1 ⟨⟨r, rfl, hr⟩, rfl⟩
  by_cases r0 : r < 0
  · go_wp2
    go_ret
    exact ⟨⟨-1, rfl, .inl (by decide)⟩, B0.out⟩
  have hrP := hide (hr.resolve_left r0)
  have r1 := hrP.out.2.1
  clear hr
  go_wp2_with fail
  refine (szStringS_any _ H _ _ RH.out (by omega) (by omega)).mono ?_
  rintro e w1 ⟨⟨r2, rfl, hr⟩, rfl⟩
  clear r0 r1
  by_cases r0 : r2 < 0
  · go_wp2
    go_ret
    exact ⟨⟨-1, rfl, .inl (by decide)⟩, B0.out⟩
  have hrH := hide (hr.resolve_left r0)
  have r1 := hrH.out.2.1
  clear hr
  go_wp2_with fail
  refine (szBoolS_calls _ B _ _ RB.out (by omega) (by omega)).mono ?_
  rintro e w1 ⟨⟨r3, rfl, hr⟩, rfl⟩
  clear r0 r1
  by_cases r0 : r3 < 0
  · go_wp2
    go_ret
    exact ⟨⟨-1, rfl, .inl (by decide)⟩, B0.out⟩
  have hrB := hide (hr.resolve_left r0)
  clear hr
  go_wp2
  go_ret
  exact ⟨⟨r3, rfl, .inr ⟨hrB.out.1, hrB.out.2.1, hrP.out.2.2, hrH.out.2.2, hrB.out.2.2⟩⟩, B0.out⟩

set_option maxRecDepth 100000 in
set_option maxHeartbeats 800000 in
theorem eqDisk_same (p h b p' h' b' : Value) (P H : List ByteArray) (B : List Bool) (w : World) (hp : RdT w p P) (hh : RdT w h H) (hb : RdZ w b B) (hp' : RdT w p' P) (hh' : RdT w h' H) (hb' : RdZ w b' B) :
    Calls Tryz.prog 50 #[.agg #[p, h, b], .agg #[p', h', b']] w fun e w' => e = .returned (.bool true) ∧ Below w.heap.size w w' := by
  have b0 := (below_box w (.cells #[p, h, b] 26)).trans ((below_box (w.alloc (.cells #[p, h, b] 26)) (.cells #[p', h', b'] 26)).mono (by simp))
  have RP := hide (hp.below b0)
  have RH := hide (hh.below b0)
  have RB := hide (hb.below b0)
  have RP' := hide (hp'.below b0)
  have RH' := hide (hh'.below b0)
  have RB' := hide (hb'.below b0)
  clear hp hh hb hp' hh' hb'
  have B0 := hide b0
  clear b0
  go_enter Tryz.func50, Tryz.ntmps50
  go_wp2_with fail
  refine (eqStringS_same _ _ P _ RP.out RP'.out).mono ?_
  rintro e w1 ⟨rfl, b1⟩
  have x1 := BoxAt.below (hide (BoxAt.new w #[p, h, b] 26)).out ((below_box _ (.cells #[p', h', b'] 26)).trans (b1.mono (by simp)))
  have y1 := BoxAt.below (BoxAt.new (w.alloc (.cells #[p, h, b] 26)) #[p', h', b'] 26) b1
  have X1 := hide x1
  have Y1 := hide y1
  obtain ⟨c0, c1, c2⟩ := x1.c3
  obtain ⟨d0, d1, d2⟩ := y1.c3
  simp only [World.size_alloc] at d0 d1 d2
  have D1 := hide b1
  clear b1 c0 d0 c2 d2 x1 y1
  go_wp2_with fail
  refine (eqStringS_same _ _ H _ (RH.out.below D1.out) (RH'.out.below D1.out)).mono ?_
  rintro e w2 ⟨rfl, b2⟩
  clear c1 d1
  have D2 := hide (D1.out.trans (b2.mono D1.out.size))
  obtain ⟨c0, c1, c2⟩ := (X1.out.below b2).c3
  obtain ⟨d0, d1, d2⟩ := (Y1.out.below b2).c3
  simp only [World.size_alloc] at d0 d1 d2
  clear b2 c0 d0 c1 d1
  go_wp2_with fail
  refine (eqBoolS_same _ _ B _ (RB.out.below D2.out) (RB'.out.below D2.out)).mono ?_
  rintro e w3 ⟨rfl, b3⟩
  clear c2 d2
  have D3 := hide (D2.out.trans (b3.mono D2.out.size))
  clear b3
  go_wp2
  go_ret
  exact ⟨rfl, B0.out.trans (D3.out.mono B0.out.size)⟩
end Go.Proofs.YtbgadbokejaomaaGreatDoor

namespace Go.Proofs.YtbgadbokejaomaaGreatDoor
open Go.RowKit
set_option linter.unusedVariables false

theorem dskInfo : (Tryz.prog.info? 26).map (·.size) = some 3 := by kernel_rfl
/-- A function whose result is a disk that lies in a cell. -/
theorem res_dsk {fn : Func} {x : Tmp} (hf : fn.results = #[.cell x 26]) (tmps : Array Value) (w : World) (g : Nat) (p h b : Value) (fr : Nat × Nat) (hp : tmps.getD x undef = .pointer (some ⟨g, 0, none⟩))
    (hg : w.heap[g]? = some (.cells #[p, h, b] 26 fr)) : (results fn tmps).run Tryz.prog w = .ok (.agg #[p, h, b]) w :=
  results_cell_row hf tmps w g _ _ fr _ hp hg Tryz.underlying26 rfl dskInfo
theorem res_dsk2 {fn : Func} {x u : Tmp} (hf : fn.results = #[.cell x 26, .tmp u]) (tmps : Array Value) (w : World) (g : Nat) (p h b : Value) (fr : Nat × Nat) (hp : tmps.getD x undef = .pointer (some ⟨g, 0, none⟩))
    (hg : w.heap[g]? = some (.cells #[p, h, b] 26 fr)) : (results fn tmps).run Tryz.prog w = .ok (.tuple #[.agg #[p, h, b], tmps.getD u undef]) w := by
  have hp' : tmps[x]?.getD undef = .pointer (some ⟨g, 0, none⟩) := by simpa using hp
  simp [results, hf, hp', asAddr, run_loadVar_row w g _ _ _ fr _ hg Tryz.underlying26 rfl dskInfo]
set_option maxRecDepth 100000 in
set_option maxHeartbeats 800000 in
theorem markDisk_calls (p h b : Value) (P H : List ByteArray) (B : List Bool) (k lo hi : Nat) (w : World) (d : DskV w lo hi p h b P H B) (hhi : hi ≤ w.heap.size) (hk0 : 0 < k) (hk : k ≤ 100000000) (hz : SzD P H B) :
    Calls Tryz.prog 51 #[.agg #[p, h, b], .int .i64 k] w fun e w' => e = .returned (.int .i64 ((k + P.length + H.length + B.length : Nat) : Int)) ∧
      DskV w' lo hi p h b (marksT k P.length) (marksT (k + P.length) H.length) (marksZ ((k + P.length + H.length : Nat) : Int) B.length) ∧ Chg lo hi w w' := by
  obtain ⟨zp, zh, zb⟩ := hz
  have D0 := hide (d.below (below_box w (.cells #[p, h, b] 26)))
  have C0 : Hid (Chg lo hi w (w.alloc (.cells #[p, h, b] 26))) := Chg.ofAlloc w _
  have X0 := hide (BoxAt.new w #[p, h, b] 26)
  clear d
  obtain ⟨n1, e1⟩ : ∃ n, n = k + P.length := ⟨_, rfl⟩
  obtain ⟨n2, e2⟩ : ∃ n, n = n1 + H.length := ⟨_, rfl⟩
  rw [← e1, ← e2]
  have b1 : n1 ≤ 101048576 := by omega
  have b2 : n2 ≤ 102097152 := by omega
  have p1 : 0 < n1 := by omega
  have p2 : 0 < n2 := by omega
  have E1 := hide e1
  have E2 := hide e2
  clear e1 e2
  go_enter Tryz.func51, Tryz.ntmps51
  go_wp2_with fail
  refine (markStringS_calls _ P k lo _ D0.out.plate hk0 (by omega) zp).mono ?_
  rintro e w1 ⟨rfl, o1, g1⟩
  have C1 := hide (C0.out.trans (D0.out.chgP g1))
  have X1 := hide (X0.out.chg (D0.out.chgP g1) (.inr hhi))
  have D1 := hide (D0.out.setP o1 (marksT_small _ _ (by omega)) g1)
  clear o1 g1 C0 X0 D0
  rw [← E1.out]
  obtain ⟨c0, c1, c2⟩ := X1.out.c3
  clear c0 c2
  go_wp2_with fail
  refine (markStringS_calls _ H n1 lo _ D1.out.held p1 (by omega) zh).mono ?_
  rintro e w2 ⟨rfl, o1, g1⟩
  clear c1
  have C2 := hide (C1.out.trans (D1.out.chgH g1))
  have X2 := hide (X1.out.chg (D1.out.chgH g1) (.inr hhi))
  have D2 := hide (D1.out.setH o1 (marksT_small _ _ (by omega)) g1)
  clear o1 g1 C1 X1 D1
  rw [← E2.out]
  obtain ⟨c0, c1, c2⟩ := X2.out.c3
  clear c0 c1
  go_wp2_with fail
  refine (markBoolS_calls _ B n2 lo _ D2.out.bad (by omega) (by omega) zb).mono ?_
  rintro e w3 ⟨rfl, o1, g1⟩
  clear c2
  have C3 := hide (C2.out.trans (D2.out.chgB g1))
  have D3 := hide (D2.out.setB o1 g1)
  clear o1 g1 C2 X2 D2
  go_wp2
  go_ret
  exact ⟨rfl, D3.out, C3.out⟩

set_option maxRecDepth 100000 in
set_option maxHeartbeats 800000 in
theorem heldDisk_calls (p h b : Value) (np nh nb k : Nat) (w : World) (hp : RdT w p (marksT k np)) (hh : RdT w h (marksT (k + np) nh)) (hb : RdZ w b (marksZ ((k + np + nh : Nat) : Int) nb)) (hk0 : 0 < k) (hk : k ≤ 100000000) (zp : np ≤ 1048576) (zh : nh ≤ 1048576) (zb : nb ≤ 1048576) :
    Calls Tryz.prog 52 #[.agg #[p, h, b], .int .i64 k] w fun e w' => e = .returned (.int .i64 ((k + np + nh + nb : Nat) : Int)) ∧ Below w.heap.size w w' := by
  have b0 := below_box w (.cells #[p, h, b] 26)
  have RP := hide (hp.below b0)
  have RH := hide (hh.below b0)
  have RB := hide (hb.below b0)
  have X0 := hide (BoxAt.new w #[p, h, b] 26)
  have B0 := hide b0
  clear b0 hp hh hb
  obtain ⟨n1, e1⟩ : ∃ n, n = k + np := ⟨_, rfl⟩
  obtain ⟨n2, e2⟩ : ∃ n, n = n1 + nh := ⟨_, rfl⟩
  rw [← e1] at RH RB ⊢
  rw [← e2] at RB ⊢
  have b1 : n1 ≤ 101048576 := by omega
  have b2 : n2 ≤ 102097152 := by omega
  have p1 : 0 < n1 := by omega
  have p2 : 0 < n2 := by omega
  have q1 : ¬ (n1 : Int) < 0 := by omega
  have q2 : ¬ (n2 : Int) < 0 := by omega
  have q3 : ¬ (n2 : Int) + (nb : Int) < 0 := by omega
  have E1 := hide e1
  have E2 := hide e2
  clear e1 e2
  go_enter Tryz.func52, Tryz.ntmps52
  go_wp2_with fail
  refine (heldStringS_calls _ np k _ RP.out hk0 (by omega) zp).mono ?_
  rintro e w1 ⟨rfl, b1⟩
  rw [← E1.out]
  have D1 := hide b1
  have X1 := hide (X0.out.below b1)
  clear b1 X0
  obtain ⟨c0, c1, c2⟩ := X1.out.c3
  clear c0 c2
  go_wp2_with fail
  refine (heldStringS_calls _ nh n1 _ (RH.out.below D1.out) p1 (by omega) zh).mono ?_
  rintro e w2 ⟨rfl, b2⟩
  rw [← E2.out]
  clear c1
  have D2 := hide (D1.out.trans (b2.mono D1.out.size))
  have X2 := hide (X1.out.below b2)
  clear b2 X1 D1
  obtain ⟨c0, c1, c2⟩ := X2.out.c3
  clear c0 c1
  go_wp2_with fail
  refine (heldBoolS_calls _ nb n2 _ (RB.out.below D2.out) (by omega) (by omega) zb).mono ?_
  rintro e w3 ⟨rfl, rfl⟩
  clear c2
  go_wp2
  go_ret
  exact ⟨rfl, B0.out.trans (D2.out.mono B0.out.size)⟩
end Go.Proofs.YtbgadbokejaomaaGreatDoor

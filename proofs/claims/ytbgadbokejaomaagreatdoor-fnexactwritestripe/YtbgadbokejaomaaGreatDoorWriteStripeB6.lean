/-
  What a law holds in its hands, of any kind: a thing says what is so of the blocks from lo up to hi, and stays so where nothing but other blocks is changed. No condition; no call is walked here. Arguments opened: a row of texts, of integers, of Booleans, a disk, a step. No condition; no call is walked here.
-/
import Derived.Test.YtbgadbokejaomaaGreatDoorWriteStripeB5
import Derived.Test.YtbgadbokejaomaaGreatDoorWriteStripeB1
import Derived.Lib.SmallJoins
import Derived.SliceStrings
import Derived.Deep.Grids
namespace Go.Proofs.YtbgadbokejaomaaGreatDoor
open Go.RowKit
set_option linter.unusedVariables false

theorem Chg.ofSetCell {lo hi : Nat} (w : World) (g i : Nat) (v : Value) (h1 : lo ≤ g) (h2 : g < hi) : Chg lo hi w (w.setCell ⟨g, i, none⟩ v) := by
  refine ⟨rfl, rfl, rfl, ?_, fun k hk ho => ?_⟩
  · unfold World.setCell
    split <;> simp
  · exact heap_setCell_other w ⟨g, i, none⟩ k v (by simp; omega)
theorem Chg.ofAlloc {lo hi : Nat} (w : World) (o : Obj) : Chg lo hi w (w.alloc o) := Chg.ofBelow (below_box w o)
theorem ownsRow_chg {w w' : World} {lo hi a b n : Nat} {e : TypeId} {v : Value} {xs : List Value} (h : w.ownsRow lo e 1 v n xs) (ht : ∀ k, v.ownBlock = some k → k < hi) (hc : Chg a b w w') (hd : hi ≤ a ∨ b ≤ lo) : w'.ownsRow lo e 1 v n xs := by
  refine ⟨h.1, ?_⟩
  rcases h.2 with hn | ⟨g, cap, cur, rfl, hb', hg, rest⟩
  · exact .inl hn
  · have := ht g rfl
    exact .inr ⟨g, cap, cur, rfl, hb', by rw [hc.block g (Array.getElem?_eq_some_iff.1 hg).1 (by omega)]; exact hg, rest⟩
theorem ownsRow_mono {w : World} {lo lo' n : Nat} {e : TypeId} {v : Value} {xs : List Value} (h : w.ownsRow lo e 1 v n xs) (hl : lo' ≤ lo) : w.ownsRow lo' e 1 v n xs := by
  refine ⟨h.1, ?_⟩
  rcases h.2 with hn | ⟨g, cap, cur, rfl, hb', rest⟩
  · exact .inl hn
  · exact .inr ⟨g, cap, cur, rfl, Nat.le_trans hl hb', rest⟩
/-- A block of a variable's own cells. -/
def BoxAt (w : World) (g : Nat) (cs : Array Value) (T : TypeId) : Prop := w.heap[g]? = some (.cells cs T (0, 0))
theorem BoxAt.lt {w : World} {g : Nat} {cs : Array Value} {T : TypeId} (h : BoxAt w g cs T) : g < w.heap.size := (Array.getElem?_eq_some_iff.1 h).1
theorem BoxAt.chg {w w' : World} {g a b : Nat} {cs : Array Value} {T : TypeId} (h : BoxAt w g cs T) (hc : Chg a b w w') (hd : g < a ∨ b ≤ g) : BoxAt w' g cs T := by
  unfold BoxAt
  rw [hc.block g h.lt (by omega)]
  exact h
theorem BoxAt.below {w w' : World} {g : Nat} {cs : Array Value} {T : TypeId} (h : BoxAt w g cs T) (hc : Below w.heap.size w w') : BoxAt w' g cs T :=
  h.chg (Chg.ofBelow (lo := w.heap.size) (hi := w.heap.size) hc) (.inl h.lt)
theorem BoxAt.new (w : World) (cs : Array Value) (T : TypeId) : BoxAt (w.alloc (.cells cs T)) w.heap.size cs T := heap_alloc_new w _
theorem BoxAt.set {w : World} {g : Nat} {cs : Array Value} {T : TypeId} (h : BoxAt w g cs T) (i : Nat) (v : Value) : BoxAt (w.setCell ⟨g, i, none⟩ v) g (cs.setIfInBounds i v) T := heap_setCell_same w g i _ _ v h
theorem BoxAt.cell {w : World} {g : Nat} {cs : Array Value} {T : TypeId} (h : BoxAt w g cs T) (i : Nat) : w.cell? ⟨g, i, none⟩ = cs[i]? := cell_of_row w g i _ _ _ h
theorem BoxAt.frozen {w : World} {g : Nat} {cs : Array Value} {T : TypeId} (h : BoxAt w g cs T) (i : Nat) : w.frozen? ⟨g, i, none⟩ = false := frozen_of_row w g i _ _ h
theorem BoxAt.c3 {w : World} {g : Nat} {a b c : Value} {T : TypeId} (h : BoxAt w g #[a, b, c] T) : w.cell? ⟨g, 0, none⟩ = some a ∧ w.cell? ⟨g, 1, none⟩ = some b ∧ w.cell? ⟨g, 2, none⟩ = some c := ⟨h.cell 0, h.cell 1, h.cell 2⟩
theorem BoxAt.c4 {w : World} {g : Nat} {a b c d : Value} {T : TypeId} (h : BoxAt w g #[a, b, c, d] T) : w.cell? ⟨g, 0, none⟩ = some a ∧ w.cell? ⟨g, 1, none⟩ = some b ∧ w.cell? ⟨g, 2, none⟩ = some c ∧ w.cell? ⟨g, 3, none⟩ = some d := ⟨h.cell 0, h.cell 1, h.cell 2, h.cell 3⟩

theorem BoxAt.store3 {w : World} {g : Nat} {a b c : Value} {T : TypeId} (h : BoxAt w g #[a, b, c] T) (v0 v1 v2 : Value) : BoxAt (((w.setCell ⟨g, 0, none⟩ v0).setCell ⟨g, 1, none⟩ v1).setCell ⟨g, 2, none⟩ v2) g #[v0, v1, v2] T := by
  simpa using ((h.set 0 v0).set 1 v1).set 2 v2
theorem Chg.store3 {lo hi : Nat} (w : World) (g : Nat) (v0 v1 v2 : Value) (h1 : lo ≤ g) (h2 : g < hi) : Chg lo hi w (((w.setCell ⟨g, 0, none⟩ v0).setCell ⟨g, 1, none⟩ v1).setCell ⟨g, 2, none⟩ v2) :=
  ((Chg.ofSetCell _ _ _ _ h1 h2).trans (Chg.ofSetCell _ _ _ _ h1 h2)).trans (Chg.ofSetCell _ _ _ _ h1 h2)
/-- What is new in the first world's eyes may be written besides. -/
theorem chg_new {lo hi x y : Nat} {w w1 w2 : World} (h : Chg lo hi w w1) (k : Chg x y w1 w2) (hx : w.heap.size ≤ x) : Chg lo hi w w2 :=
  ⟨k.os.trans h.os, k.tape.trans h.tape, k.output.trans h.output, Nat.le_trans h.size k.size, fun i hi' ho => (k.block i (Nat.lt_of_lt_of_le hi' h.size) (.inl (by omega))).trans (h.block i hi' ho)⟩

/-- A thing: what is so of the blocks from lo up to hi. -/
abbrev Tg := Nat → Nat → World → Prop
def Tg.st (t : Tg) : Prop := ∀ lo hi a b w w', t lo hi w → Chg a b w w' → (hi ≤ a ∨ b ≤ lo) → t lo hi w'
/-- The newest on top; each lies above what was there ahead of it. -/
def HeldG (W w : World) : Nat → List Tg → Prop
  | top, [] => W.heap.size ≤ top
  | top, t :: L => ∃ lo hi, (t.st ∧ t lo hi w) ∧ lo ≤ hi ∧ hi ≤ top ∧ HeldG W w lo L
theorem HeldG.base {W w : World} : ∀ {top : Nat} {L : List Tg}, HeldG W w top L → W.heap.size ≤ top
  | _, [], h => h
  | _, _ :: _, ⟨_, _, _, h1, h2, h⟩ => Nat.le_trans (Nat.le_trans (HeldG.base h) h1) h2
theorem HeldG.up {W w : World} {top top' : Nat} : ∀ {L : List Tg}, HeldG W w top L → top ≤ top' → HeldG W w top' L
  | [], h, hl => Nat.le_trans h hl
  | _ :: _, ⟨lo, hi, h0, h1, h2, h⟩, hl => ⟨lo, hi, h0, h1, Nat.le_trans h2 hl, h⟩
theorem HeldG.chg {W w w' : World} {a b : Nat} (hc : Chg a b w w') : ∀ {top : Nat} {L : List Tg}, HeldG W w top L → top ≤ a → HeldG W w' top L
  | _, [], h, _ => h
  | _, _ :: _, ⟨lo, hi, h0, h1, h2, h⟩, hl => ⟨lo, hi, ⟨h0.1, h0.1 _ _ _ _ _ _ h0.2 hc (.inl (by omega))⟩, h1, h2, HeldG.chg hc h (by omega)⟩
theorem HeldG.open {W w : World} : ∀ {top : Nat} {L : List Tg} {i : Nat} {t : Tg}, HeldG W w top L → L[i]? = some t →
    ∃ lo hi, t lo hi w ∧ W.heap.size ≤ lo ∧ hi ≤ top ∧ ∀ w' t', Tg.st t' → t' lo hi w' → Chg lo hi w w' → HeldG W w' top (L.set i t')
  | top, [], i, t, _, h => by simp at h
  | top, t0 :: L, 0, t, ⟨lo, hi, h0, h1, h2, h⟩, hi' => by
    simp at hi'
    subst hi'
    exact ⟨lo, hi, h0.2, h.base, h2, fun w' t' hs ht hc => ⟨lo, hi, ⟨hs, ht⟩, h1, h2, HeldG.chg hc h (Nat.le_refl _)⟩⟩
  | top, t0 :: L, i + 1, t, ⟨lo, hi, h0, h1, h2, h⟩, hi' => by
    obtain ⟨lo', hi2, ok, hb, ht, put⟩ := HeldG.open h (by simpa using hi')
    exact ⟨lo', hi2, ok, hb, by omega, fun w' t' hs ok' hc => ⟨lo, hi, ⟨h0.1, h0.1 _ _ _ _ _ _ h0.2 hc (.inr ht)⟩, h1, h2, put w' t' hs ok' hc⟩⟩
structure Hand (W w : World) (L : List Tg) : Prop where
  below : Below W.heap.size W w
  held : HeldG W w w.heap.size L
theorem Hand.start (W : World) : Hand W W [] := ⟨Below.refl _ _, Nat.le_refl _⟩
theorem Hand.step {W w w' : World} {L : List Tg} (h : Hand W w L) (hb : Below w.heap.size w w') : Hand W w' L :=
  ⟨h.below.trans (hb.mono h.below.size), (HeldG.chg (a := w.heap.size) (b := w.heap.size) (Chg.ofBelow hb) h.held (Nat.le_refl _)).up hb.size⟩
theorem Hand.add {W w w' : World} {L : List Tg} {t : Tg} (h : Hand W w L) (hb : Below w.heap.size w w') (hs : t.st) (ho : t w.heap.size w'.heap.size w') : Hand W w' (t :: L) :=
  ⟨(h.step hb).below, w.heap.size, w'.heap.size, ⟨hs, ho⟩, hb.size, Nat.le_refl _, HeldG.chg (a := w.heap.size) (b := w.heap.size) (Chg.ofBelow hb) h.held (Nat.le_refl _)⟩
theorem Hand.open {W w : World} {L : List Tg} {t : Tg} (h : Hand W w L) (i : Nat) (hi : L[i]? = some t) :
    ∃ lo hi, t lo hi w ∧ W.heap.size ≤ lo ∧ hi ≤ w.heap.size ∧ ∀ w' t', Tg.st t' → t' lo hi w' → Chg lo hi w w' → Hand W w' (L.set i t') := by
  obtain ⟨lo, hi', ok, hb, ht, put⟩ := HeldG.open h.held hi
  exact ⟨lo, hi', ok, hb, ht, fun w' t' hs ok' hc => ⟨h.below.trans (hc.below hb h.below.size), (put w' t' hs ok' hc).up hc.size⟩⟩
theorem Hand.get {W w : World} {L : List Tg} {t : Tg} (h : Hand W w L) (i : Nat) (hi : L[i]? = some t) : ∃ lo hi, t lo hi w := by
  obtain ⟨lo, hi', ok, _⟩ := h.open i hi
  exact ⟨lo, hi', ok⟩

/-- A variable's block. -/
def TBox (g : Nat) (cs : Array Value) (T : TypeId) : Tg := fun lo hi w => lo ≤ g ∧ g < hi ∧ BoxAt w g cs T
theorem TBox.st (g : Nat) (cs : Array Value) (T : TypeId) : (TBox g cs T).st := by
  intro lo hi a b w w' h hc hd
  obtain ⟨h1, h2, h3⟩ := h
  exact ⟨h1, h2, h3.chg hc (by omega)⟩
theorem Hand.box {W w : World} {L : List Tg} (h : Hand W w L) (cs : Array Value) (T : TypeId) : Hand W (w.alloc (.cells cs T)) (TBox w.heap.size cs T :: L) :=
  h.add (below_box w _) (TBox.st _ _ _) ⟨Nat.le_refl _, by simp, BoxAt.new w cs T⟩
theorem Hand.atBox {W w : World} {L : List Tg} {g : Nat} {cs : Array Value} {T : TypeId} (h : Hand W w L) (i : Nat) (hi : L[i]? = some (TBox g cs T)) : BoxAt w g cs T := by
  obtain ⟨_, _, _, _, h⟩ := h.get i hi
  exact h
/-- Rows of the call's own. -/
def TInts (v : Value) (xs : List Int) : Tg := fun lo hi w => Own w lo v xs ∧ ∀ k, v.ownBlock = some k → k < hi
theorem TInts.st (v : Value) (xs : List Int) : (TInts v xs).st := fun lo hi a b w w' h hc hd => ⟨ownsRow_chg h.1 h.2 hc hd, h.2⟩
def TBols (v : Value) (xs : List Bool) : Tg := fun lo hi w => OwnZ w lo v xs ∧ ∀ k, v.ownBlock = some k → k < hi
theorem TBols.st (v : Value) (xs : List Bool) : (TBols v xs).st := fun lo hi a b w w' h hc hd => ⟨ownsRow_chg h.1 h.2 hc hd, h.2⟩
theorem row_top {w : World} {lo n : Nat} {e : TypeId} {v : Value} {xs : List Value} (h : w.ownsRow lo e 1 v n xs) : ∀ k, v.ownBlock = some k → k < w.heap.size := fun k hk => (World.ownsRow.lt h k hk).2
theorem row_low {w : World} {lo n : Nat} {e : TypeId} {v : Value} {xs : List Value} (h : w.ownsRow lo e 1 v n xs) : ∀ k, v.ownBlock = some k → lo ≤ k := fun k hk => (World.ownsRow.lt h k hk).1

theorem row_slice {w : World} {lo n : Nat} {e : TypeId} {v : Value} {xs : List Value} (h : w.ownsRow lo e 1 v n xs) : ∃ a cap, v = .slice a n cap := by
  rcases h.2 with ⟨rfl, h0⟩ | ⟨g, cap, cur, rfl, hb, _⟩
  · exact ⟨none, 0, by rw [h0]⟩
  · exact ⟨_, cap, rfl⟩

theorem RdT.small {w : World} {v : Value} {xs : List ByteArray} (h : RdT w v xs) : ∀ s ∈ xs, s.size ≤ maxLen := by
  obtain ⟨a, cap, rfl, h1, h2, h4, h3⟩ := h
  exact h4

/-- A disk of the call's own: three rows, in blocks from lo up to hi. -/
structure DskV (w : World) (lo hi : Nat) (p h b : Value) (P H : List ByteArray) (B : List Bool) : Prop where
  plate : OwnT w lo p P
  held : OwnT w lo h H
  bad : OwnZ w lo b B
  tp : ∀ k, p.ownBlock = some k → k < hi
  th : ∀ k, h.ownBlock = some k → k < hi
  tb : ∀ k, b.ownBlock = some k → k < hi
  ph : p.ownBlock = none ∨ p.ownBlock ≠ h.ownBlock
  sp : ∀ s ∈ P, s.size ≤ maxLen
  sh : ∀ s ∈ H, s.size ≤ maxLen
theorem DskV.chg {w w' : World} {lo hi x y : Nat} {p h b : Value} {P H : List ByteArray} {B : List Bool} (d : DskV w lo hi p h b P H B) (hc : Chg x y w w') (hd : hi ≤ x ∨ y ≤ lo) : DskV w' lo hi p h b P H B :=
  ⟨ownsRow_chg d.plate d.tp hc hd, ownsRow_chg d.held d.th hc hd, ownsRow_chg d.bad d.tb hc hd, d.tp, d.th, d.tb, d.ph, d.sp, d.sh⟩
theorem DskV.below {w w' : World} {lo hi : Nat} {p h b : Value} {P H : List ByteArray} {B : List Bool} (d : DskV w lo hi p h b P H B) (hb : Below w.heap.size w w') : DskV w' lo hi p h b P H B :=
  ⟨ownsRow_below d.plate hb, ownsRow_below d.held hb, ownsRow_below d.bad hb, d.tp, d.th, d.tb, d.ph, d.sp, d.sh⟩
theorem DskV.wider {w : World} {lo hi lo' hi' : Nat} {p h b : Value} {P H : List ByteArray} {B : List Bool} (d : DskV w lo hi p h b P H B) (h1 : lo' ≤ lo) (h2 : hi ≤ hi') : DskV w lo' hi' p h b P H B :=
  ⟨ownsRow_mono d.plate h1, ownsRow_mono d.held h1, ownsRow_mono d.bad h1, fun k hk => Nat.lt_of_lt_of_le (d.tp k hk) h2, fun k hk => Nat.lt_of_lt_of_le (d.th k hk) h2, fun k hk => Nat.lt_of_lt_of_le (d.tb k hk) h2, d.ph, d.sp, d.sh⟩
theorem DskV.sl {w : World} {lo hi : Nat} {p h b : Value} {P H : List ByteArray} {B : List Bool} (d : DskV w lo hi p h b P H B) : ∃ ap cp ah ch ab cb, p = .slice ap P.length cp ∧ h = .slice ah H.length ch ∧ b = .slice ab B.length cb := by
  obtain ⟨ap, cp, rfl⟩ := row_slice d.plate
  obtain ⟨ah, ch, rfl⟩ := row_slice d.held
  obtain ⟨ab, cb, rfl⟩ := row_slice d.bad
  exact ⟨ap, cp, ah, ch, ab, cb, rfl, rfl, rfl⟩
theorem DskV.rp {w : World} {lo hi : Nat} {p h b : Value} {P H : List ByteArray} {B : List Bool} (d : DskV w lo hi p h b P H B) : RdT w p P := OwnT.rd d.plate d.sp
theorem DskV.rh {w : World} {lo hi : Nat} {p h b : Value} {P H : List ByteArray} {B : List Bool} (d : DskV w lo hi p h b P H B) : RdT w h H := OwnT.rd d.held d.sh
theorem DskV.rb {w : World} {lo hi : Nat} {p h b : Value} {P H : List ByteArray} {B : List Bool} (d : DskV w lo hi p h b P H B) : RdZ w b B := OwnZ.rd d.bad
theorem DskV.nil (w : World) (lo hi : Nat) : DskV w lo hi (.slice none 0 0) (.slice none 0 0) (.slice none 0 0) [] [] [] :=
  ⟨World.ownsRow_nil _ _ _ _, World.ownsRow_nil _ _ _ _, World.ownsRow_nil _ _ _ _, fun k hk => by simp [Value.ownBlock] at hk, fun k hk => by simp [Value.ownBlock] at hk, fun k hk => by simp [Value.ownBlock] at hk, .inl rfl, by simp, by simp⟩
def TDsk (p h b : Value) (P H : List ByteArray) (B : List Bool) : Tg := fun lo hi w => DskV w lo hi p h b P H B
theorem TDsk.st (p h b : Value) (P H : List ByteArray) (B : List Bool) : (TDsk p h b P H B).st := fun lo hi x y w w' d hc hd => d.chg hc hd
/-- A row of Booleans and a row of texts lie in unlike blocks. -/
theorem bol_txt {w : World} {lo lo' n k : Nat} {v u : Value} {xs ys : List Value} (h : w.ownsRow lo 4 1 v n xs) (h' : w.ownsRow lo' 9 1 u k ys) : (v.ownBlock = none ∨ v.ownBlock ≠ u.ownBlock) ∧ (u.ownBlock = none ∨ u.ownBlock ≠ v.ownBlock) := by
  rcases h.2 with ⟨rfl, _⟩ | ⟨g, cap, cur, rfl, _, hg, _⟩
  · refine ⟨.inl rfl, ?_⟩
    cases hu : u.ownBlock with
    | none => exact .inl rfl
    | some x => right; simp [Value.ownBlock]
  rcases h'.2 with ⟨rfl, _⟩ | ⟨g', cap', cur', rfl, _, hg', _⟩
  · exact ⟨.inr (by simp [Value.ownBlock]), .inl rfl⟩
  · have hne : g ≠ g' := by
      intro e
      subst e
      rw [hg] at hg'
      simp at hg'
    exact ⟨.inr (by simpa [Value.ownBlock] using hne), .inr (by simpa [Value.ownBlock] using fun e : g' = g => hne e.symm)⟩
/-- One row is written. -/
theorem DskV.setP {w w' : World} {lo hi : Nat} {p h b : Value} {P H P' : List ByteArray} {B : List Bool} (d : DskV w lo hi p h b P H B) (ho : OwnT w' lo p P') (hs : ∀ s ∈ P', s.size ≤ maxLen) (hg : w.grownBy w' p.ownBlock) : DskV w' lo hi p h b P' H B :=
  ⟨ho, World.ownsRow.kept d.held hg (by
      rcases d.ph with e | e
      · cases hh : h.ownBlock with
        | none => exact .inl rfl
        | some x => right; rw [e]; simp
      · exact .inr (fun h' => e h'.symm)), World.ownsRow.kept d.bad hg (bol_txt d.bad d.plate).1, d.tp, d.th, d.tb, d.ph, hs, d.sh⟩
theorem DskV.setH {w w' : World} {lo hi : Nat} {p h b : Value} {P H H' : List ByteArray} {B : List Bool} (d : DskV w lo hi p h b P H B) (ho : OwnT w' lo h H') (hs : ∀ s ∈ H', s.size ≤ maxLen) (hg : w.grownBy w' h.ownBlock) : DskV w' lo hi p h b P H' B :=
  ⟨World.ownsRow.kept d.plate hg d.ph, ho, World.ownsRow.kept d.bad hg (bol_txt d.bad d.held).1, d.tp, d.th, d.tb, d.ph, d.sp, hs⟩
theorem DskV.setB {w w' : World} {lo hi : Nat} {p h b : Value} {P H : List ByteArray} {B B' : List Bool} (d : DskV w lo hi p h b P H B) (ho : OwnZ w' lo b B') (hg : w.grownBy w' b.ownBlock) : DskV w' lo hi p h b P H B' :=
  ⟨World.ownsRow.kept d.plate hg (bol_txt d.bad d.plate).2, World.ownsRow.kept d.held hg (bol_txt d.bad d.held).2, ho, d.tp, d.th, d.tb, d.ph, d.sp, d.sh⟩
theorem DskV.chgP {w w' : World} {lo hi : Nat} {p h b : Value} {P H : List ByteArray} {B : List Bool} (d : DskV w lo hi p h b P H B) (hg : w.grownBy w' p.ownBlock) : Chg lo hi w w' := Chg.ofGrown hg (fun k hk => ⟨row_low d.plate k hk, d.tp k hk⟩)
theorem DskV.chgH {w w' : World} {lo hi : Nat} {p h b : Value} {P H : List ByteArray} {B : List Bool} (d : DskV w lo hi p h b P H B) (hg : w.grownBy w' h.ownBlock) : Chg lo hi w w' := Chg.ofGrown hg (fun k hk => ⟨row_low d.held k hk, d.th k hk⟩)
theorem DskV.chgB {w w' : World} {lo hi : Nat} {p h b : Value} {P H : List ByteArray} {B : List Bool} (d : DskV w lo hi p h b P H B) (hg : w.grownBy w' b.ownBlock) : Chg lo hi w w' := Chg.ofGrown hg (fun k hk => ⟨row_low d.bad k hk, d.tb k hk⟩)
end Go.Proofs.YtbgadbokejaomaaGreatDoor

namespace Go.Proofs.YtbgadbokejaomaaGreatDoor.Frame
open Go.ChangeShapes Go.WideShapes Go.ChangeAt Go.RowKit
set_option linter.unusedVariables false
section
variable {H : Type} {enc : TypeId × Value → H} {W : World}

theorem rdT_of {n : Nat} {v : Value} {y : DataW H × List MemPlace} (h : DataW.trod enc Tryz.prog W 0 (fun _ => true) true n 22 [v] = some y) : ∃ xs, RdT W v xs := by
  rcases open_strings Tryz.underlying22 Tryz.underlying9 (by kernel_rfl) h with ⟨hcs, _⟩ | ⟨x, l, c, ss, hcs, _, hl, hm, hz, hx, hcell, hwz⟩
  · simp only [List.cons.injEq, and_true] at hcs
    subst hcs
    exact ⟨[], rdT_nil W⟩
  · simp only [List.cons.injEq, and_true] at hcs
    subst hcs
    exact ⟨_, rdT_open hl hm (by simpa using hz) hcell hwz⟩
theorem rdZ_open {w : World} {x : Addr} {len cap : Nat} {B : Nat → Bool} (hl : len ≤ cap) (hm : cap ≤ maxLen)
    (hcell : ∀ i, i < cap → w.cell? (x.add i) = some (.bool (B i))) : RdZ w (.slice (some x) len cap) ((List.range len).map B) := by
  obtain ⟨b, off, sp⟩ := x
  have el : ((List.range len).map B).length = len := by simp
  refine ⟨_, cap, by rw [el], by rw [el]; exact hl, ⟨hm, fun h => by cases h⟩, ?_⟩
  by_cases h0 : len = 0
  · left
    subst h0
    rfl
  · right
    have h00 := hcell 0 (by omega)
    obtain rfl : sp = none := by simpa [Addr.add] using World.cell?_spot h00
    refine ⟨b, off, rfl, ?_, ?_⟩
    · have : w.cell? ⟨b, off, none⟩ = some (.bool (B 0)) := by simpa [Addr.add] using h00
      unfold World.cell? at this
      cases hh : w.heap[b]? with
      | none => simp [hh] at this
      | some o => exact (Array.getElem?_eq_some_iff.1 hh).1
    · intro i hi
      rw [el] at hi
      have := hcell i (by omega)
      have hadd : (⟨b, off, none⟩ : Addr).add i = ⟨b, off + i, none⟩ := by unfold Addr.add; split <;> simp_all
      rw [hadd] at this
      rw [this]
      simp [hi]
theorem rdZ_of {n : Nat} {v : Value} {y : DataW H × List MemPlace} (h : DataW.trod enc Tryz.prog W 0 (fun _ => true) true n 24 [v] = some y) : ∃ xs, RdZ W v xs := by
  rcases Go.Deep.open_bools Tryz.underlying24 Tryz.underlying4 (by kernel_rfl) h with ⟨hcs, _⟩ | ⟨x, l, c, B, hcs, _, hl, hm, hx, hcell⟩
  · simp only [List.cons.injEq, and_true] at hcs
    subst hcs
    exact ⟨[], rdZ_nil W⟩
  · simp only [List.cons.injEq, and_true] at hcs
    subst hcs
    exact ⟨_, rdZ_open hl hm hcell⟩
set_option maxRecDepth 100000 in
theorem dsk_of {r : Reach} {b0 : Nat} {v : Value} {d : DataW H} {p : List MemPlace} (hv : Value.okWide Tryz.prog W r b0 37 v) (h : DataW.Trod enc Tryz.prog W 0 (fun _ => true) true 37 v d p) :
    ∃ vp vh vb P H B, v = .agg #[vp, vh, vb] ∧ RdT W vp P ∧ RdT W vh H ∧ RdZ W vb B := by
  obtain ⟨c0, c1, c2, y0, y1, y2, n, rfl, rfl, rfl, g0, g1, g2⟩ := Go.Joins.open_agg3 Tryz.underlying37 (by kernel_rfl) (by kernel_rfl) hv h
  obtain ⟨P, hP⟩ := rdT_of g0
  obtain ⟨H, hH⟩ := rdT_of g1
  obtain ⟨B, hB⟩ := rdZ_of g2
  exact ⟨c0, c1, c2, P, H, B, rfl, hP, hH, hB⟩
end
end Go.Proofs.YtbgadbokejaomaaGreatDoor.Frame

/-
  What a law holds in its hands, of any kind: a thing says what is so of the blocks from lo up to hi, and stays so where nothing but other blocks is changed. No condition; no call is walked here.
-/
import Derived.Test.YthdbacihhmilbaaGreatDoorStripesB4
import Derived.Test.YthdbacihhmilbaaGreatDoorStripesB0
set_option linter.unusedVariables false
set_option maxRecDepth 100000
set_option maxHeartbeats 1600000
namespace Go.Proofs.YthdbacihhmilbaaGreatDoor
open Go.RowKit
theorem Chg.ofSetCell {lo hi : Nat} (w : World) (g i : Nat) (v : Value) (h1 : lo ≤ g) (h2 : g < hi) : Chg lo hi w (w.setCell ⟨g, i, none⟩ v) := by
 refine ⟨rfl, rfl, rfl, ?_, fun k hk ho => ?_⟩
 ·unfold World.setCell
  split <;> simp
 ·exact heap_setCell_other w ⟨g, i, none⟩ k v (by simp; omega)
theorem Chg.ofAlloc {lo hi : Nat} (w : World) (o : Obj) : Chg lo hi w (w.alloc o) := Chg.ofBelow (below_box w o)
theorem ownsRow_chg {w w' : World} {lo hi a b n : Nat} {e : TypeId} {v : Value} {xs : List Value} (h : w.ownsRow lo e 1 v n xs) (ht : ∀ k, v.ownBlock = some k → k < hi) (hc : Chg a b w w') (hd : hi ≤ a ∨ b ≤ lo) : w'.ownsRow lo e 1 v n xs := by
 refine ⟨h.1, ?_⟩
 rcases h.2 with hn | ⟨g, cap, cur, rfl, hb', hg, rest⟩
 ·exact .inl hn
 ·have := ht g rfl
  exact .inr ⟨g, cap, cur, rfl, hb', by rw [hc.block g (Array.getElem?_eq_some_iff.1 hg).1 (by omega)]; exact hg, rest⟩
theorem ownsRow_mono {w : World} {lo lo' n : Nat} {e : TypeId} {v : Value} {xs : List Value} (h : w.ownsRow lo e 1 v n xs) (hl : lo' ≤ lo) : w.ownsRow lo' e 1 v n xs := by
 refine ⟨h.1, ?_⟩
 rcases h.2 with hn | ⟨g, cap, cur, rfl, hb', rest⟩
 ·exact .inl hn
 ·exact .inr ⟨g, cap, cur, rfl, Nat.le_trans hl hb', rest⟩
def BoxAt (w : World) (g : Nat) (cs : Array Value) (T : TypeId) : Prop := w.heap[g]? = some (.cells cs T (0, 0))
theorem BoxAt.lt {w : World} {g : Nat} {cs : Array Value} {T : TypeId} (h : BoxAt w g cs T) : g < w.heap.size := (Array.getElem?_eq_some_iff.1 h).1
theorem BoxAt.chg {w w' : World} {g a b : Nat} {cs : Array Value} {T : TypeId} (h : BoxAt w g cs T) (hc : Chg a b w w') (hd : g < a ∨ b ≤ g) : BoxAt w' g cs T := by
 unfold BoxAt
 rw [hc.block g h.lt (by omega)]
 exact h
theorem BoxAt.below {w w' : World} {g : Nat} {cs : Array Value} {T : TypeId} (h : BoxAt w g cs T) (hc : Below w.heap.size w w') : BoxAt w' g cs T :=
 h.chg (Chg.ofBelow (lo := w.heap.size) (hi := w.heap.size) hc) (.inl h.lt)
theorem BoxAt.new (w : World) (cs : Array Value) (T : TypeId) : BoxAt (w.alloc (.cells cs T)) w.heap.size cs T := heap_alloc_new w _
theorem BoxAt.set {w : World} {g : Nat} {cs : Array Value} {T : TypeId} (h : BoxAt w g cs T) (i : Nat) (v : Value) : BoxAt (w.setCell ⟨g, i, none⟩ v) g (cs.setIfInBounds i v) T := heap_setCell_same w g i _ _ v h
theorem BoxAt.cell {w : World} {g : Nat} {cs : Array Value} {T : TypeId} (h : BoxAt w g cs T) (i : Nat) : w.cell? ⟨g, i, none⟩ = cs[i]? := cell_of_row w g i _ _ _ h
theorem BoxAt.frozen {w : World} {g : Nat} {cs : Array Value} {T : TypeId} (h : BoxAt w g cs T) (i : Nat) : w.frozen? ⟨g, i, none⟩ = false := frozen_of_row w g i _ _ h
theorem BoxAt.c3 {w : World} {g : Nat} {a b c : Value} {T : TypeId} (h : BoxAt w g #[a, b, c] T) : w.cell? ⟨g, 0, none⟩ = some a ∧ w.cell? ⟨g, 1, none⟩ = some b ∧ w.cell? ⟨g, 2, none⟩ = some c := ⟨h.cell 0, h.cell 1, h.cell 2⟩
theorem BoxAt.c4 {w : World} {g : Nat} {a b c d : Value} {T : TypeId} (h : BoxAt w g #[a, b, c, d] T) : w.cell? ⟨g, 0, none⟩ = some a ∧ w.cell? ⟨g, 1, none⟩ = some b ∧ w.cell? ⟨g, 2, none⟩ = some c ∧ w.cell? ⟨g, 3, none⟩ = some d := ⟨h.cell 0, h.cell 1, h.cell 2, h.cell 3⟩
theorem BoxAt.store3 {w : World} {g : Nat} {a b c : Value} {T : TypeId} (h : BoxAt w g #[a, b, c] T) (v0 v1 v2 : Value) : BoxAt (((w.setCell ⟨g, 0, none⟩ v0).setCell ⟨g, 1, none⟩ v1).setCell ⟨g, 2, none⟩ v2) g #[v0, v1, v2] T := by
 simpa using ((h.set 0 v0).set 1 v1).set 2 v2
theorem Chg.store3 {lo hi : Nat} (w : World) (g : Nat) (v0 v1 v2 : Value) (h1 : lo ≤ g) (h2 : g < hi) : Chg lo hi w (((w.setCell ⟨g, 0, none⟩ v0).setCell ⟨g, 1, none⟩ v1).setCell ⟨g, 2, none⟩ v2) :=
 ((Chg.ofSetCell _ _ _ _ h1 h2).trans (Chg.ofSetCell _ _ _ _ h1 h2)).trans (Chg.ofSetCell _ _ _ _ h1 h2)
theorem chg_new {lo hi x y : Nat} {w w1 w2 : World} (h : Chg lo hi w w1) (k : Chg x y w1 w2) (hx : w.heap.size ≤ x) : Chg lo hi w w2 :=
 ⟨k.os.trans h.os, k.tape.trans h.tape, k.output.trans h.output, Nat.le_trans h.size k.size, fun i hi' ho => (k.block i (Nat.lt_of_lt_of_le hi' h.size) (.inl (by omega))).trans (h.block i hi' ho)⟩
abbrev Tg := Nat → Nat → World → Prop
def Tg.st (t : Tg) : Prop := ∀ lo hi a b w w', t lo hi w → Chg a b w w' → (hi ≤ a ∨ b ≤ lo) → t lo hi w'
def HeldG (W w : World) : Nat → List Tg → Prop
 | top, [] => W.heap.size ≤ top
 | top, t :: L => ∃ lo hi, (t.st ∧ t lo hi w) ∧ lo ≤ hi ∧ hi ≤ top ∧ HeldG W w lo L
theorem HeldG.base {W w : World} : ∀ {top : Nat} {L : List Tg}, HeldG W w top L → W.heap.size ≤ top
 | _, [], h => h
 | _, _ :: _, ⟨_, _, _, h1, h2, h⟩ => Nat.le_trans (Nat.le_trans (HeldG.base h) h1) h2
theorem HeldG.up {W w : World} {top top' : Nat} : ∀ {L : List Tg}, HeldG W w top L → top ≤ top' → HeldG W w top' L
 | [], h, hl => Nat.le_trans h hl
 | _ :: _, ⟨lo, hi, h0, h1, h2, h⟩, hl => ⟨lo, hi, h0, h1, Nat.le_trans h2 hl, h⟩
theorem HeldG.chg {W w w' : World} {a b : Nat} (hc : Chg a b w w') : ∀ {top : Nat} {L : List Tg}, HeldG W w top L → top ≤ a → HeldG W w' top L
 | _, [], h, _ => h
 | _, _ :: _, ⟨lo, hi, h0, h1, h2, h⟩, hl => ⟨lo, hi, ⟨h0.1, h0.1 _ _ _ _ _ _ h0.2 hc (.inl (by omega))⟩, h1, h2, HeldG.chg hc h (by omega)⟩
theorem HeldG.open {W w : World} : ∀ {top : Nat} {L : List Tg} {i : Nat} {t : Tg}, HeldG W w top L → L[i]? = some t →
    ∃ lo hi, t lo hi w ∧ W.heap.size ≤ lo ∧ hi ≤ top ∧ ∀ w' t', Tg.st t' → t' lo hi w' → Chg lo hi w w' → HeldG W w' top (L.set i t')
 | top, [], i, t, _, h => by simp at h
 | top, t0 :: L, 0, t, ⟨lo, hi, h0, h1, h2, h⟩, hi' => by
  simp at hi'
  subst hi'
  exact ⟨lo, hi, h0.2, h.base, h2, fun w' t' hs ht hc => ⟨lo, hi, ⟨hs, ht⟩, h1, h2, HeldG.chg hc h (Nat.le_refl _)⟩⟩
 | top, t0 :: L, i + 1, t, ⟨lo, hi, h0, h1, h2, h⟩, hi' => by
  obtain ⟨lo', hi2, ok, hb, ht, put⟩ := HeldG.open h (by simpa using hi')
  exact ⟨lo', hi2, ok, hb, by omega, fun w' t' hs ok' hc => ⟨lo, hi, ⟨h0.1, h0.1 _ _ _ _ _ _ h0.2 hc (.inr ht)⟩, h1, h2, put w' t' hs ok' hc⟩⟩
structure Hand (W w : World) (L : List Tg) : Prop where
 below : Below W.heap.size W w
 held : HeldG W w w.heap.size L
theorem Hand.start (W : World) : Hand W W [] := ⟨Below.refl _ _, Nat.le_refl _⟩
theorem Hand.step {W w w' : World} {L : List Tg} (h : Hand W w L) (hb : Below w.heap.size w w') : Hand W w' L :=
 ⟨h.below.trans (hb.mono h.below.size), (HeldG.chg (a := w.heap.size) (b := w.heap.size) (Chg.ofBelow hb) h.held (Nat.le_refl _)).up hb.size⟩
theorem Hand.add {W w w' : World} {L : List Tg} {t : Tg} (h : Hand W w L) (hb : Below w.heap.size w w') (hs : t.st) (ho : t w.heap.size w'.heap.size w') : Hand W w' (t :: L) :=
 ⟨(h.step hb).below, w.heap.size, w'.heap.size, ⟨hs, ho⟩, hb.size, Nat.le_refl _, HeldG.chg (a := w.heap.size) (b := w.heap.size) (Chg.ofBelow hb) h.held (Nat.le_refl _)⟩
theorem Hand.open {W w : World} {L : List Tg} {t : Tg} (h : Hand W w L) (i : Nat) (hi : L[i]? = some t) :
    ∃ lo hi, t lo hi w ∧ W.heap.size ≤ lo ∧ hi ≤ w.heap.size ∧ ∀ w' t', Tg.st t' → t' lo hi w' → Chg lo hi w w' → Hand W w' (L.set i t') := by
 obtain ⟨lo, hi', ok, hb, ht, put⟩ := HeldG.open h.held hi
 exact ⟨lo, hi', ok, hb, ht, fun w' t' hs ok' hc => ⟨h.below.trans (hc.below hb h.below.size), (put w' t' hs ok' hc).up hc.size⟩⟩
theorem Hand.get {W w : World} {L : List Tg} {t : Tg} (h : Hand W w L) (i : Nat) (hi : L[i]? = some t) : ∃ lo hi, t lo hi w := by
 obtain ⟨lo, hi', ok, _⟩ := h.open i hi
 exact ⟨lo, hi', ok⟩
def TBox (g : Nat) (cs : Array Value) (T : TypeId) : Tg := fun lo hi w => lo ≤ g ∧ g < hi ∧ BoxAt w g cs T
theorem TBox.st (g : Nat) (cs : Array Value) (T : TypeId) : (TBox g cs T).st := by
 intro lo hi a b w w' h hc hd
 obtain ⟨h1, h2, h3⟩ := h
 exact ⟨h1, h2, h3.chg hc (by omega)⟩
theorem Hand.box {W w : World} {L : List Tg} (h : Hand W w L) (cs : Array Value) (T : TypeId) : Hand W (w.alloc (.cells cs T)) (TBox w.heap.size cs T :: L) :=
 h.add (below_box w _) (TBox.st _ _ _) ⟨Nat.le_refl _, by simp, BoxAt.new w cs T⟩
theorem Hand.atBox {W w : World} {L : List Tg} {g : Nat} {cs : Array Value} {T : TypeId} (h : Hand W w L) (i : Nat) (hi : L[i]? = some (TBox g cs T)) : BoxAt w g cs T := by
 obtain ⟨_, _, _, _, h⟩ := h.get i hi
 exact h
def TInts (v : Value) (xs : List Int) : Tg := fun lo hi w => Own w lo v xs ∧ ∀ k, v.ownBlock = some k → k < hi
theorem TInts.st (v : Value) (xs : List Int) : (TInts v xs).st := fun lo hi a b w w' h hc hd => ⟨ownsRow_chg h.1 h.2 hc hd, h.2⟩
theorem row_top {w : World} {lo n : Nat} {e : TypeId} {v : Value} {xs : List Value} (h : w.ownsRow lo e 1 v n xs) : ∀ k, v.ownBlock = some k → k < w.heap.size := fun k hk => (World.ownsRow.lt h k hk).2
theorem row_low {w : World} {lo n : Nat} {e : TypeId} {v : Value} {xs : List Value} (h : w.ownsRow lo e 1 v n xs) : ∀ k, v.ownBlock = some k → lo ≤ k := fun k hk => (World.ownsRow.lt h k hk).1
theorem row_slice {w : World} {lo n : Nat} {e : TypeId} {v : Value} {xs : List Value} (h : w.ownsRow lo e 1 v n xs) : ∃ a cap, v = .slice a n cap := by
 rcases h.2 with ⟨rfl, h0⟩ | ⟨g, cap, cur, rfl, hb, _⟩
 ·exact ⟨none, 0, by rw [h0]⟩
 ·exact ⟨_, cap, rfl⟩
theorem RdT.small {w : World} {v : Value} {xs : List ByteArray} (h : RdT w v xs) : ∀ s ∈ xs, s.size ≤ maxLen := by
 obtain ⟨a, cap, rfl, h1, h2, h4, h3⟩ := h
 exact h4
structure DskV (w : World) (lo hi : Nat) (p h b : Value) (P H : List ByteArray) (B : List Bool) : Prop where
 plate : OwnT w lo p P
 held : OwnT w lo h H
 bad : OwnZ w lo b B
 tp : ∀ k, p.ownBlock = some k → k < hi
 th : ∀ k, h.ownBlock = some k → k < hi
 tb : ∀ k, b.ownBlock = some k → k < hi
 ph : p.ownBlock = none ∨ p.ownBlock ≠ h.ownBlock
 sp : ∀ s ∈ P, s.size ≤ maxLen
 sh : ∀ s ∈ H, s.size ≤ maxLen
theorem DskV.chg {w w' : World} {lo hi x y : Nat} {p h b : Value} {P H : List ByteArray} {B : List Bool} (d : DskV w lo hi p h b P H B) (hc : Chg x y w w') (hd : hi ≤ x ∨ y ≤ lo) : DskV w' lo hi p h b P H B :=
 ⟨ownsRow_chg d.plate d.tp hc hd, ownsRow_chg d.held d.th hc hd, ownsRow_chg d.bad d.tb hc hd, d.tp, d.th, d.tb, d.ph, d.sp, d.sh⟩
theorem DskV.below {w w' : World} {lo hi : Nat} {p h b : Value} {P H : List ByteArray} {B : List Bool} (d : DskV w lo hi p h b P H B) (hb : Below w.heap.size w w') : DskV w' lo hi p h b P H B :=
 ⟨ownsRow_below d.plate hb, ownsRow_below d.held hb, ownsRow_below d.bad hb, d.tp, d.th, d.tb, d.ph, d.sp, d.sh⟩
theorem DskV.wider {w : World} {lo hi lo' hi' : Nat} {p h b : Value} {P H : List ByteArray} {B : List Bool} (d : DskV w lo hi p h b P H B) (h1 : lo' ≤ lo) (h2 : hi ≤ hi') : DskV w lo' hi' p h b P H B :=
 ⟨ownsRow_mono d.plate h1, ownsRow_mono d.held h1, ownsRow_mono d.bad h1, fun k hk => Nat.lt_of_lt_of_le (d.tp k hk) h2, fun k hk => Nat.lt_of_lt_of_le (d.th k hk) h2, fun k hk => Nat.lt_of_lt_of_le (d.tb k hk) h2, d.ph, d.sp, d.sh⟩
theorem DskV.sl {w : World} {lo hi : Nat} {p h b : Value} {P H : List ByteArray} {B : List Bool} (d : DskV w lo hi p h b P H B) : ∃ ap cp ah ch ab cb, p = .slice ap P.length cp ∧ h = .slice ah H.length ch ∧ b = .slice ab B.length cb := by
 obtain ⟨ap, cp, rfl⟩ := row_slice d.plate
 obtain ⟨ah, ch, rfl⟩ := row_slice d.held
 obtain ⟨ab, cb, rfl⟩ := row_slice d.bad
 exact ⟨ap, cp, ah, ch, ab, cb, rfl, rfl, rfl⟩
theorem DskV.rp {w : World} {lo hi : Nat} {p h b : Value} {P H : List ByteArray} {B : List Bool} (d : DskV w lo hi p h b P H B) : RdT w p P := OwnT.rd d.plate d.sp
theorem DskV.rh {w : World} {lo hi : Nat} {p h b : Value} {P H : List ByteArray} {B : List Bool} (d : DskV w lo hi p h b P H B) : RdT w h H := OwnT.rd d.held d.sh
theorem DskV.rb {w : World} {lo hi : Nat} {p h b : Value} {P H : List ByteArray} {B : List Bool} (d : DskV w lo hi p h b P H B) : RdZ w b B := OwnZ.rd d.bad
theorem DskV.nil (w : World) (lo hi : Nat) : DskV w lo hi (.slice none 0 0) (.slice none 0 0) (.slice none 0 0) [] [] [] :=
 ⟨World.ownsRow_nil _ _ _ _, World.ownsRow_nil _ _ _ _, World.ownsRow_nil _ _ _ _, fun k hk => by simp [Value.ownBlock] at hk, fun k hk => by simp [Value.ownBlock] at hk, fun k hk => by simp [Value.ownBlock] at hk, .inl rfl, by simp, by simp⟩
def TDsk (p h b : Value) (P H : List ByteArray) (B : List Bool) : Tg := fun lo hi w => DskV w lo hi p h b P H B
theorem TDsk.st (p h b : Value) (P H : List ByteArray) (B : List Bool) : (TDsk p h b P H B).st := fun lo hi x y w w' d hc hd => d.chg hc hd
theorem bol_txt {w : World} {lo lo' n k : Nat} {v u : Value} {xs ys : List Value} (h : w.ownsRow lo 4 1 v n xs) (h' : w.ownsRow lo' 9 1 u k ys) : (v.ownBlock = none ∨ v.ownBlock ≠ u.ownBlock) ∧ (u.ownBlock = none ∨ u.ownBlock ≠ v.ownBlock) := by
 rcases h.2 with ⟨rfl, _⟩ | ⟨g, cap, cur, rfl, _, hg, _⟩
 ·refine ⟨.inl rfl, ?_⟩
  cases hu : u.ownBlock with
  | none => exact .inl rfl
  | some x => right; simp [Value.ownBlock]
 rcases h'.2 with ⟨rfl, _⟩ | ⟨g', cap', cur', rfl, _, hg', _⟩
 ·exact ⟨.inr (by simp [Value.ownBlock]), .inl rfl⟩
 ·have hne : g ≠ g' := by
    intro e
    subst e
    rw [hg] at hg'
    simp at hg'
  exact ⟨.inr (by simpa [Value.ownBlock] using hne), .inr (by simpa [Value.ownBlock] using fun e : g' = g => hne e.symm)⟩
theorem DskV.setP {w w' : World} {lo hi : Nat} {p h b : Value} {P H P' : List ByteArray} {B : List Bool} (d : DskV w lo hi p h b P H B) (ho : OwnT w' lo p P') (hs : ∀ s ∈ P', s.size ≤ maxLen) (hg : w.grownBy w' p.ownBlock) : DskV w' lo hi p h b P' H B :=
 ⟨ho, World.ownsRow.kept d.held hg (by
     rcases d.ph with e | e
     ·cases hh : h.ownBlock with
      | none => exact .inl rfl
      | some x => right; rw [e]; simp
     ·exact .inr (fun h' => e h'.symm)), World.ownsRow.kept d.bad hg (bol_txt d.bad d.plate).1, d.tp, d.th, d.tb, d.ph, hs, d.sh⟩
theorem DskV.setH {w w' : World} {lo hi : Nat} {p h b : Value} {P H H' : List ByteArray} {B : List Bool} (d : DskV w lo hi p h b P H B) (ho : OwnT w' lo h H') (hs : ∀ s ∈ H', s.size ≤ maxLen) (hg : w.grownBy w' h.ownBlock) : DskV w' lo hi p h b P H' B :=
 ⟨World.ownsRow.kept d.plate hg d.ph, ho, World.ownsRow.kept d.bad hg (bol_txt d.bad d.held).1, d.tp, d.th, d.tb, d.ph, d.sp, hs⟩
theorem DskV.setB {w w' : World} {lo hi : Nat} {p h b : Value} {P H : List ByteArray} {B B' : List Bool} (d : DskV w lo hi p h b P H B) (ho : OwnZ w' lo b B') (hg : w.grownBy w' b.ownBlock) : DskV w' lo hi p h b P H B' :=
 ⟨World.ownsRow.kept d.plate hg (bol_txt d.bad d.plate).2, World.ownsRow.kept d.held hg (bol_txt d.bad d.held).2, ho, d.tp, d.th, d.tb, d.ph, d.sp, d.sh⟩
theorem DskV.chgP {w w' : World} {lo hi : Nat} {p h b : Value} {P H : List ByteArray} {B : List Bool} (d : DskV w lo hi p h b P H B) (hg : w.grownBy w' p.ownBlock) : Chg lo hi w w' := Chg.ofGrown hg (fun k hk => ⟨row_low d.plate k hk, d.tp k hk⟩)
theorem DskV.chgH {w w' : World} {lo hi : Nat} {p h b : Value} {P H : List ByteArray} {B : List Bool} (d : DskV w lo hi p h b P H B) (hg : w.grownBy w' h.ownBlock) : Chg lo hi w w' := Chg.ofGrown hg (fun k hk => ⟨row_low d.held k hk, d.th k hk⟩)
theorem DskV.chgB {w w' : World} {lo hi : Nat} {p h b : Value} {P H : List ByteArray} {B : List Bool} (d : DskV w lo hi p h b P H B) (hg : w.grownBy w' b.ownBlock) : Chg lo hi w w' := Chg.ofGrown hg (fun k hk => ⟨row_low d.bad k hk, d.tb k hk⟩)
theorem dskInfo : (Tryz.prog.info? 26).map (·.size) = some 3 := by kernel_rfl
theorem res_dsk {fn : Func} {x : Tmp} (hf : fn.results = #[.cell x 26]) (tmps : Array Value) (w : World) (g : Nat) (p h b : Value) (fr : Nat × Nat) (hp : tmps.getD x undef = .pointer (some ⟨g, 0, none⟩))
    (hg : w.heap[g]? = some (.cells #[p, h, b] 26 fr)) : (results fn tmps).run Tryz.prog w = .ok (.agg #[p, h, b]) w :=
 results_cell_row hf tmps w g _ _ fr _ hp hg Tryz.underlying26 rfl dskInfo
theorem res_dsk2 {fn : Func} {x u : Tmp} (hf : fn.results = #[.cell x 26, .tmp u]) (tmps : Array Value) (w : World) (g : Nat) (p h b : Value) (fr : Nat × Nat) (hp : tmps.getD x undef = .pointer (some ⟨g, 0, none⟩))
    (hg : w.heap[g]? = some (.cells #[p, h, b] 26 fr)) : (results fn tmps).run Tryz.prog w = .ok (.tuple #[.agg #[p, h, b], tmps.getD u undef]) w := by
 have hp' : tmps[x]?.getD undef = .pointer (some ⟨g, 0, none⟩) := by simpa using hp
 simp [results, hf, hp', asAddr, run_loadVar_row w g _ _ _ fr _ hg Tryz.underlying26 rfl dskInfo]
theorem res_dsk3 {fn : Func} {x u v : Tmp} (hf : fn.results = #[.cell x 26, .tmp u, .tmp v]) (tmps : Array Value) (w : World) (g : Nat) (p h b : Value) (fr : Nat × Nat) (hp : tmps.getD x undef = .pointer (some ⟨g, 0, none⟩))
    (hg : w.heap[g]? = some (.cells #[p, h, b] 26 fr)) : (results fn tmps).run Tryz.prog w = .ok (.tuple #[.agg #[p, h, b], tmps.getD u undef, tmps.getD v undef]) w := by
 have hp' : tmps[x]?.getD undef = .pointer (some ⟨g, 0, none⟩) := by simpa using hp
 simp [results, hf, hp', asAddr, run_loadVar_row w g _ _ _ fr _ hg Tryz.underlying26 rfl dskInfo]
abbrev nil3 : Array Value := #[.slice none 0 0, .slice none 0 0, .slice none 0 0]
def gkP (P H : List ByteArray) (B : List Bool) : Prop :=
 (1 ≤ P.length ∧ P.length ≤ 24) ∧ H.length = P.length ∧ B.length = P.length ∧ (∀ i, i < P.length → (P.getD i ⟨#[]⟩).size ≤ 28) ∧ (∀ i, i < P.length → (H.getD i ⟨#[]⟩).size ≤ 28) ∧ (∀ i, i < P.length → B.getD i false = true → H.getD i ⟨#[]⟩ = ⟨#[]⟩)
theorem toList_ne {z : ByteArray} (h : ¬ z = ⟨#[]⟩) : ¬ z.toList = [] ∧ (z.toList == []) = false := by
 have hz1 : ¬ z.toList = [] := by
  intro e
  apply h
  rw [ByteArray.toList_eq] at e
  apply ByteArray.ext
  simpa using e
 exact ⟨hz1, by simpa using hz1⟩
theorem isSectorCount_yes (n : Int) (w : World) (h : 1 ≤ n ∧ n ≤ 24) : Calls Tryz.prog 90 #[.int .i64 n] w fun e w' => e = .returned (.bool true) ∧ w = w' := by
 obtain ⟨h1, h2⟩ := h
 go_enter Tryz.func90, Tryz.ntmps90
 go_wp2
 go_ret
 exact ⟨by simp, rfl⟩
theorem isSectorCount_no (n : Int) (w : World) (h : ¬ (1 ≤ n ∧ n ≤ 24)) : Calls Tryz.prog 90 #[.int .i64 n] w fun e w' => e = .returned (.bool false) ∧ w = w' := by
 by_cases h1 : 1 ≤ n
 ·have h2 : ¬ n ≤ 24 := fun e => h ⟨h1, e⟩
  clear h
  go_enter Tryz.func90, Tryz.ntmps90
  go_wp2
  go_ret
  exact ⟨by simp, rfl⟩
 ·clear h
  go_enter Tryz.func90, Tryz.ntmps90
  go_wp2
  go_ret
  exact ⟨rfl, rfl⟩
theorem fitsSector_calls (z : ByteArray) (g : Bool) (w : World) (hg : g = true ↔ z.size ≤ 28) (hz : z.size ≤ maxLen) : Calls Tryz.prog 92 #[.string z] w fun e w' => e = .returned (.bool g) ∧ w = w' := by
 unfold maxLen at hz
 have HG := hide hg
 clear hg
 go_enter Tryz.func92, Tryz.ntmps92
 go_wp2
 go_ret
 refine ⟨ret_bool ?_, rfl⟩
 have := HG.out
 cases g
 ·simp at this
  simp; omega
 ·simp at this
  simp; omega
theorem allFit_calls (v : Value) (xs : List ByteArray) (g : Bool) (w : World) (h : RdT w v xs) (hg : g = true ↔ ∀ i, i < xs.length → (xs.getD i ⟨#[]⟩).size ≤ 28) :
    Calls Tryz.prog 91 #[v, .func (.func 92) #[] #[]] w fun e w' => e = .returned (.bool g) ∧ w = w' := by
 obtain ⟨a, cap, rfl, h1, h2, h4, h3⟩ := h
 have hm : xs.length ≤ maxLen := by omega
 unfold maxLen at hm
 have H3 := hide h3
 have H4 := hide h4
 have HG := hide hg
 clear h3 h4 h2 h1 hg
 go_enter Tryz.func91, Tryz.ntmps91
 go_wp2
 go_loop [9] (fun vi => ∃ k : Nat, k ≤ xs.length ∧ vi = .int .i64 k ∧ ∀ i, i < k → (xs.getD i ⟨#[]⟩).size ≤ 28) (fun vi => xs.length - (intOf vi).toNat)
 case atStart => exact ⟨0, Nat.zero_le _, rfl, fun i hi => by omega⟩
 case round =>
  obtain ⟨k, hk, rfl, hall⟩ := hrel
  have HA := hide hall
  clear hall
  by_cases hlt : k < xs.length
  ·rcases H3.out with h3 | ⟨b, off, rfl, hbs, hc⟩
   ·subst h3; simp at hlt
   have hc1 := hc k hlt
   have hz : (xs.getD k ⟨#[]⟩).size ≤ maxLen := by
    apply H4.out
    rw [qg, List.getElem?_eq_getElem hlt]
    exact List.getElem_mem hlt
   clear hc
   obtain ⟨z, hzz⟩ : ∃ z, z = xs.getD k ⟨#[]⟩ := ⟨_, rfl⟩
   rw [← hzz] at hc1 hz
   have HZ := hide hzz
   have hlt' : (k : Int) < (xs.length : Int) := by omega
   clear hzz
   by_cases h28 : z.size ≤ 28
   ·have C : Hid (∀ W, Calls Tryz.prog 92 #[.string z] W fun e w' => e = .returned (.bool true) ∧ W = w') := fun W => fitsSector_calls z true W ⟨fun _ => h28, fun _ => rfl⟩ hz
    have H28 := hide h28
    clear h28 hz
    go_wp2_with fail
    refine (C.out _).mono ?_
    rintro e w1 ⟨rfl, rfl⟩
    go_wp2
    go_round
    case rel =>
     refine ⟨k + 1, by omega, by go_num, fun i hi => ?_⟩
     by_cases e : i = k
     ·subst e; rw [← HZ.out]; exact H28.out
     ·exact HA.out i (by omega)
    case measure => simp [intOf]; omega
   ·have C : Hid (∀ W, Calls Tryz.prog 92 #[.string z] W fun e w' => e = .returned (.bool false) ∧ W = w') := fun W => fitsSector_calls z false W ⟨fun h => by simp at h, fun h => absurd h h28⟩ hz
    have H28 := hide h28
    clear h28 hz
    go_wp2_with fail
    refine (C.out _).mono ?_
    rintro e w1 ⟨rfl, rfl⟩
    go_wp2
    go_ret
    refine ⟨ret_bool ?_, rfl⟩
    cases g with
    | false => rfl
    | true => exact absurd (HG.out.1 rfl k hlt) (by rw [← HZ.out]; exact H28.out)
  ·obtain rfl : k = xs.length := by omega
   go_wp2
   go_ret
   exact ⟨ret_bool (HG.out.2 HA.out).symm, rfl⟩
theorem RdT.cell {w : World} {a : Option Addr} {n cap : Nat} {xs : List ByteArray} (h : RdT w (.slice a n cap) xs) (i : Nat) (hi : i < xs.length) : ∃ b off, a = some ⟨b, off, none⟩ ∧ w.cell? ⟨b, off + i, none⟩ = some (.string (xs.getD i ⟨#[]⟩)) ∧ b < w.heap.size := by
 obtain ⟨a', cap', hv, _, _, _, h3⟩ := h
 simp only [Value.slice.injEq] at hv
 obtain ⟨rfl, rfl, rfl⟩ := hv
 rcases h3 with h3 | ⟨b, off, rfl, hlt, hc⟩
 ·subst h3; simp at hi
 ·exact ⟨b, off, rfl, hc i hi, hlt⟩
theorem RdZ.cell {w : World} {a : Option Addr} {n cap : Nat} {xs : List Bool} (h : RdZ w (.slice a n cap) xs) (i : Nat) (hi : i < xs.length) : ∃ b off, a = some ⟨b, off, none⟩ ∧ w.cell? ⟨b, off + i, none⟩ = some (.bool (xs.getD i false)) ∧ b < w.heap.size := by
 obtain ⟨a', cap', hv, _, _, h3⟩ := h
 simp only [Value.slice.injEq] at hv
 obtain ⟨rfl, rfl, rfl⟩ := hv
 rcases h3 with h3 | ⟨b, off, rfl, hlt, hc⟩
 ·subst h3; simp at hi
 ·exact ⟨b, off, rfl, hc i hi, hlt⟩
theorem RdT.sl {w : World} {v : Value} {xs : List ByteArray} (h : RdT w v xs) : ∃ a cap, v = .slice a xs.length cap ∧ xs.length ≤ 9223372036854775807 ∧ xs.length ≤ cap := by
 obtain ⟨a, cap, rfl, h1, h2, _⟩ := h
 have h3 := h2.1
 exact ⟨a, cap, rfl, by unfold maxLen at h3; omega, h1⟩
theorem RdZ.sl {w : World} {v : Value} {xs : List Bool} (h : RdZ w v xs) : ∃ a cap, v = .slice a xs.length cap ∧ xs.length ≤ 9223372036854775807 ∧ xs.length ≤ cap := by
 obtain ⟨a, cap, rfl, h1, h2, _⟩ := h
 have h3 := h2.1
 exact ⟨a, cap, rfl, by unfold maxLen at h3; omega, h1⟩
theorem RdT.szAt {w : World} {v : Value} {xs : List ByteArray} (h : RdT w v xs) (i : Nat) : (xs.getD i ⟨#[]⟩).size ≤ 9223372036854775807 := by
 have := h.small
 rw [qg]
 cases hx : xs[i]? with
 | none => exact Nat.zero_le _
 | some s =>
  have h1 := this s (List.mem_of_getElem? hx)
  unfold maxLen at h1
  simp; omega
theorem gk_bool' (P H : List ByteArray) (B : List Bool) : ∃ g : Bool, g = true ↔ gkP P H B := by
 by_cases hh : gkP P H B
 ·exact ⟨true, fun _ => hh, fun _ => rfl⟩
 ·exact ⟨false, fun h => by simp at h, fun h => absurd h hh⟩
theorem gk_no1 {P H : List ByteArray} {B : List Bool} {g : Bool} (hg : g = true ↔ gkP P H B) (h : ¬ gkP P H B) : g = false := by
 cases g with
 | false => rfl
 | true => exact absurd (hg.1 rfl) h
theorem goodDisk_calls (p h b : Value) (P H : List ByteArray) (B : List Bool) (g : Bool) (w : World) (hg : g = true ↔ gkP P H B) (hp : RdT w p P) (hh : RdT w h H) (hb : RdZ w b B) :
    Calls Tryz.prog 51 #[.agg #[p, h, b]] w fun e w' => e = .returned (.bool g) ∧ Below w.heap.size w w' := by
 have b0 := below_box w (.cells #[p, h, b] 26)
 have RP := hide (hp.below b0)
 have RH := hide (hh.below b0)
 have RB := hide (hb.below b0)
 have B0 := hide b0
 have HG := hide hg
 obtain ⟨ap, cp, rfl, mp, _⟩ := hp.sl
 obtain ⟨ah, ch, rfl, mh, _⟩ := hh.sl
 obtain ⟨ab, cb, rfl, mb, _⟩ := hb.sl
 clear b0 hp hh hb hg
 by_cases h1 : 1 ≤ P.length ∧ P.length ≤ 24
 case neg =>
  have e0 := hide (gk_no1 HG.out (fun h => h1 h.1))
  go_enter Tryz.func51, Tryz.ntmps51
  go_wp2_with fail
  refine (isSectorCount_no _ _ (by omega)).mono ?_
  rintro e w1 ⟨rfl, rfl⟩
  go_wp2
  go_ret
  exact ⟨ret_bool e0.out.symm, B0.out⟩
 have h1' : 1 ≤ (P.length : Int) ∧ (P.length : Int) ≤ 24 := by omega
 by_cases h2 : H.length = P.length
 case neg =>
  have e0 := hide (gk_no1 HG.out (fun h => h2 h.2.1))
  have h2' : ¬ (H.length : Int) = (P.length : Int) := by omega
  have h2b : ((H.length : Int) == (P.length : Int)) = false := by simpa using h2'
  clear h2
  go_enter Tryz.func51, Tryz.ntmps51
  go_wp2_with fail
  refine (isSectorCount_yes _ _ h1').mono ?_
  rintro e w1 ⟨rfl, rfl⟩
  go_wp2
  go_ret
  exact ⟨ret_bool e0.out.symm, B0.out⟩
 by_cases h3 : B.length = P.length
 case neg =>
  have e0 := hide (gk_no1 HG.out (fun h => h3 h.2.2.1))
  have h3' : ¬ (B.length : Int) = (P.length : Int) := by omega
  have h3b : ((B.length : Int) == (P.length : Int)) = false := by simpa using h3'
  rw [h2] at B0 ⊢
  clear h2 h3
  go_enter Tryz.func51, Tryz.ntmps51
  go_wp2_with fail
  refine (isSectorCount_yes _ _ h1').mono ?_
  rintro e w1 ⟨rfl, rfl⟩
  go_wp2
  go_ret
  exact ⟨ret_bool e0.out.symm, B0.out⟩
 rw [h2, h3] at RP RH RB B0 ⊢
 obtain ⟨n, hn⟩ : ∃ n, n = P.length := ⟨_, rfl⟩
 have LP := hide hn
 have LH := hide (hn.trans h2.symm)
 have LB := hide (hn.trans h3.symm)
 rw [← hn] at RP RH RB B0 mp h1 h1' ⊢
 clear hn h2 h3 mh mb
 have X0 := hide (BoxAt.new w #[.slice ap n cp, .slice ah n ch, .slice ab n cb] 26)
 have GP : Hid (∃ g1 : Bool, g1 = true ↔ ∀ i, i < P.length → (P.getD i ⟨#[]⟩).size ≤ 28) := by
  show ∃ g1 : Bool, _
  by_cases hh : ∀ i, i < P.length → (P.getD i ⟨#[]⟩).size ≤ 28
  ·exact ⟨true, fun _ => hh, fun _ => rfl⟩
  ·exact ⟨false, fun h => by simp at h, fun h => absurd h hh⟩
 have GH : Hid (∃ g1 : Bool, g1 = true ↔ ∀ i, i < H.length → (H.getD i ⟨#[]⟩).size ≤ 28) := by
  show ∃ g1 : Bool, _
  by_cases hh : ∀ i, i < H.length → (H.getD i ⟨#[]⟩).size ≤ 28
  ·exact ⟨true, fun _ => hh, fun _ => rfl⟩
  ·exact ⟨false, fun h => by simp at h, fun h => absurd h hh⟩
 go_enter Tryz.func51, Tryz.ntmps51
 go_wp2_with fail
 refine (isSectorCount_yes _ _ h1').mono ?_
 rintro e w1 ⟨rfl, rfl⟩
 go_wp2
 generalize w.alloc (.cells #[.slice ap n cp, .slice ah n ch, .slice ab n cb] 26) = W at *
 go_loop [4, 5, 29] (fun _ _ vi => ∃ k : Nat, k ≤ n ∧ vi = .int .i64 k ∧ ∀ i, i < k → B.getD i false = true → H.getD i ⟨#[]⟩ = ⟨#[]⟩) (fun _ _ vi => n - (intOf vi).toNat)
 case atStart => exact ⟨0, Nat.zero_le _, rfl, fun i hi => by omega⟩
 case round =>
  obtain ⟨k, hk, rfl, hall⟩ := hrel
  have HA := hide hall
  clear hall
  obtain ⟨c0, c1, c2⟩ := X0.out.c3
  by_cases hlt : k < n
  ·obtain ⟨gb, ob, rfl, hb1, _⟩ := RB.out.cell k (by rw [← LB.out]; exact hlt)
   obtain ⟨gh, oh, rfl, hh1, _⟩ := RH.out.cell k (by rw [← LH.out]; exact hlt)
   obtain ⟨z, hz⟩ : ∃ z, z = H.getD k ⟨#[]⟩ := ⟨_, rfl⟩
   obtain ⟨y, hy⟩ : ∃ y, y = B.getD k false := ⟨_, rfl⟩
   rw [← hz] at hh1
   rw [← hy] at hb1
   have HZ := hide hz
   have HY := hide hy
   clear hz hy
   have hlt' : (k : Int) < (n : Int) := by omega
   cases y with
   | false =>
    clear hh1
    go_wp2
    go_round
    case rel =>
     refine ⟨k + 1, by omega, by go_num, fun i hi hB => ?_⟩
     by_cases e : i = k
     ·subst e; rw [← HY.out] at hB; simp at hB
     ·exact HA.out i (by omega) hB
    case measure => simp [intOf]; omega
   | true =>
    by_cases hz0 : z = ⟨#[]⟩
    ·subst hz0
     go_wp2
     go_round
     case rel =>
      refine ⟨k + 1, by omega, by go_num, fun i hi hB => ?_⟩
      by_cases e : i = k
      ·subst e; exact HZ.out.symm
      ·exact HA.out i (by omega) hB
     case measure => simp [intOf]; omega
    ·obtain ⟨zz1, zz2⟩ := toList_ne hz0
     have e0 := hide (gk_no1 HG.out (fun h => hz0 (HZ.out.trans (h.2.2.2.2.2 k (by rw [← LP.out]; exact hlt) HY.out.symm))))
     clear hz0
     go_wp2
     go_ret
     exact ⟨ret_bool e0.out.symm, B0.out⟩
  ·obtain rfl : k = n := by omega
   clear c2
   obtain ⟨g1, hg1⟩ := GP.out
   obtain ⟨g2, hg2⟩ := GH.out
   have C1 : Hid (∀ V, RdT V (.slice ap k cp) P → Calls Tryz.prog 91 #[.slice ap k cp, .func (.func 92) #[] #[]] V fun e w' => e = .returned (.bool g1) ∧ V = w') := fun V hV => allFit_calls _ P g1 V hV hg1
   have C2 : Hid (∀ V, RdT V (.slice ah k ch) H → Calls Tryz.prog 91 #[.slice ah k ch, .func (.func 92) #[] #[]] V fun e w' => e = .returned (.bool g2) ∧ V = w') := fun V hV => allFit_calls _ H g2 V hV hg2
   have HG1 := hide hg1
   have HG2 := hide hg2
   clear hg1 hg2
   cases g1 with
   | false =>
    have e0 := hide (gk_no1 HG.out (fun h => by have := HG1.out.2 h.2.2.2.1; simp at this))
    go_wp2_with fail
    refine (C1.out _ RP.out).mono ?_
    rintro e w1 ⟨rfl, rfl⟩
    go_wp2
    go_ret
    exact ⟨ret_bool e0.out.symm, B0.out⟩
   | true =>
    go_wp2_with fail
    refine (C1.out _ RP.out).mono ?_
    rintro e w1 ⟨rfl, rfl⟩
    go_wp2_with fail
    refine (C2.out _ RH.out).mono ?_
    rintro e w1 ⟨rfl, rfl⟩
    go_wp2
    go_ret
    refine ⟨ret_bool ?_, B0.out⟩
    cases g2 with
    | false => exact (gk_no1 HG.out (fun h => by have := HG2.out.2 (fun i hi => h.2.2.2.2.1 i (by rw [← LP.out, LH.out]; exact hi)); simp at this)).symm
    | true => exact (HG.out.2 ⟨by rw [← LP.out]; exact h1, by rw [← LP.out, LH.out], by rw [← LP.out, LB.out], HG1.out.1 (by simp), fun i hi => HG2.out.1 (by simp) i (by rw [← LH.out, LP.out]; exact hi), fun i hi => HA.out i (by rw [LP.out]; exact hi)⟩).symm
theorem sGoodDisk_calls (p h b : Value) (P H : List ByteArray) (B : List Bool) (g : Bool) (w : World) (hg : g = true ↔ gkP P H B) (hp : RdT w p P) (hh : RdT w h H) (hb : RdZ w b B) :
    Calls Tryz.prog 39 #[.agg #[p, h, b]] w fun e w' => e = .returned (.bool g) ∧ Below w.heap.size w w' := by
 have b0 := below_box w (.cells #[p, h, b] 26)
 have RP := hide (hp.below b0)
 have RH := hide (hh.below b0)
 have RB := hide (hb.below b0)
 have B0 := hide b0
 have HG := hide hg
 obtain ⟨ap, cp, rfl, mp, _⟩ := hp.sl
 obtain ⟨ah, ch, rfl, mh, _⟩ := hh.sl
 obtain ⟨ab, cb, rfl, mb, _⟩ := hb.sl
 clear b0 hp hh hb hg
 by_cases h1 : 1 ≤ P.length ∧ P.length ≤ 24
 case neg =>
  have e0 := hide (gk_no1 HG.out (fun h => h1 h.1))
  go_enter Tryz.func39, Tryz.ntmps39
  go_wp2_with fail
  refine (l1In_no _ _ _ _ (by omega)).mono ?_
  rintro e w1 ⟨rfl, rfl⟩
  go_wp2
  go_ret
  exact ⟨ret_bool e0.out.symm, B0.out⟩
 have h1a : 1 ≤ (P.length : Int) := by omega
 have h1b : (P.length : Int) ≤ 24 := by omega
 by_cases h2 : H.length = P.length
 case neg =>
  have e0 := hide (gk_no1 HG.out (fun h => h2 h.2.1))
  have h2' : ¬ (H.length : Int) = (P.length : Int) := by omega
  have h2b : ((H.length : Int) == (P.length : Int)) = false := by simpa using h2'
  clear h2
  go_enter Tryz.func39, Tryz.ntmps39
  go_wp2_with fail
  refine (l1In_yes _ _ _ _ h1a h1b).mono ?_
  rintro e w1 ⟨rfl, rfl⟩
  go_wp2
  go_ret
  exact ⟨ret_bool e0.out.symm, B0.out⟩
 by_cases h3 : B.length = P.length
 case neg =>
  have e0 := hide (gk_no1 HG.out (fun h => h3 h.2.2.1))
  have h3' : ¬ (B.length : Int) = (P.length : Int) := by omega
  have h3b : ((B.length : Int) == (P.length : Int)) = false := by simpa using h3'
  rw [h2] at B0 ⊢
  clear h2 h3
  go_enter Tryz.func39, Tryz.ntmps39
  go_wp2_with fail
  refine (l1In_yes _ _ _ _ h1a h1b).mono ?_
  rintro e w1 ⟨rfl, rfl⟩
  go_wp2
  go_ret
  exact ⟨ret_bool e0.out.symm, B0.out⟩
 rw [h2, h3] at RP RH RB B0 ⊢
 obtain ⟨n, hn⟩ : ∃ n, n = P.length := ⟨_, rfl⟩
 have LP := hide hn
 have LH := hide (hn.trans h2.symm)
 have LB := hide (hn.trans h3.symm)
 rw [← hn] at RP RH RB B0 mp h1 h1a h1b ⊢
 clear hn h2 h3 mh mb
 have X0 := hide (BoxAt.new w #[.slice ap n cp, .slice ah n ch, .slice ab n cb] 26)
 go_enter Tryz.func39, Tryz.ntmps39
 go_wp2_with fail
 refine (l1In_yes _ _ _ _ h1a h1b).mono ?_
 rintro e w1 ⟨rfl, rfl⟩
 go_wp2
 generalize w.alloc (.cells #[.slice ap n cp, .slice ah n ch, .slice ab n cb] 26) = W at *
 go_loop [4, 28] (fun _ vi => ∃ k : Nat, k ≤ n ∧ vi = .int .i64 k ∧ ∀ i, i < k → ((P.getD i ⟨#[]⟩).size ≤ 28 ∧ (H.getD i ⟨#[]⟩).size ≤ 28) ∧ (B.getD i false = true → H.getD i ⟨#[]⟩ = ⟨#[]⟩)) (fun _ vi => n - (intOf vi).toNat)
 case atStart => exact ⟨0, Nat.zero_le _, rfl, fun i hi => by omega⟩
 case round =>
  obtain ⟨k, hk, rfl, hall⟩ := hrel
  have HA := hide hall
  clear hall
  obtain ⟨c0, c1, c2⟩ := X0.out.c3
  by_cases hlt : k < n
  ·obtain ⟨gb, ob, rfl, hb1, _⟩ := RB.out.cell k (by rw [← LB.out]; exact hlt)
   obtain ⟨gh, oh, rfl, hh1, _⟩ := RH.out.cell k (by rw [← LH.out]; exact hlt)
   obtain ⟨gp, op, rfl, hp1, _⟩ := RP.out.cell k (by rw [← LP.out]; exact hlt)
   have mz := RH.out.szAt k
   have mu := RP.out.szAt k
   obtain ⟨u, hu⟩ : ∃ u, u = P.getD k ⟨#[]⟩ := ⟨_, rfl⟩
   obtain ⟨z, hz⟩ : ∃ z, z = H.getD k ⟨#[]⟩ := ⟨_, rfl⟩
   obtain ⟨y, hy⟩ : ∃ y, y = B.getD k false := ⟨_, rfl⟩
   rw [← hu] at hp1 mu
   rw [← hz] at hh1 mz
   rw [← hy] at hb1
   have HU := hide hu
   have HZ := hide hz
   have HY := hide hy
   clear hz hy hu
   have hlt' : (k : Int) < (n : Int) := by omega
   by_cases u28 : u.size ≤ 28
   case neg =>
    have e0 := hide (gk_no1 HG.out (fun h => u28 (by rw [HU.out]; exact h.2.2.2.1 k (by rw [← LP.out]; exact hlt))))
    have u1 : (28 : Int) < (u.size : Int) := by omega
    clear hh1 hb1 c1 c2
    go_wp2
    go_ret
    exact ⟨ret_bool e0.out.symm, B0.out⟩
   have u1 : ¬ (28 : Int) < (u.size : Int) := by omega
   have u2 : decide ((28 : Int) < (u.size : Int)) = false := decide_eq_false u1
   by_cases z28 : z.size ≤ 28
   case neg =>
    have e0 := hide (gk_no1 HG.out (fun h => z28 (by rw [HZ.out]; exact h.2.2.2.2.1 k (by rw [← LP.out]; exact hlt))))
    have z1 : (28 : Int) < (z.size : Int) := by omega
    clear hb1 c2
    go_wp2
    go_ret
    exact ⟨ret_bool e0.out.symm, B0.out⟩
   have z1 : ¬ (28 : Int) < (z.size : Int) := by omega
   have z2 : decide ((28 : Int) < (z.size : Int)) = false := decide_eq_false z1
   have S28 := hide (And.intro u28 z28)
   clear u28 z28
   cases y with
   | false =>
    go_wp2
    go_round
    case rel =>
     refine ⟨k + 1, by omega, by go_num, fun i hi => ?_⟩
     by_cases e : i = k
     ·subst e; rw [← HY.out, ← HU.out, ← HZ.out]; exact ⟨S28.out, fun h => by simp at h⟩
     ·exact HA.out i (by omega)
    case measure => simp [intOf]; omega
   | true =>
    by_cases hz0 : z = ⟨#[]⟩
    ·subst hz0
     go_wp2
     go_round
     case rel =>
      refine ⟨k + 1, by omega, by go_num, fun i hi => ?_⟩
      by_cases e : i = k
      ·subst e; rw [← HU.out, ← HZ.out]; exact ⟨S28.out, fun _ => rfl⟩
      ·exact HA.out i (by omega)
     case measure => simp [intOf]; omega
    ·obtain ⟨zz1, zz2⟩ := toList_ne hz0
     have e0 := hide (gk_no1 HG.out (fun h => hz0 (HZ.out.trans (h.2.2.2.2.2 k (by rw [← LP.out]; exact hlt) HY.out.symm))))
     clear hz0
     go_wp2
     go_ret
     exact ⟨ret_bool e0.out.symm, B0.out⟩
  ·obtain rfl : k = n := by omega
   clear c0 c1 c2
   go_wp2
   go_ret
   refine ⟨ret_bool ?_, B0.out⟩
   exact (HG.out.2 ⟨by rw [← LP.out]; exact h1, by rw [← LP.out, LH.out], by rw [← LP.out, LB.out], fun i hi => (HA.out i (by rw [LP.out]; exact hi)).1.1, fun i hi => (HA.out i (by rw [LP.out]; exact hi)).1.2, fun i hi => (HA.out i (by rw [LP.out]; exact hi)).2⟩).symm
end Go.Proofs.YthdbacihhmilbaaGreatDoor

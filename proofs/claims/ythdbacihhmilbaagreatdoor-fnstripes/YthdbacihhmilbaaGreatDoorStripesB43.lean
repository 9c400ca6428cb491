/-
  What is held while a disk is spoilt: besides the cursor and the disk a step in its variable, and the places that it keeps. No call is walked here.
-/
import Derived.Test.YthdbacihhmilbaaGreatDoorStripesB42
import Derived.Test.YthdbacihhmilbaaGreatDoorStripesB30
import Derived.Test.YthdbacihhmilbaaGreatDoorStripesB0
set_option linter.unusedVariables false
namespace Go.Proofs.YthdbacihhmilbaaGreatDoor
open Go.RowKit
structure Sx (W w : World) (g : Nat) (cv : Value) (k gd : Nat) (p h b : Value) (P H : List ByteArray) (B : List Bool) (gx bs : Nat) (K A : Int) (T : ByteArray) (v : Value) (xs : List Int) : Prop where
 s : Sd W w g cv k gd p h b P H B
 x : BoxAt w gx #[.int .i64 K, .int .i64 A, .string T, v] 42
 gt : gd < gx
 dk : ∃ lo hi, DskV w lo hi p h b P H B ∧ W.heap.size + 1 ≤ lo ∧ hi ≤ gx ∧ (hi ≤ gd ∨ gd + 1 ≤ lo)
 hbs : gx + 1 ≤ bs
 own : Own w bs v xs
 tl : T.size ≤ 16
section
variable {W w w' : World} {g k k' gd gx bs : Nat} {cv p h b v v' : Value} {P H : List ByteArray} {B : List Bool} {K A : Int} {T : ByteArray} {xs : List Int}
theorem Sx.draw (s : Sx W w g cv k gd p h b P H B gx bs K A T v xs) (c : CurS w' g cv k') (hg : w.grownBy w' (some g)) : Sx W w' g cv k' gd p h b P H B gx bs K A T v xs := by
 have ch := grown_cur hg
 have h1 := s.s.gl
 have h2 := s.s.gt
 have h3 := s.gt
 obtain ⟨lo, hi, d, a1, a2, a3⟩ := s.dk
 exact ⟨s.s.draw c hg, s.x.chg ch (.inr (by omega)), s.gt, ⟨lo, hi, d.chg ch (.inr (by omega)), a1, a2, a3⟩, s.hbs, own_keep s.own hg (by have := s.hbs; omega), s.tl⟩
theorem Sx.step (s : Sx W w g cv k gd p h b P H B gx bs K A T v xs) (hb : Below w.heap.size w w') : Sx W w' g cv k gd p h b P H B gx bs K A T v xs := by
 obtain ⟨lo, hi, d, a1, a2, a3⟩ := s.dk
 exact ⟨s.s.step hb, s.x.below hb, s.gt, ⟨lo, hi, d.below hb, a1, a2, a3⟩, s.hbs, ownsRow_below s.own hb, s.tl⟩
theorem Sx.mono (s : Sx W w g cv k gd p h b P H B gx bs K A T v xs) (hk : k ≤ k') : Sx W w g cv k' gd p h b P H B gx bs K A T v xs := ⟨s.s.mono hk, s.x, s.gt, s.dk, s.hbs, s.own, s.tl⟩
theorem Sx.set (s : Sx W w g cv k gd p h b P H B gx bs K A T v xs) (i : Nat) (y : Value) (K' A' : Int) (T' : ByteArray) (e : (#[.int .i64 K, .int .i64 A, .string T, v] : Array Value).setIfInBounds i y = #[.int .i64 K', .int .i64 A', .string T', v]) (hT : T'.size ≤ 16) : Sx W (w.setCell ⟨gx, i, none⟩ y) g cv k gd p h b P H B gx bs K' A' T' v xs := by
 have ch := Chg.ofSetCell (lo := gx) (hi := gx + 1) w gx i y (Nat.le_refl _) (by omega)
 have h3 := s.gt
 obtain ⟨lo, hi, d, a1, a2, a3⟩ := s.dk
 have h5 := s.x.lt
 exact ⟨s.s.other ch (by omega) (fun _ _ _ _ => trivial) ⟨lo, hi, d, a1, by omega, a3, .inl a2⟩, by rw [← e]; exact s.x.set i y, s.gt, ⟨lo, hi, d.chg ch (.inl a2), a1, a2, a3⟩, s.hbs, own_keep s.own (chg_grown ch) (by have := s.hbs; omega), hT⟩
theorem Sx.app {o : Obj} {ys : List Int} (s : Sx W w g cv k gd p h b P H B gx bs K A T v xs) (ho : Own w' bs v' ys) (hg : (w.alloc o).grownBy w' v.ownBlock) : Sx W (w'.setCell ⟨gx, 3, none⟩ v') g cv k gd p h b P H B gx bs K A T v' ys := by
 have hge := row_low s.own
 have htop := row_top s.own
 have h3 := s.gt
 have h5 := s.x.lt
 obtain ⟨lo, hi, d, a1, a2, a3⟩ := s.dk
 have h6 := s.hbs
 have c1 : Chg (gx + 1) (w.heap.size + 1) w w' := (Chg.ofAlloc w o).trans (Chg.ofGrown hg (fun j hj => ⟨by have := hge j hj; omega, by have := htop j hj; omega⟩))
 have c2 := Chg.ofSetCell (lo := gx) (hi := gx + 1) w' gx 3 v' (Nat.le_refl _) (by omega)
 have c3 : Chg gx (w.heap.size + 1) w (w'.setCell ⟨gx, 3, none⟩ v') := (c1.wider (by omega) (Nat.le_refl _)).trans (c2.wider (Nat.le_refl _) (by omega))
 exact ⟨s.s.other c3 (by omega) (fun _ _ _ _ => trivial) ⟨lo, hi, d, a1, by omega, a3, .inl a2⟩, (s.x.chg c1 (.inl (by omega))).set 3 v', s.gt, ⟨lo, hi, d.chg c3 (.inl a2), a1, a2, a3⟩, s.hbs, own_keep ho (chg_grown c2) (by omega), s.tl⟩
theorem Sx.boxApp {o : Obj} (s : Sx W w g cv k gd p h b P H B gx bs K A T v xs) (hg : (w.alloc o).grownBy w' v.ownBlock) : BoxAt w' gx #[.int .i64 K, .int .i64 A, .string T, v] 42 := by
 have hge := row_low s.own
 have htop := row_top s.own
 have h6 := s.hbs
 have c1 : Chg (gx + 1) (w.heap.size + 1) w w' := (Chg.ofAlloc w o).trans (Chg.ofGrown hg (fun j hj => ⟨by have := hge j hj; omega, by have := htop j hj; omega⟩))
 exact s.x.chg c1 (.inl (by omega))
theorem Sx.start (s : Sd W w g cv k gd p h b P H B) (K A : Int) : Sx W (w.alloc (.cells #[.int .i64 K, .int .i64 A, .string ⟨#[]⟩, .slice none 0 0] 42)) g cv k gd p h b P H B w.heap.size (w.heap.size + 1) K A ⟨#[]⟩ (.slice none 0 0) [] := by
 have hb := below_box w (.cells #[.int .i64 K, .int .i64 A, .string ⟨#[]⟩, .slice none 0 0] 42)
 obtain ⟨lo, hi, d, a1, a2, a3⟩ := s.dk
 exact ⟨s.step hb, BoxAt.new _ _ _, s.db.lt, ⟨lo, hi, d.below hb, a1, a2, a3⟩, Nat.le_refl _, World.ownsRow_nil _ _ _ _, by decide⟩
theorem Sx.rv (s : Sx W w g cv k gd p h b P H B gx bs K A T v xs) : Rd w v xs := s.own.rd
theorem Sx.rebase {bs' : Nat} (s : Sx W w g cv k gd p h b P H B gx bs K A T (.slice none 0 0) []) (h1 : gx + 1 ≤ bs') : Sx W w g cv k gd p h b P H B gx bs' K A T (.slice none 0 0) [] := ⟨s.s, s.x, s.gt, s.dk, h1, World.ownsRow_nil _ _ _ _, s.tl⟩
end
structure Sl (W w : World) (g : Nat) (cv : Value) (k gd : Nat) (p h b : Value) (P H : List ByteArray) (B : List Bool) (gx bs : Nat) (K A : Int) (T : ByteArray) (v : Value) (xs : List Int) (u : Value) (L : List Int) : Prop where
 x : Sx W w g cv k gd p h b P H B gx bs K A T v xs
 l : Own w (gx + 1) u L
 lt : ∀ j, u.ownBlock = some j → j < bs
 le : bs ≤ w.heap.size
section
variable {W w w' : World} {g k k' gd gx bs : Nat} {cv p h b v v' u : Value} {P H : List ByteArray} {B : List Bool} {K A : Int} {T : ByteArray} {xs L : List Int}
theorem Sl.start (s : Sx W w g cv k gd p h b P H B gx bs K A T (.slice none 0 0) []) (ho : Own w' w.heap.size u L) (hb : Below w.heap.size w w') : Sl W w' g cv k gd p h b P H B gx w'.heap.size K A T (.slice none 0 0) [] u L := by
 have h1 := s.x.lt
 have h2 := hb.size
 exact ⟨(s.step hb).rebase (by omega), Own.mono ho (by omega), row_top ho, Nat.le_refl _⟩
theorem Sl.draw (s : Sl W w g cv k gd p h b P H B gx bs K A T v xs u L) (c : CurS w' g cv k') (hg : w.grownBy w' (some g)) : Sl W w' g cv k' gd p h b P H B gx bs K A T v xs u L := by
 have h1 := s.x.s.gl
 have h2 := s.x.s.gt
 have h3 := s.x.gt
 exact ⟨s.x.draw c hg, own_keep s.l hg (by omega), s.lt, Nat.le_trans s.le hg.size⟩
theorem Sl.app {o : Obj} {ys : List Int} (s : Sl W w g cv k gd p h b P H B gx bs K A T v xs u L) (ho : Own w' bs v' ys) (hg : (w.alloc o).grownBy w' v.ownBlock) : Sl W (w'.setCell ⟨gx, 3, none⟩ v') g cv k gd p h b P H B gx bs K A T v' ys u L := by
 have hge := row_low s.x.own
 have htop := row_top s.x.own
 have h6 := s.x.hbs
 have c1 : Chg bs (w.heap.size + 1) w w' := (Chg.ofAlloc w o).trans (Chg.ofGrown hg (fun j hj => ⟨hge j hj, by have := htop j hj; omega⟩))
 have c2 := Chg.ofSetCell (lo := gx) (hi := gx + 1) w' gx 3 v' (Nat.le_refl _) (by omega)
 exact ⟨s.x.app ho hg, (s.l.chg s.lt c1 (.inl (Nat.le_refl _))).chg s.lt c2 (.inr (Nat.le_refl _)), s.lt, Nat.le_trans s.le (Nat.le_trans c1.size c2.size)⟩
end
structure Sk (W w : World) (g : Nat) (cv : Value) (k gd : Nat) (p h b : Value) (P H : List ByteArray) (B : List Bool) (gx : Nat) : Prop where
 s : Sd W w g cv k gd p h b P H B
 gt : gd < gx
 le : gx ≤ w.heap.size
 dk : ∃ lo hi, DskV w lo hi p h b P H B ∧ W.heap.size + 1 ≤ lo ∧ hi ≤ gx ∧ (hi ≤ gd ∨ gd + 1 ≤ lo)
section
variable {W w w' : World} {g k k' gd gx : Nat} {cv p h b : Value} {P H : List ByteArray} {B : List Bool}
theorem Sk.start (s : Sd W w g cv k gd p h b P H B) : Sk W w g cv k gd p h b P H B w.heap.size := by
 obtain ⟨lo, hi, d, a1, a2, a3⟩ := s.dk
 exact ⟨s, s.db.lt, Nat.le_refl _, lo, hi, d, a1, a2, a3⟩
theorem Sk.draw (s : Sk W w g cv k gd p h b P H B gx) (c : CurS w' g cv k') (hg : w.grownBy w' (some g)) : Sk W w' g cv k' gd p h b P H B gx := by
 have ch := grown_cur hg
 have h1 := s.s.gl
 have h2 := s.s.gt
 obtain ⟨lo, hi, d, a1, a2, a3⟩ := s.dk
 exact ⟨s.s.draw c hg, s.gt, Nat.le_trans s.le hg.size, lo, hi, d.chg ch (.inr (by omega)), a1, a2, a3⟩
theorem Sk.step (s : Sk W w g cv k gd p h b P H B gx) (hb : Below w.heap.size w w') : Sk W w' g cv k gd p h b P H B gx := by
 obtain ⟨lo, hi, d, a1, a2, a3⟩ := s.dk
 exact ⟨s.s.step hb, s.gt, Nat.le_trans s.le hb.size, lo, hi, d.below hb, a1, a2, a3⟩
theorem Sk.other {x y : Nat} (s : Sk W w g cv k gd p h b P H B gx) (ch : Chg x y w w') (hx : gx ≤ x) : Sk W w' g cv k gd p h b P H B gx := by
 obtain ⟨lo, hi, d, a1, a2, a3⟩ := s.dk
 have h3 := s.gt
 have h4 := s.le
 exact ⟨s.s.other ch (by omega) (fun _ _ _ _ => trivial) ⟨lo, hi, d, a1, by omega, a3, .inl (by omega)⟩, s.gt, Nat.le_trans s.le ch.size, lo, hi, d.chg ch (.inl (by omega)), a1, a2, a3⟩
end
structure Dq (w : World) (gx gy : Nat) (p h b : Value) (P H : List ByteArray) (B : List Bool) : Prop where
 d : ∃ lo hi, DskV w lo hi p h b P H B ∧ gx ≤ lo ∧ hi ≤ w.heap.size ∧ (hi ≤ gy ∨ gy + 1 ≤ lo)
section
variable {W w w1 : World} {g k gd gx gy : Nat} {cv p h b p' h' b' : Value} {P H P' H' : List ByteArray} {B B' : List Bool} {cs : Array Value} {T : TypeId}
theorem Dq.made (s : Sk W w g cv k gd p h b P H B gx) (hb : Below w.heap.size w w1) (d : DskV w1 w.heap.size w1.heap.size p' h' b' P' H' B') : Dq w1 gx w1.heap.size p' h' b' P' H' B' := ⟨_, _, d, s.le, Nat.le_refl _, .inl (Nat.le_refl _)⟩
theorem Dq.madeX (s : Sk W w g cv k gd p h b P H B gx) (x : BoxAt w gy cs T) (hb : Below w.heap.size w w1) (d : DskV w1 w.heap.size w1.heap.size p' h' b' P' H' B') : Dq w1 gx gy p' h' b' P' H' B' := ⟨_, _, d, s.le, Nat.le_refl _, .inr x.lt⟩
theorem Dq.step (s : Dq w gx gy p h b P H B) (hb : Below w.heap.size w w1) : Dq w1 gx gy p h b P H B := by
 obtain ⟨lo, hi, d, a1, a2, a3⟩ := s.d
 exact ⟨lo, hi, d.below hb, a1, Nat.le_trans a2 hb.size, a3⟩
end
structure Sy (W w : World) (g : Nat) (cv : Value) (k gd : Nat) (p h b : Value) (P H : List ByteArray) (B : List Bool) (gy : Nat) (p' h' b' : Value) (P' H' : List ByteArray) (B' : List Bool) : Prop where
 s : Sd W w g cv k gd p h b P H B
 y : BoxAt w gy #[p', h', b'] 26
 d : ∃ lo hi, DskV w lo hi p' h' b' P' H' B' ∧ gd + 1 ≤ lo ∧ hi ≤ w.heap.size
 hl : H'.length ≤ 24
section
variable {W w w' : World} {g k k' gd gx gy : Nat} {cv p h b p' h' b' : Value} {P H P' H' : List ByteArray} {B B' : List Bool}
theorem Sy.take (s : Sy W w g cv k gd p h b P H B gy p' h' b' P' H' B') : Sd W (((w.setCell ⟨gd, 0, none⟩ p').setCell ⟨gd, 1, none⟩ h').setCell ⟨gd, 2, none⟩ b') g cv k gd p' h' b' P' H' B' := by
 obtain ⟨lo, hi, d, a1, a2⟩ := s.d
 exact s.s.put d a1 a2 s.hl
theorem Sy.made {w1 : World} (s : Sd W w g cv k gd p h b P H B) (hb : Below w.heap.size w w1) (d : DskV w1 w.heap.size w1.heap.size p' h' b' P' H' B') (hl : H'.length ≤ 24) : Sy W (w1.alloc (.cells #[p', h', b'] 26)) g cv k gd p h b P H B w1.heap.size p' h' b' P' H' B' := by
 have b2 := below_box w1 (.cells #[p', h', b'] 26)
 have h1 := s.db.lt
 exact ⟨(s.step hb).step b2, BoxAt.new _ _ _, ⟨_, _, d.below b2, h1, b2.size⟩, hl⟩
theorem Sy.put {x0 x1 x2 : Value} (s : Sk W w g cv k gd p h b P H B gx) (hgy : gx ≤ gy) (y : BoxAt w gy #[x0, x1, x2] 26) (q : Dq w gx gy p' h' b' P' H' B') (hl : H'.length ≤ 24) :
    Sy W (((w.setCell ⟨gy, 0, none⟩ p').setCell ⟨gy, 1, none⟩ h').setCell ⟨gy, 2, none⟩ b') g cv k gd p h b P H B gy p' h' b' P' H' B' := by
 obtain ⟨lo, hi, d, hlo, hhi, hd⟩ := q.d
 have ch := Chg.store3 (lo := gy) (hi := gy + 1) w gy p' h' b' (Nat.le_refl _) (by omega)
 have h1 := y.lt
 have h2 := ch.size
 have h3 := s.gt
 exact ⟨(s.other ch hgy).s, y.store3 _ _ _, ⟨lo, hi, d.chg ch hd, by omega, by omega⟩, hl⟩
theorem Sy.mono (s : Sy W w g cv k gd p h b P H B gy p' h' b' P' H' B') (hk : k ≤ k') : Sy W w g cv k' gd p h b P H B gy p' h' b' P' H' B' := ⟨s.s.mono hk, s.y, s.d, s.hl⟩
theorem Sd.well (s : Sd W w g cv k gd p h b P H B) : Sd W (w.setCell ⟨gd, 2, none⟩ (.slice none 0 0)) g cv k gd p h (.slice none 0 0) P H [] := by
 obtain ⟨n, q, hn, hh⟩ := s.at_
 obtain ⟨lo, hi, d, a1, a2, a3⟩ := s.dk
 have h1 := s.gl
 have h2 := s.gt
 have ch := Chg.ofSetCell (lo := gd) (hi := gd + 1) w gd 2 (.slice none 0 0) (Nat.le_refl _) (by omega)
 have h3 := ch.size
 have hgr : W.grownBy (w.setCell ⟨gd, 2, none⟩ (.slice none 0 0)) (some g) := ⟨ch.os.trans s.grown.os, ch.tape.trans s.grown.tape, ch.output.trans s.grown.output, Nat.le_trans s.grown.size h3, fun j hj hne => (ch.block j (Nat.lt_of_lt_of_le hj s.grown.size) (.inl (by omega))).trans (s.grown.block j hj hne)⟩
 have d' : DskV w lo hi p h (.slice none 0 0) P H [] := ⟨d.plate, d.held, World.ownsRow_nil _ _ _ _, d.tp, d.th, fun k hk => by simp [Value.ownBlock] at hk, d.ph, d.sp, d.sh⟩
 exact ⟨⟨n, q, hn, by rw [ch.block g (Array.getElem?_eq_some_iff.1 hh).1 (.inl (by omega))]; exact hh⟩, s.code, hgr, s.gl, s.rb.chg ch (.inl (by omega)), s.db.set 2 _, s.gt, ⟨lo, hi, d'.chg ch (by omega), a1, by omega, a3⟩, s.hl⟩
theorem Sd.ret (s : Sd W w g cv k gd p h b P H B) (w' : World) (e : w' = ((w.setCell ⟨W.heap.size, 0, none⟩ p).setCell ⟨W.heap.size, 1, none⟩ h).setCell ⟨W.heap.size, 2, none⟩ b) :
    DskV w' W.heap.size w'.heap.size p h b P H B ∧ CurS w' g cv k ∧ W.grownBy w' (some g) ∧ BoxAt w' W.heap.size #[p, h, b] 26 := by
 subst e
 obtain ⟨n, q, hn, hh⟩ := s.at_
 obtain ⟨lo, hi, d, a1, a2, a3⟩ := s.dk
 have h1 := s.gl
 have ch := Chg.store3 (lo := W.heap.size) (hi := W.heap.size + 1) w W.heap.size p h b (Nat.le_refl _) (by omega)
 have h3 := ch.size
 have hgr : W.grownBy (((w.setCell ⟨W.heap.size, 0, none⟩ p).setCell ⟨W.heap.size, 1, none⟩ h).setCell ⟨W.heap.size, 2, none⟩ b) (some g) := ⟨ch.os.trans s.grown.os, ch.tape.trans s.grown.tape, ch.output.trans s.grown.output, Nat.le_trans s.grown.size h3, fun j hj hne => (ch.block j (Nat.lt_of_lt_of_le hj s.grown.size) (.inl (by omega))).trans (s.grown.block j hj hne)⟩
 exact ⟨(d.chg ch (.inr (by omega))).wider (by omega) (by omega), ⟨⟨n, q, hn, by rw [ch.block g (Array.getElem?_eq_some_iff.1 hh).1 (.inl (by omega))]; exact hh⟩, fun w2 h2 => s.code w2 (grown_transA hgr h2)⟩, hgr, s.rb.store3 _ _ _⟩
end
end Go.Proofs.YthdbacihhmilbaaGreatDoor

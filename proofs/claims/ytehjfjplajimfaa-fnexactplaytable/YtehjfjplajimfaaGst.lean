/-
  What was there ahead of a call and is written by it, besides what is the call's own; tables so held. No program, no condition.
-/
import Derived.Test.YtehjfjplajimfaaTbz
namespace Go.Proofs.Ytehjfjplajimfaa
open Go.RowKit
set_option linter.unusedVariables false

theorem HeldG.low {W w w' : World} {a b : Nat} (hc : Chg a b w w') (hb : b ≤ W.heap.size) : ∀ {top : Nat} {L : List Tg}, HeldG W w top L → HeldG W w' top L
  | _, [], h => h
  | _, _ :: _, ⟨lo, hi, h0, h1, h2, h⟩ => ⟨lo, hi, ⟨h0.1, h0.1 _ _ _ _ _ _ h0.2 hc (.inr (Nat.le_trans hb h.base))⟩, h1, h2, HeldG.low hc hb h⟩
/-- A thing that was there ahead of the call and that the call writes; and what is the call's own. -/
structure Guest (lo hi : Nat) (W w : World) (t : Tg) (L : List Tg) : Prop where
  base : hi ≤ W.heap.size
  chg : Chg lo hi W w
  st : t.st
  it : t lo hi w
  held : HeldG W w w.heap.size L
theorem Hand.guest {lo hi : Nat} {W w : World} {L : List Tg} {t : Tg} (h : Hand W w L) (hb : hi ≤ W.heap.size) (hs : t.st) (ht : t lo hi W) : Guest lo hi W w t L :=
  ⟨hb, Chg.ofBelow h.below, hs, hs _ _ _ _ _ _ ht (Chg.ofBelow (lo := W.heap.size) (hi := W.heap.size) h.below) (.inl hb), h.held⟩
theorem Guest.step {lo hi : Nat} {W w w' : World} {t : Tg} {L : List Tg} (G : Guest lo hi W w t L) (hb : Below w.heap.size w w') : Guest lo hi W w' t L :=
  ⟨G.base, G.chg.trans (Chg.ofBelow hb), G.st, G.st _ _ _ _ _ _ G.it (Chg.ofBelow (lo := w.heap.size) (hi := w.heap.size) hb) (.inl (Nat.le_trans G.base G.chg.size)), (HeldG.chg (a := w.heap.size) (b := w.heap.size) (Chg.ofBelow hb) G.held (Nat.le_refl _)).up hb.size⟩
theorem Guest.box {lo hi : Nat} {W w : World} {t : Tg} {L : List Tg} (G : Guest lo hi W w t L) (cs : Array Value) (T : TypeId) : Guest lo hi W (w.alloc (.cells cs T)) t (TBox w.heap.size cs T :: L) :=
  ⟨G.base, (G.step (below_box w _)).chg, G.st, (G.step (below_box w _)).it, w.heap.size, (w.alloc (.cells cs T)).heap.size, ⟨TBox.st _ _ _, Nat.le_refl _, by simp, BoxAt.new w cs T⟩, (below_box w (.cells cs T)).size, Nat.le_refl _, HeldG.chg (a := w.heap.size) (b := w.heap.size) (Chg.ofBelow (below_box w _)) G.held (Nat.le_refl _)⟩
theorem Guest.low {lo hi : Nat} {W w w' : World} {t t' : Tg} {L : List Tg} (G : Guest lo hi W w t L) (hs : t'.st) (ht : t' lo hi w') (hc : Chg lo hi w w') : Guest lo hi W w' t' L :=
  ⟨G.base, G.chg.trans hc, hs, ht, (HeldG.low hc G.base G.held).up hc.size⟩
theorem Guest.drop {lo hi : Nat} {W w : World} {t u : Tg} {L : List Tg} (G : Guest lo hi W w t (u :: L)) : Guest lo hi W w t L :=
  ⟨G.base, G.chg, G.st, G.it, by obtain ⟨a, b, _, h1, h2, h⟩ := G.held; exact h.up (Nat.le_trans h1 h2)⟩
theorem Guest.get {lo hi : Nat} {W w : World} {t u : Tg} {L : List Tg} (G : Guest lo hi W w t L) (i : Nat) (h : L[i]? = some u) : ∃ a b, u a b w := by
  obtain ⟨a, b, ok, _⟩ := HeldG.open G.held h
  exact ⟨a, b, ok⟩
theorem Guest.atBox {lo hi : Nat} {W w : World} {t : Tg} {L : List Tg} {g : Nat} {cs : Array Value} {T : TypeId} (G : Guest lo hi W w t L) (i : Nat) (h : L[i]? = some (TBox g cs T)) : BoxAt w g cs T := by
  obtain ⟨_, _, _, _, h⟩ := G.get i h
  exact h
theorem Guest.store3 {lo hi : Nat} {W w : World} {t : Tg} {L : List Tg} {g : Nat} {a b c : Value} {T : TypeId} (G : Guest lo hi W w t L) (i : Nat) (h : L[i]? = some (TBox g #[a, b, c] T)) (v0 v1 v2 : Value) :
    Guest lo hi W (((w.setCell ⟨g, 0, none⟩ v0).setCell ⟨g, 1, none⟩ v1).setCell ⟨g, 2, none⟩ v2) t (L.set i (TBox g #[v0, v1, v2] T)) := by
  obtain ⟨lo', hi2, ⟨b1, b2, b3⟩, hb, ht, put⟩ := HeldG.open G.held h
  have hc := Chg.store3 (lo := lo') (hi := hi2) w g v0 v1 v2 b1 b2
  exact ⟨G.base, chg_new G.chg hc hb, G.st, G.st _ _ _ _ _ _ G.it hc (.inl (Nat.le_trans G.base hb)), (put _ (TBox g #[v0, v1, v2] T) (TBox.st _ _ _) ⟨b1, b2, b3.store3 v0 v1 v2⟩ hc).up hc.size⟩

theorem Guest.setBox {lo hi : Nat} {W w : World} {t : Tg} {L : List Tg} {g : Nat} {cs : Array Value} {T : TypeId} (G : Guest lo hi W w t L) (i : Nat) (h : L[i]? = some (TBox g cs T)) (j : Nat) (v : Value) :
    Guest lo hi W (w.setCell ⟨g, j, none⟩ v) t (L.set i (TBox g (cs.setIfInBounds j v) T)) := by
  obtain ⟨lo', hi2, ⟨b1, b2, b3⟩, hb, ht, put⟩ := HeldG.open G.held h
  have hc := Chg.ofSetCell (lo := lo') (hi := hi2) w g j v b1 b2
  exact ⟨G.base, chg_new G.chg hc hb, G.st, G.st _ _ _ _ _ _ G.it hc (.inl (Nat.le_trans G.base hb)), (put _ (TBox g (cs.setIfInBounds j v) T) (TBox.st _ _ _) ⟨b1, b2, b3.set j v⟩ hc).up hc.size⟩
theorem Guest.store4 {lo hi : Nat} {W w : World} {t : Tg} {L : List Tg} {g : Nat} {a b c d : Value} {T : TypeId} (G : Guest lo hi W w t L) (i : Nat) (h : L[i]? = some (TBox g #[a, b, c, d] T)) (v0 v1 v2 v3 : Value) :
    Guest lo hi W ((((w.setCell ⟨g, 0, none⟩ v0).setCell ⟨g, 1, none⟩ v1).setCell ⟨g, 2, none⟩ v2).setCell ⟨g, 3, none⟩ v3) t (L.set i (TBox g #[v0, v1, v2, v3] T)) := by
  obtain ⟨lo', hi2, ⟨b1, b2, b3⟩, hb, ht, put⟩ := HeldG.open G.held h
  have hc := Chg.store4 (lo := lo') (hi := hi2) w g v0 v1 v2 v3 b1 b2
  exact ⟨G.base, chg_new G.chg hc hb, G.st, G.st _ _ _ _ _ _ G.it hc (.inl (Nat.le_trans G.base hb)), (put _ (TBox g #[v0, v1, v2, v3] T) (TBox.st _ _ _) ⟨b1, b2, b3.store4 v0 v1 v2 v3⟩ hc).up hc.size⟩
/-- The world behind a slot's write. -/
abbrev putSl (w : World) (g p : Nat) (x : Sl) : World := ((w.setCell ⟨g, p * 3, none⟩ (.bool x.1)).setCell ⟨g, p * 3 + 1, none⟩ (.int .i64 x.2.1)).setCell ⟨g, p * 3 + 2, none⟩ (.int .i64 x.2.2)
section
variable {w : World} {lo hi gl gr n n' cl cr : Nat} {ls rs : List Sl}
/-- A slot's cells, and that they may be written. -/
theorem TabV.cellsL (d : TabV w lo hi (.slice (some ⟨gl, 0, none⟩) n cl) (.slice (some ⟨gr, 0, none⟩) n' cr) ls rs) (p : Nat) (hp : p < ls.length) :
    (w.cell? ⟨gl, p * 3, none⟩ = some (.bool (ls.getD p sl0).1) ∧ w.cell? ⟨gl, p * 3 + 1, none⟩ = some (.int .i64 (ls.getD p sl0).2.1) ∧ w.cell? ⟨gl, p * 3 + 2, none⟩ = some (.int .i64 (ls.getD p sl0).2.2)) ∧
      w.frozen? ⟨gl, p * 3, none⟩ = false ∧ w.frozen? ⟨gl, p * 3 + 1, none⟩ = false ∧ w.frozen? ⟨gl, p * 3 + 2, none⟩ = false := OwnS.cells d.left p hp
theorem TabV.cellsR (d : TabV w lo hi (.slice (some ⟨gl, 0, none⟩) n cl) (.slice (some ⟨gr, 0, none⟩) n' cr) ls rs) (p : Nat) (hp : p < rs.length) :
    (w.cell? ⟨gr, p * 3, none⟩ = some (.bool (rs.getD p sl0).1) ∧ w.cell? ⟨gr, p * 3 + 1, none⟩ = some (.int .i64 (rs.getD p sl0).2.1) ∧ w.cell? ⟨gr, p * 3 + 2, none⟩ = some (.int .i64 (rs.getD p sl0).2.2)) ∧
      w.frozen? ⟨gr, p * 3, none⟩ = false ∧ w.frozen? ⟨gr, p * 3 + 1, none⟩ = false ∧ w.frozen? ⟨gr, p * 3 + 2, none⟩ = false := OwnS.cells d.right p hp
theorem TabV.putL (d : TabV w lo hi (.slice (some ⟨gl, 0, none⟩) n cl) (.slice (some ⟨gr, 0, none⟩) n' cr) ls rs) (p : Nat) (hp : p < ls.length) (x : Sl) :
    TabV (putSl w gl p x) lo hi (.slice (some ⟨gl, 0, none⟩) n cl) (.slice (some ⟨gr, 0, none⟩) n' cr) (ls.set p x) rs ∧ Chg lo hi w (putSl w gl p x) := by
  obtain ⟨o, g⟩ := OwnS.put3 d.left p hp x
  exact ⟨d.setL o g, d.chgL g⟩
theorem TabV.putR (d : TabV w lo hi (.slice (some ⟨gl, 0, none⟩) n cl) (.slice (some ⟨gr, 0, none⟩) n' cr) ls rs) (p : Nat) (hp : p < rs.length) (x : Sl) :
    TabV (putSl w gr p x) lo hi (.slice (some ⟨gl, 0, none⟩) n cl) (.slice (some ⟨gr, 0, none⟩) n' cr) ls (rs.set p x) ∧ Chg lo hi w (putSl w gr p x) := by
  obtain ⟨o, g⟩ := OwnS.put3 d.right p hp x
  exact ⟨d.setR o g, d.chgR g⟩
theorem TabV.form {l r : Value} (d : TabV w lo hi l r ls rs) (h1 : 0 < ls.length) (h2 : 0 < rs.length) : ∃ gl cl gr cr, l = .slice (some ⟨gl, 0, none⟩) ls.length cl ∧ r = .slice (some ⟨gr, 0, none⟩) rs.length cr := by
  obtain ⟨gl, cl, e1, _⟩ := OwnS.form d.left h1
  obtain ⟨gr, cr, e2, _⟩ := OwnS.form d.right h2
  exact ⟨gl, cl, gr, cr, e1, e2⟩
end
section
variable {lo hi gl gr n n' cl cr : Nat} {W w : World} {L : List Tg} {ls rs : List Sl}
theorem Guest.putL (G : Guest lo hi W w (TTab (.slice (some ⟨gl, 0, none⟩) n cl) (.slice (some ⟨gr, 0, none⟩) n' cr) ls rs) L) (p : Nat) (hp : p < ls.length) (x : Sl) :
    Guest lo hi W (putSl w gl p x) (TTab (.slice (some ⟨gl, 0, none⟩) n cl) (.slice (some ⟨gr, 0, none⟩) n' cr) (ls.set p x) rs) L :=
  G.low (TTab.st _ _ _ _) (TabV.putL G.it p hp x).1 (TabV.putL G.it p hp x).2
theorem Guest.putR (G : Guest lo hi W w (TTab (.slice (some ⟨gl, 0, none⟩) n cl) (.slice (some ⟨gr, 0, none⟩) n' cr) ls rs) L) (p : Nat) (hp : p < rs.length) (x : Sl) :
    Guest lo hi W (putSl w gr p x) (TTab (.slice (some ⟨gl, 0, none⟩) n cl) (.slice (some ⟨gr, 0, none⟩) n' cr) ls (rs.set p x)) L :=
  G.low (TTab.st _ _ _ _) (TabV.putR G.it p hp x).1 (TabV.putR G.it p hp x).2
theorem Hand.putL (A : Hand W w L) (i : Nat) (hi' : L[i]? = some (TTab (.slice (some ⟨gl, 0, none⟩) n cl) (.slice (some ⟨gr, 0, none⟩) n' cr) ls rs)) (p : Nat) (hp : p < ls.length) (x : Sl) :
    Hand W (putSl w gl p x) (L.set i (TTab (.slice (some ⟨gl, 0, none⟩) n cl) (.slice (some ⟨gr, 0, none⟩) n' cr) (ls.set p x) rs)) := by
  obtain ⟨a, b, d, _, _, put⟩ := A.open i hi'
  exact put _ _ (TTab.st _ _ _ _) (TabV.putL d p hp x).1 (TabV.putL d p hp x).2
theorem Hand.putR (A : Hand W w L) (i : Nat) (hi' : L[i]? = some (TTab (.slice (some ⟨gl, 0, none⟩) n cl) (.slice (some ⟨gr, 0, none⟩) n' cr) ls rs)) (p : Nat) (hp : p < rs.length) (x : Sl) :
    Hand W (putSl w gr p x) (L.set i (TTab (.slice (some ⟨gl, 0, none⟩) n cl) (.slice (some ⟨gr, 0, none⟩) n' cr) ls (rs.set p x))) := by
  obtain ⟨a, b, d, _, _, put⟩ := A.open i hi'
  exact put _ _ (TTab.st _ _ _ _) (TabV.putR d p hp x).1 (TabV.putR d p hp x).2
/-- A callee wrote the table. -/
theorem Hand.wrote {l r : Value} {X Y : List Sl} {w' : World} (A : Hand W w L) (i : Nat) (hi' : L[i]? = some (TTab l r ls rs)) (h : ∀ lo hi, TabV w lo hi l r ls rs → hi ≤ w.heap.size → TabV w' lo hi l r X Y ∧ Chg lo hi w w') :
    Hand W w' (L.set i (TTab l r X Y)) := by
  obtain ⟨a, b, d, _, h2, put⟩ := A.open i hi'
  obtain ⟨d', c⟩ := h a b d h2
  exact put _ _ (TTab.st _ _ _ _) d' c
end
end Go.Proofs.Ytehjfjplajimfaa

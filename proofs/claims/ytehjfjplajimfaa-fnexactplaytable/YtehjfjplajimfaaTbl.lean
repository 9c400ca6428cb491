/-
  Tables as values, and what the laws do with them: copy, measure, compare, mark, look for the marks. Each contract says what it asks.
-/
import Derived.Test.YtehjfjplajimfaaSlt
namespace Go.Proofs.Ytehjfjplajimfaa
open Go.RowKit
set_option linter.unusedVariables false

/-- A table's two rows, of the call's own, in blocks from lo up to hi. -/
structure TabV (w : World) (lo hi : Nat) (l r : Value) (ls rs : List Sl) : Prop where
  left : OwnS w lo l ls
  right : OwnS w lo r rs
  tl : ∀ k, l.ownBlock = some k → k < hi
  tr : ∀ k, r.ownBlock = some k → k < hi
  ap : l.ownBlock = none ∨ l.ownBlock ≠ r.ownBlock
section
variable {w w' : World} {lo hi : Nat} {l r : Value} {ls rs : List Sl}
theorem TabV.chg {x y : Nat} (d : TabV w lo hi l r ls rs) (hc : Chg x y w w') (hd : hi ≤ x ∨ y ≤ lo) : TabV w' lo hi l r ls rs :=
  ⟨rowsChg d.left d.tl hc hd, rowsChg d.right d.tr hc hd, d.tl, d.tr, d.ap⟩
theorem TabV.below (d : TabV w lo hi l r ls rs) (hb : Below w.heap.size w w') : TabV w' lo hi l r ls rs :=
  ⟨rowsBelow d.left hb, rowsBelow d.right hb, d.tl, d.tr, d.ap⟩
theorem TabV.wider {lo' hi' : Nat} (d : TabV w lo hi l r ls rs) (h1 : lo' ≤ lo) (h2 : hi ≤ hi') : TabV w lo' hi' l r ls rs :=
  ⟨rowsMono d.left h1, rowsMono d.right h1, fun k hk => Nat.lt_of_lt_of_le (d.tl k hk) h2, fun k hk => Nat.lt_of_lt_of_le (d.tr k hk) h2, d.ap⟩
theorem TabV.nil (w : World) (lo hi : Nat) : TabV w lo hi (.slice none 0 0) (.slice none 0 0) [] [] :=
  ⟨World.ownsRow_nil _ _ _ _, World.ownsRow_nil _ _ _ _, fun k hk => by simp [Value.ownBlock] at hk, fun k hk => by simp [Value.ownBlock] at hk, .inl rfl⟩
theorem TabV.sl (d : TabV w lo hi l r ls rs) : ∃ al cl ar cr, l = .slice al ls.length cl ∧ r = .slice ar rs.length cr := by
  obtain ⟨al, cl, rfl⟩ := d.left.slice
  obtain ⟨ar, cr, rfl⟩ := d.right.slice
  exact ⟨al, cl, ar, cr, rfl, rfl⟩
theorem TabV.ap' (d : TabV w lo hi l r ls rs) : r.ownBlock = none ∨ r.ownBlock ≠ l.ownBlock := by
  rcases d.ap with e | e
  · cases hr : r.ownBlock with
    | none => exact .inl rfl
    | some x => right; rw [e]; simp
  · exact .inr (fun h => e h.symm)
theorem TabV.setL {ls' : List Sl} (d : TabV w lo hi l r ls rs) (ho : OwnS w' lo l ls') (hg : w.grownBy w' l.ownBlock) : TabV w' lo hi l r ls' rs :=
  ⟨ho, World.ownsRow.kept d.right hg d.ap', d.tl, d.tr, d.ap⟩
theorem TabV.setR {rs' : List Sl} (d : TabV w lo hi l r ls rs) (ho : OwnS w' lo r rs') (hg : w.grownBy w' r.ownBlock) : TabV w' lo hi l r ls rs' :=
  ⟨World.ownsRow.kept d.left hg d.ap, ho, d.tl, d.tr, d.ap⟩
theorem TabV.chgL (d : TabV w lo hi l r ls rs) (hg : w.grownBy w' l.ownBlock) : Chg lo hi w w' := Chg.ofGrown hg (fun k hk => ⟨d.left.low k hk, d.tl k hk⟩)
theorem TabV.chgR (d : TabV w lo hi l r ls rs) (hg : w.grownBy w' r.ownBlock) : Chg lo hi w w' := Chg.ofGrown hg (fun k hk => ⟨d.right.low k hk, d.tr k hk⟩)
theorem TabV.rl (d : TabV w lo hi l r ls rs) : RdS w l ls := d.left.rd
theorem TabV.rr (d : TabV w lo hi l r ls rs) : RdS w r rs := d.right.rd
end
def TTab (l r : Value) (ls rs : List Sl) : Tg := fun lo hi w => TabV w lo hi l r ls rs
theorem TTab.st (l r : Value) (ls rs : List Sl) : (TTab l r ls rs).st := fun lo hi x y w w' d hc hd => d.chg hc hd
/-- Two rows held one above another are a table's. -/
theorem Hand.table {W w : World} {L : List Tg} {l r : Value} {ls rs : List Sl} (A : Hand W w (TSls r rs :: TSls l ls :: L)) : TabV w W.heap.size w.heap.size l r ls rs := by
  obtain ⟨lo1, hi1, ⟨_, o1, t1⟩, a1, a2, lo3, hi3, ⟨_, o2, t2⟩, c1, c2, d⟩ := A.held
  have hb := d.base
  refine ⟨rowsMono o2 hb, rowsMono o1 (by omega), fun k hk => by have := t2 k hk; omega, fun k hk => by have := t1 k hk; omega, ?_⟩
  cases hl : l.ownBlock with
  | none => exact .inl rfl
  | some x =>
    right
    intro e
    have h1 := t2 x hl
    have h2 := o1.low x e.symm
    omega
theorem Hand.tab {W w : World} {L : List Tg} {l r : Value} {ls rs : List Sl} (A : Hand W w L) (i : Nat) (hi : L[i]? = some (TTab l r ls rs)) : TabV w W.heap.size w.heap.size l r ls rs := by
  obtain ⟨lo, hi', h, h1, h2, _⟩ := A.open i hi
  exact h.wider h1 h2
abbrev nilT : Array Value := #[.int .i64 0, .slice none 0 0, .slice none 0 0, .int .i64 0]
theorem tbInfo : (Try.prog.info? 28).map (·.size) = some 4 := by kernel_rfl
theorem res_tb {fn : Func} {x : Tmp} (hf : fn.results = #[.cell x 28]) (tmps : Array Value) (w : World) (g : Nat) (a b c d : Value) (fr : Nat × Nat) (hp : tmps.getD x undef = .pointer (some ⟨g, 0, none⟩))
    (hg : w.heap[g]? = some (.cells #[a, b, c, d] 28 fr)) : (results fn tmps).run Try.prog w = .ok (.agg #[a, b, c, d]) w :=
  results_cell_row hf tmps w g _ _ fr _ hp hg Try.underlying28 rfl tbInfo
theorem Hand.setBoxT {W w : World} {L : List Tg} {g : Nat} {cs : Array Value} {T : TypeId} (A : Hand W w L) (i : Nat) (hi : L[i]? = some (TBox g cs T)) (j : Nat) (v : Value) :
    Hand W (w.setCell ⟨g, j, none⟩ v) (L.set i (TBox g (cs.setIfInBounds j v) T)) := by
  obtain ⟨lo, hi', ⟨b1, b2, b3⟩, _, _, put⟩ := A.open i hi
  exact put _ (TBox g (cs.setIfInBounds j v) T) (TBox.st _ _ _) ⟨b1, b2, b3.set j v⟩ (Chg.ofSetCell w g j v b1 b2)
theorem Hand.store4 {W w : World} {L : List Tg} {g : Nat} {a b c d : Value} {T : TypeId} (A : Hand W w L) (i : Nat) (hi : L[i]? = some (TBox g #[a, b, c, d] T)) (v0 v1 v2 v3 : Value) :
    Hand W ((((w.setCell ⟨g, 0, none⟩ v0).setCell ⟨g, 1, none⟩ v1).setCell ⟨g, 2, none⟩ v2).setCell ⟨g, 3, none⟩ v3) (L.set i (TBox g #[v0, v1, v2, v3] T)) := by
  obtain ⟨lo, hi', ⟨b1, b2, b3⟩, _, _, put⟩ := A.open i hi
  exact put _ (TBox g #[v0, v1, v2, v3] T) (TBox.st _ _ _) ⟨b1, b2, b3.store4 v0 v1 v2 v3⟩ (Chg.store4 w g v0 v1 v2 v3 b1 b2)

set_option linter.unusedSimpArgs false in
set_option maxRecDepth 100000 in
set_option maxHeartbeats 1600000 in
theorem toTable_calls (s m : Int) (l r : Value) (ls rs : List Sl) (w : World) (hl : RdS w l ls) (hr : RdS w r rs) (hzl : ls.length ≤ 1048576) (hzr : rs.length ≤ 1048576) :
    Calls Try.prog 16 #[.agg #[.int .i64 s, l, r, .int .i64 m]] w fun e w' => ∃ l' r', e = .returned (.agg #[.int .i64 s, l', r', .int .i64 m]) ∧ TabV w' w.heap.size w'.heap.size l' r' ls rs ∧ Below w.heap.size w w' := by
  have R1 := hide hl
  have R2 := hide hr
  obtain ⟨al, cl, rfl, _, _⟩ := hl.sl
  obtain ⟨ar, cr, rfl, _, _⟩ := hr.sl
  clear hl hr
  have A0 := hide (Hand.threeN w #[.int .i64 s, .slice al ls.length cl, .slice ar rs.length cr, .int .i64 m] nilT #[.int .i64 s, .slice none 0 0, .slice none 0 0, .int .i64 0] 24 28 28)
  go_enter Try.func16, Try.ntmps16
  go_wp2_with fail
  refine (toSlotS_calls _ ls _ (R1.out.below A0.out.below) hzl).mono ?_
  rintro e w1 ⟨g1, rfl, o1, b1⟩
  have A1 := hide (A0.out.add b1 (TSls.st _ _) o1)
  clear o1 b1 A0
  obtain ⟨c0, c1, c2, c3⟩ := (A1.out.atBox 1 rfl).c4
  obtain ⟨e0, e1, e2, e3⟩ := (A1.out.atBox 3 rfl).c4
  have f1 := (A1.out.atBox 1 rfl).frozen 1
  have A2 : Hid (Hand w _ [TSls _ ls, TBox (w.heap.size + 1 + 1) #[.int .i64 s, .slice (some ⟨g1, 0, none⟩) ls.length ls.length, .slice none 0 0, .int .i64 0] 28, TBox (w.heap.size + 1) nilT 28, TBox w.heap.size #[.int .i64 s, .slice al ls.length cl, .slice ar rs.length cr, .int .i64 m] 24]) := A1.out.setBoxT 1 rfl 1 (.slice (some ⟨g1, 0, none⟩) ls.length ls.length)
  clear A1
  go_wp2_with fail
  generalize w1.setCell ⟨w.heap.size + 1 + 1, 1, none⟩ (.slice (some ⟨g1, 0, none⟩) ls.length ls.length) = w2 at *
  clear c0 c1 c2 c3 e0 e1 e2 e3 f1
  refine (toSlotS_calls _ rs _ (R2.out.below A2.out.below) hzr).mono ?_
  rintro e w3 ⟨g3, rfl, o3, b3⟩
  have A3 := hide (A2.out.add b3 (TSls.st _ _) o3)
  clear o3 b3 A2
  obtain ⟨c0, c1, c2, c3⟩ := (A3.out.atBox 2 rfl).c4
  obtain ⟨d0, d1, d2, d3⟩ := (A3.out.atBox 3 rfl).c4
  obtain ⟨e0, e1, e2, e3⟩ := (A3.out.atBox 4 rfl).c4
  have f2 := (A3.out.atBox 2 rfl).frozen 2
  have f3 := (A3.out.atBox 2 rfl).frozen 3
  have g0 := (A3.out.atBox 3 rfl).frozen 0
  have g1' := (A3.out.atBox 3 rfl).frozen 1
  have g2 := (A3.out.atBox 3 rfl).frozen 2
  have g3' := (A3.out.atBox 3 rfl).frozen 3
  have A4 : Hid (Hand w _ [TSls _ rs, TSls _ ls, TBox (w.heap.size + 1 + 1) #[.int .i64 s, .slice (some ⟨g1, 0, none⟩) ls.length ls.length, .slice (some ⟨g3, 0, none⟩) rs.length rs.length, .int .i64 m] 28, TBox (w.heap.size + 1) nilT 28, TBox w.heap.size #[.int .i64 s, .slice al ls.length cl, .slice ar rs.length cr, .int .i64 m] 24]) := (A3.out.setBoxT 2 rfl 2 (.slice (some ⟨g3, 0, none⟩) rs.length rs.length)).setBoxT 2 rfl 3 (.int .i64 m)
  have A5 := hide (A4.out.store4 3 rfl (.int .i64 s) (.slice (some ⟨g1, 0, none⟩) ls.length ls.length) (.slice (some ⟨g3, 0, none⟩) rs.length rs.length) (.int .i64 m))
  clear A3 A4
  go_wp2
  exact bodyPost_ret (res_tb rfl _ _ (w.heap.size + 1) _ _ _ _ (0, 0) rfl (A5.out.atBox 3 rfl)) rfl ⟨_, _, rfl, A5.out.table, A5.out.below⟩

set_option maxRecDepth 100000 in
set_option maxHeartbeats 800000 in
theorem szTable_calls (s m : Int) (l r : Value) (ls rs : List Sl) (w : World) (hl : RdS w l ls) (hr : RdS w r rs) :
    Calls Try.prog 14 #[.agg #[.int .i64 s, l, r, .int .i64 m], .int .i64 1048576] w fun e w' => (∃ x : Int, e = .returned (.int .i64 x) ∧ (x < 0 ∨ (0 ≤ x ∧ ls.length ≤ 1048576 ∧ rs.length ≤ 1048576))) ∧ Below w.heap.size w w' := by
  have b0 := below_box w (.cells #[.int .i64 s, l, r, .int .i64 m] 24)
  have R1 := hide (hl.below b0)
  have R2 := hide (hr.below b0)
  have B0 := hide b0
  obtain ⟨al, cl, rfl, _, _⟩ := hl.sl
  obtain ⟨ar, cr, rfl, _, _⟩ := hr.sl
  clear b0 hl hr
  go_enter Try.func14, Try.ntmps14
  go_wp2_with fail
  refine (szSlotS_calls _ ls _ _ R1.out (by omega) (by omega)).mono ?_
  rintro e w1 ⟨⟨x, rfl, hx⟩, rfl⟩
  rcases hx with hx | ⟨hx0, hx1, hx2⟩
  · go_wp2
    go_ret
    exact ⟨⟨-1, rfl, .inl (by decide)⟩, B0.out⟩
  have hx' : ¬ x < 0 := by omega
  go_wp2_with fail
  refine (szSlotS_calls _ rs _ _ R2.out hx0 hx1).mono ?_
  rintro e w1 ⟨⟨y, rfl, hy⟩, rfl⟩
  rcases hy with hy | ⟨hy0, hy1, hy2⟩
  · go_wp2
    go_ret
    exact ⟨⟨-1, rfl, .inl (by decide)⟩, B0.out⟩
  have hy' : ¬ y < 0 := by omega
  go_wp2
  go_ret
  exact ⟨⟨_, rfl, .inr ⟨hy0, hx2, hy2⟩⟩, B0.out⟩

set_option maxRecDepth 100000 in
set_option maxHeartbeats 800000 in
theorem eqTable_same (s m : Int) (l r l' r' : Value) (ls rs : List Sl) (w : World) (hl : RdS w l ls) (hr : RdS w r rs) (hl' : RdS w l' ls) (hr' : RdS w r' rs) :
    Calls Try.prog 18 #[.agg #[.int .i64 s, l, r, .int .i64 m], .agg #[.int .i64 s, l', r', .int .i64 m]] w fun e w' => e = .returned (.bool true) ∧ Below w.heap.size w w' := by
  obtain ⟨al, cl, rfl, _, _⟩ := hl.sl
  obtain ⟨ar, cr, rfl, _, _⟩ := hr.sl
  obtain ⟨al', cl', rfl, _, _⟩ := hl'.sl
  obtain ⟨ar', cr', rfl, _, _⟩ := hr'.sl
  have A0 := hide (Hand.twoN w #[.int .i64 s, .slice al ls.length cl, .slice ar rs.length cr, .int .i64 m] #[.int .i64 s, .slice al' ls.length cl', .slice ar' rs.length cr', .int .i64 m] 28 28)
  have R1 := hide hl
  have R2 := hide hr
  have R3 := hide hl'
  have R4 := hide hr'
  clear hl hr hl' hr'
  go_enter Try.func18, Try.ntmps18
  go_wp2_with fail
  refine (eqSlotS_same _ _ ls _ (R1.out.below A0.out.below) (R3.out.below A0.out.below)).mono ?_
  rintro e w1 ⟨rfl, b1⟩
  have A1 := hide (A0.out.step b1)
  obtain ⟨c0, c1, c2, c3⟩ := (A1.out.atBox 0 rfl).c4
  obtain ⟨d0, d1, d2, d3⟩ := (A1.out.atBox 1 rfl).c4
  clear b1 A0
  go_wp2_with fail
  clear c0 c1 c2 c3 d0 d1 d2 d3
  refine (eqSlotS_same _ _ rs _ (R2.out.below A1.out.below) (R4.out.below A1.out.below)).mono ?_
  rintro e w2 ⟨rfl, b2⟩
  have A2 := hide (A1.out.step b2)
  obtain ⟨c0, c1, c2, c3⟩ := (A2.out.atBox 0 rfl).c4
  obtain ⟨d0, d1, d2, d3⟩ := (A2.out.atBox 1 rfl).c4
  clear b2 A1
  go_wp2
  go_ret
  exact ⟨rfl, A2.out.below⟩

/-- What the marks end with. -/
def enT (ls rs : List Sl) : Int := 1 + 3 * (ls.length : Int) + 3 * (rs.length : Int)

set_option maxRecDepth 100000 in
set_option maxHeartbeats 800000 in
theorem markTable_calls (s m : Int) (l r : Value) (ls rs : List Sl) (lo hi : Nat) (w : World) (d : TabV w lo hi l r ls rs) (hh : hi ≤ w.heap.size) (hzl : ls.length ≤ 1048576) (hzr : rs.length ≤ 1048576) :
    Calls Try.prog 19 #[.agg #[.int .i64 s, l, r, .int .i64 m], .int .i64 1] w fun e w' => e = .returned (.int .i64 (enT ls rs)) ∧ TabV w' lo hi l r (mkS 1 ls.length) (mkS (1 + 3 * (ls.length : Int)) rs.length) ∧ Chg lo hi w w' := by
  obtain ⟨al, cl, ar, cr, rfl, rfl⟩ := d.sl
  have b0 := below_box w (.cells #[.int .i64 s, .slice al ls.length cl, .slice ar rs.length cr, .int .i64 m] 28)
  have D0 := hide (d.below b0)
  have C0 : Hid (Chg lo hi w (w.alloc (.cells #[.int .i64 s, .slice al ls.length cl, .slice ar rs.length cr, .int .i64 m] 28))) := Chg.ofBelow b0
  have X0 := hide (BoxAt.new w #[.int .i64 s, .slice al ls.length cl, .slice ar rs.length cr, .int .i64 m] 28)
  clear b0 d
  go_enter Try.func19, Try.ntmps19
  go_wp2_with fail
  refine (markSlotS_calls _ 1 ls lo _ D0.out.left hzl (by omega) (by omega)).mono ?_
  rintro e w1 ⟨rfl, o1, g1⟩
  have D1 := hide (D0.out.setL o1 g1)
  have X1 := X0.out.chg (D0.out.chgL g1) (.inr hh)
  have C1 := hide (C0.out.trans (D0.out.chgL g1))
  obtain ⟨c0, c1, c2, c3⟩ := X1.c4
  clear o1 g1 D0 C0 X0 X1
  go_wp2_with fail
  refine (markSlotS_calls _ (1 + 3 * (ls.length : Int)) rs lo _ D1.out.right hzr (by omega) (by omega)).mono ?_
  rintro e w2 ⟨rfl, o2, g2⟩
  have D2 := hide (D1.out.setR o2 g2)
  have C2 := hide (C1.out.trans (D1.out.chgR g2))
  clear o2 g2 D1 C1
  go_wp2
  go_ret
  exact ⟨rfl, D2.out, C2.out⟩

set_option maxRecDepth 100000 in
set_option maxHeartbeats 800000 in
theorem heldTable_calls (s m : Int) (l r : Value) (ls rs : List Sl) (w : World) (hl : RdS w l (mkS 1 ls.length)) (hr : RdS w r (mkS (1 + 3 * (ls.length : Int)) rs.length)) (hzl : ls.length ≤ 1048576) (hzr : rs.length ≤ 1048576) :
    Calls Try.prog 20 #[.agg #[.int .i64 s, l, r, .int .i64 m], .int .i64 1] w fun e w' => e = .returned (.int .i64 (enT ls rs)) ∧ Below w.heap.size w w' := by
  have b0 := below_box w (.cells #[.int .i64 s, l, r, .int .i64 m] 28)
  have R1 := hide (hl.below b0)
  have R2 := hide (hr.below b0)
  have B0 := hide b0
  obtain ⟨al, cl, rfl, _, _⟩ := hl.sl
  obtain ⟨ar, cr, rfl, _, _⟩ := hr.sl
  rw [mkS_len, mkS_len] at *
  clear b0 hl hr
  have e1 : ¬ (1 + 3 * (ls.length : Int) < 0) := by omega
  have e2 : ¬ (1 + 3 * (ls.length : Int) + 3 * (rs.length : Int) < 0) := by omega
  go_enter Try.func20, Try.ntmps20
  go_wp2_with fail
  refine (heldSlotS_calls _ 1 ls.length _ R1.out hzl (by omega) (by omega)).mono ?_
  rintro e w1 ⟨rfl, rfl⟩
  go_wp2_with fail
  refine (heldSlotS_calls _ (1 + 3 * (ls.length : Int)) rs.length _ R2.out hzr (by omega) (by omega)).mono ?_
  rintro e w1 ⟨rfl, rfl⟩
  go_wp2
  go_ret
  exact ⟨rfl, B0.out⟩
end Go.Proofs.Ytehjfjplajimfaa

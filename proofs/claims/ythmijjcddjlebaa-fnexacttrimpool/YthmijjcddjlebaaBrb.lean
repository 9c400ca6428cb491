/-
  Pools as values, and what the laws do with them: copy, measure, compare, mark, look for the marks. Each contract says what it asks.
-/
import Derived.Test.YthmijjcddjlebaaBra
namespace Go.Proofs.Ythmijjcddjlebaa
open Go.RowKit
set_option linter.unusedVariables false

/-- A pool of the call's own. -/
def TPol (p r : Value) (xs : List Nd) (rs : List Int) : Tg := fun lo hi w => ∃ us, BrV w lo hi p [r] us [rs] xs
theorem TPol.st (p r : Value) (xs : List Nd) (rs : List Int) : (TPol p r xs rs).st := fun lo hi a b w w' ⟨us, h⟩ hc hd => ⟨us, h.chg hc hd⟩
/-- What reads as a pool. -/
def RdP (w : World) (p r : Value) (xs : List Nd) (rs : List Int) : Prop := RdN w p xs ∧ Rd w r rs
theorem RdP.below {w w' : World} {p r : Value} {xs : List Nd} {rs : List Int} (h : RdP w p r xs rs) (hb : Below w.heap.size w w') : RdP w' p r xs rs := ⟨h.1.below hb, h.2.below hb⟩
theorem TPol.rd {lo hi : Nat} {w : World} {p r : Value} {xs : List Nd} {rs : List Int} (h : TPol p r xs rs lo hi w) : RdP w p r xs rs := by
  obtain ⟨us, h⟩ := h
  exact ⟨h.rd, (h.rowE 0 (by simp)).rd⟩
theorem TBrs.rd {lo hi : Nat} {w : World} {v : Value} {xs : List Nd} (h : TBrs v xs lo hi w) : RdN w v xs := by
  obtain ⟨us, h⟩ := h
  exact h.rd
theorem TPol.sls {lo hi : Nat} {w : World} {p r : Value} {xs : List Nd} {rs : List Int} (h : TPol p r xs rs lo hi w) : ∃ ap cp ar cr, p = .slice ap xs.length cp ∧ r = .slice ar rs.length cr := by
  obtain ⟨us, h⟩ := h
  obtain ⟨ap, cp, e1⟩ := h.slice
  obtain ⟨ar, cr, e2⟩ := row_slice (h.rowE 0 (by simp))
  exact ⟨ap, cp, ar, cr, e1, e2⟩
abbrev nilP : Array Value := #[.slice none 0 0, .slice none 0 0]
theorem plInfo : (Try.prog.info? 43).map (·.size) = some 2 := by kernel_rfl
theorem res_pl {fn : Func} {x : Tmp} (hf : fn.results = #[.cell x 43]) (tmps : Array Value) (w : World) (g : Nat) (a b : Value) (fr : Nat × Nat) (hp : tmps.getD x undef = .pointer (some ⟨g, 0, none⟩))
    (hg : w.heap[g]? = some (.cells #[a, b] 43 fr)) : (results fn tmps).run Try.prog w = .ok (.agg #[a, b]) w :=
  results_cell_row hf tmps w g _ _ fr _ hp hg Try.underlying43 rfl plInfo
theorem Hand.setBoxP {W w : World} {L : List Tg} {g : Nat} {cs : Array Value} {T : TypeId} (A : Hand W w L) (i : Nat) (hi : L[i]? = some (TBox g cs T)) (j : Nat) (v : Value) :
    Hand W (w.setCell ⟨g, j, none⟩ v) (L.set i (TBox g (cs.setIfInBounds j v) T)) := by
  obtain ⟨lo, hi', ⟨b1, b2, b3⟩, _, _, put⟩ := A.open i hi
  exact put _ (TBox g (cs.setIfInBounds j v) T) (TBox.st _ _ _) ⟨b1, b2, b3.set j v⟩ (Chg.ofSetCell w g j v b1 b2)
/-- Two things held one above another are a pool. -/
theorem Hand.pool {W w : World} {L : List Tg} {p r : Value} {xs : List Nd} {rs : List Int} (A : Hand W w (TInts r rs :: TBrs p xs :: L)) : TPol p r xs rs W.heap.size w.heap.size w := by
  obtain ⟨lo1, hi1, ⟨_, o1, t1⟩, a1, a2, lo3, hi3, ⟨_, us, h⟩, c1, c2, d⟩ := A.held
  have hb := d.base
  have h0 := h.wider (lo' := W.heap.size) (hi' := hi3) hb (Nat.le_refl _)
  have l1 := row_low o1
  have h1 := h0.addAny (u := r) (r := rs) (hi2 := hi1) (ownsRow_mono o1 (by omega)) (by omega) t1 (fun b hb' => ⟨fun i hi => by simp at hi, fun i hi e => by
    have := h.rowTop i hi b e
    have := l1 b hb'
    omega⟩)
  exact ⟨us, h1.wider (Nat.le_refl _) a2⟩
/-- What a pool's measure tells. -/
def SzP (xs : List Nd) (rs : List Int) : Prop := xs.length + totN xs ≤ 1048576 ∧ rs.length ≤ 1048576

set_option maxRecDepth 100000 in
set_option maxHeartbeats 1600000 in
theorem toPool_calls (p r : Value) (xs : List Nd) (rs : List Int) (w : World) (h : RdP w p r xs rs) (hz : SzP xs rs) :
    Calls Try.prog 33 #[.agg #[p, r]] w fun e w' => ∃ p' r', e = .returned (.agg #[p', r']) ∧ TPol p' r' xs rs w.heap.size w'.heap.size w' ∧ Below w.heap.size w w' := by
  have A0 := hide (Hand.threeN w #[p, r] nilP nilP 50 43 43)
  have R := hide h
  have Z := hide hz
  obtain ⟨⟨ap, cp, rfl, _⟩, ⟨ar, cr, rfl, _⟩⟩ := h
  clear hz
  go_enter Try.func33, Try.ntmps33
  go_wp2_with fail
  refine (toBranchS_calls _ xs _ (R.out.1.below A0.out.below) Z.out.1).mono ?_
  rintro e w1 ⟨gp, rfl, o1, b1⟩
  have A1 := hide (A0.out.add b1 (TBrs.st _ _) o1)
  clear o1 b1 A0
  have x1 := A1.out.atBox 1 rfl
  have x2 := A1.out.atBox 2 rfl
  have x3 := A1.out.atBox 3 rfl
  obtain ⟨c0, c1⟩ := x1.c2
  obtain ⟨e0, e1⟩ := x3.c2
  have f0 := x1.frozen 0
  have A2 : Hid (Hand w _ [TBrs _ xs, TBox (w.heap.size + 1 + 1) #[.slice (some ⟨gp, 0, none⟩) xs.length xs.length, .slice none 0 0] 43, TBox (w.heap.size + 1) nilP 43, TBox w.heap.size #[.slice ap xs.length cp, .slice ar rs.length cr] 50]) := A1.out.setBoxP 1 rfl 0 (.slice (some ⟨gp, 0, none⟩) xs.length xs.length)
  clear x1 x2 x3 A1
  go_wp2_with fail
  generalize w1.setCell ⟨w.heap.size + 1 + 1, 0, none⟩ (.slice (some ⟨gp, 0, none⟩) xs.length xs.length) = w2 at *
  clear c0 c1 e0 e1 f0
  refine (toIntS_calls _ rs _ (R.out.2.below A2.out.below) Z.out.2).mono ?_
  rintro e w3 ⟨r', rfl, o3, b3⟩
  obtain ⟨a3, k3, rfl⟩ := row_slice o3
  have A3 := hide (A2.out.add b3 (TInts.st _ _) ⟨o3, row_top o3⟩)
  clear o3 b3 A2
  have x1 := A3.out.atBox 2 rfl
  have x2 := A3.out.atBox 3 rfl
  obtain ⟨c0, c1⟩ := x1.c2
  obtain ⟨d0, d1⟩ := x2.c2
  have f1 := x1.frozen 1
  have g0 := x2.frozen 0
  have g1 := x2.frozen 1
  have A4 : Hid (Hand w _ [TInts _ rs, TBrs _ xs, TBox (w.heap.size + 1 + 1) #[.slice (some ⟨gp, 0, none⟩) xs.length xs.length, .slice a3 rs.length k3] 43, TBox (w.heap.size + 1) nilP 43, TBox w.heap.size #[.slice ap xs.length cp, .slice ar rs.length cr] 50]) := A3.out.setBoxP 2 rfl 1 (.slice a3 rs.length k3)
  have A5 := hide (A4.out.store2 3 rfl (.slice (some ⟨gp, 0, none⟩) xs.length xs.length) (.slice a3 rs.length k3))
  clear x1 x2 A3 A4
  go_wp2
  exact bodyPost_ret (res_pl rfl _ _ (w.heap.size + 1) _ _ (0, 0) rfl (A5.out.atBox 3 rfl)) rfl ⟨_, _, rfl, A5.out.pool, A5.out.below⟩

theorem szIntS_anyP (v : Value) (xs : List Int) (l : Int) (w : World) (h : Rd w v xs) (h0 : 0 ≤ l) (hl : l ≤ 1048576) :
    Calls Try.prog 80 #[v, .int .i64 l] w fun e w' => (∃ r : Int, e = .returned (.int .i64 r) ∧ (r < 0 ∨ (0 ≤ r ∧ r ≤ 1048576 ∧ xs.length ≤ 1048576))) ∧ w = w' := by
  refine (szIntS_is v xs l w h h0 hl).mono ?_
  rintro e w' ⟨rfl, rfl⟩
  refine ⟨⟨_, rfl, ?_⟩, rfl⟩
  split <;> omega

set_option maxRecDepth 100000 in
set_option maxHeartbeats 1600000 in
theorem szPool_calls (p r : Value) (xs : List Nd) (rs : List Int) (w : World) (h : RdP w p r xs rs) :
    Calls Try.prog 31 #[.agg #[p, r], .int .i64 1048576] w fun e w' => (∃ r : Int, e = .returned (.int .i64 r) ∧ (r < 0 ∨ (0 ≤ r ∧ SzP xs rs))) ∧ Below w.heap.size w w' := by
  have b0 := below_box w (.cells #[p, r] 50)
  have R := hide (h.below b0)
  have X : Hid (BoxAt _ _ _ _) := hide (BoxAt.new w #[p, r] 50)
  have B0 := hide b0
  clear b0 h
  go_enter Try.func31, Try.ntmps31
  go_wp2_with fail
  refine (szBranchS_calls _ xs _ R.out.1).mono ?_
  rintro e w1 ⟨⟨r1, rfl, hr⟩, b1⟩
  have B1 := hide (B0.out.trans (b1.mono B0.out.size))
  have R1 := hide (R.out.below b1)
  obtain ⟨c0, c1⟩ := (X.out.below b1).c2
  clear b1 B0 R X
  by_cases r0 : r1 < 0
  · go_wp2
    go_ret
    exact ⟨⟨-1, rfl, .inl (by decide)⟩, B1.out⟩
  have H1 := hide (hr.resolve_left r0)
  have q1 := H1.out.2.1
  clear hr
  go_wp2_with fail
  refine (szIntS_anyP _ rs _ _ R1.out.2 (by omega) (by omega)).mono ?_
  rintro e w2 ⟨⟨r2, rfl, hr⟩, rfl⟩
  clear r0 q1
  by_cases r0 : r2 < 0
  · go_wp2
    go_ret
    exact ⟨⟨-1, rfl, .inl (by decide)⟩, B1.out⟩
  have H2 := hide (hr.resolve_left r0)
  clear hr
  go_wp2
  go_ret
  exact ⟨⟨r2, rfl, .inr ⟨H2.out.1, H1.out.2.2, H2.out.2.2⟩⟩, B1.out⟩

set_option maxRecDepth 100000 in
set_option maxHeartbeats 1600000 in
theorem eqPool_same (p r p' r' : Value) (xs : List Nd) (rs : List Int) (w : World) (h : RdP w p r xs rs) (h' : RdP w p' r' xs rs) :
    Calls Try.prog 28 #[.agg #[p, r], .agg #[p', r']] w fun e w' => e = .returned (.bool true) ∧ Below w.heap.size w w' := by
  have b0 := (below_box w (.cells #[p, r] 43)).trans ((below_box (w.alloc (.cells #[p, r] 43)) (.cells #[p', r'] 43)).mono (by simp))
  have R1 := hide (h.below b0)
  have R2 := hide (h'.below b0)
  have B0 := hide b0
  have X1 : Hid (BoxAt ((w.alloc (.cells #[p, r] 43)).alloc (.cells #[p', r'] 43)) w.heap.size #[p, r] 43) := BoxAt.below (BoxAt.new w _ _) (below_box _ _)
  have X2 : Hid (BoxAt ((w.alloc (.cells #[p, r] 43)).alloc (.cells #[p', r'] 43)) (w.heap.size + 1) #[p', r'] 43) := by
    have := BoxAt.new (w.alloc (.cells #[p, r] 43)) #[p', r'] 43
    rwa [World.size_alloc] at this
  clear h h' b0
  go_enter Try.func28, Try.ntmps28
  go_wp2_with fail
  refine (eqBranchS_same _ _ xs _ R1.out.1 R2.out.1).mono ?_
  rintro e w1 ⟨rfl, b1⟩
  have Y1 := hide (X1.out.below b1)
  have Y2 := hide (X2.out.below b1)
  have S1 := hide (R1.out.below b1)
  have S2 := hide (R2.out.below b1)
  obtain ⟨c0, c1⟩ := Y1.out.c2
  obtain ⟨d0, d1⟩ := Y2.out.c2
  have B1 := hide (B0.out.trans (b1.mono B0.out.size))
  clear b1 B0 X1 X2 R1 R2
  go_wp2_with fail
  refine (eqIntS_same _ _ rs _ S1.out.2 S2.out.2).mono ?_
  rintro e w2 ⟨rfl, b2⟩
  clear c0 c1 d0 d1
  have B2 := hide (B1.out.trans (b2.mono B1.out.size))
  clear b2 B1 S1 S2 Y1 Y2
  go_wp2
  go_ret
  exact ⟨rfl, B2.out⟩

/-- The marks behind a pool's branches and versions. -/
def mkV (xs : List Nd) (rs : List Int) : List Int := marks (enN 1 xs : Nat) rs.length
def enP (xs : List Nd) (rs : List Int) : Nat := enN 1 xs + rs.length

set_option maxRecDepth 100000 in
set_option maxHeartbeats 1600000 in
theorem markPool_calls (p r : Value) (xs : List Nd) (rs : List Int) (lo hi : Nat) (w : World) (h : TPol p r xs rs lo hi w) (hh : hi ≤ w.heap.size) (hz : SzP xs rs) :
    Calls Try.prog 29 #[.agg #[p, r], .int .i64 1] w fun e w' => e = .returned (.int .i64 (enP xs rs : Nat)) ∧ TPol p r (mkN 1 xs) (mkV xs rs) lo hi w' ∧ Chg lo hi w w' := by
  obtain ⟨us, h⟩ := h
  have b0 := below_box w (.cells #[p, r] 43)
  have H0 := hide (h.below b0)
  have C0 : Hid (Chg lo hi w (w.alloc (.cells #[p, r] 43))) := Chg.ofAlloc w _
  have X0 : Hid (BoxAt _ _ _ _) := hide (BoxAt.new w #[p, r] 43)
  have Z := hide hz
  have hz1 := hz.1
  have hz2 := hz.2
  have eb : enN 1 xs ≤ 1048577 := by unfold enN; omega
  obtain ⟨ap, cp, rfl⟩ := h.slice
  obtain ⟨ar, cr, hr⟩ := row_slice (h.rowE 0 (by simp))
  simp only [List.getD_cons_zero] at hr
  subst hr
  clear b0 h hz
  go_enter Try.func29, Try.ntmps29
  go_wp2_with fail
  refine (markBranchS_calls _ 1 xs _ us _ lo hi _ H0.out Z.out.1 (by decide)).mono ?_
  rintro e w1 ⟨rfl, h1, c1⟩
  have X1 := hide (X0.out.chg c1 (.inr hh))
  have H1 := hide h1
  have C1 := hide (C0.out.trans c1)
  obtain ⟨x0, x1⟩ := X1.out.c2
  clear h1 c1 H0 C0 X0
  generalize hk : enN 1 xs = k at *
  go_wp2_with fail
  refine (markIntS_calls _ rs _ lo _ (H1.out.rowE 0 (by simp)) (by omega) (by omega) (by omega)).mono ?_
  rintro e w2 ⟨rfl, o2, g2⟩
  have H2 := hide (H1.out.writeE 0 (by simp) o2 g2)
  have C2 := hide (C1.out.trans (H1.out.writeEChg 0 (by simp) g2))
  clear o2 g2 H1 C1 X1
  go_wp2
  go_ret
  refine ⟨by unfold enP; rw [hk]; simp, ⟨us, ?_⟩, C2.out⟩
  have := H2.out
  simpa [mkV, hk] using this

set_option maxRecDepth 100000 in
set_option maxHeartbeats 1600000 in
theorem heldPool_calls (p r : Value) (xs : List Nd) (rs : List Int) (w : World) (h : RdP w p r (mkN 1 xs) (mkV xs rs)) (hz : SzP xs rs) :
    Calls Try.prog 30 #[.agg #[p, r], .int .i64 1] w fun e w' => e = .returned (.int .i64 (enP xs rs : Nat)) ∧ Below w.heap.size w w' := by
  have b0 := below_box w (.cells #[p, r] 43)
  have R := hide (h.below b0)
  have B0 := hide b0
  have Z := hide hz
  have hz1 := hz.1
  have hz2 := hz.2
  have eb : enN 1 xs ≤ 1048577 := by unfold enN; omega
  clear b0 h hz
  go_enter Try.func30, Try.ntmps30
  go_wp2_with fail
  refine (heldBranchS_calls _ 1 xs _ R.out.1 Z.out.1 (by decide)).mono ?_
  rintro e w1 ⟨rfl, rfl⟩
  have R2 := R.out.2
  unfold mkV at R2
  have EG : Hid (enP xs rs = enN 1 xs + rs.length) := rfl
  generalize hk : enN 1 xs = k at *
  have Q2 := hide R2
  have e1 : ¬ ((k : Int) < 0) := by omega
  have e2 : ¬ ((k : Int) + (rs.length : Int) < 0) := by omega
  clear R2 hk
  go_wp2_with fail
  refine (heldIntS_calls _ rs.length _ _ Q2.out (by omega) (by omega) (by omega)).mono ?_
  rintro e w1 ⟨rfl, rfl⟩
  go_wp2
  go_ret
  exact ⟨by rw [EG.out]; simp, B0.out⟩
end Go.Proofs.Ythmijjcddjlebaa

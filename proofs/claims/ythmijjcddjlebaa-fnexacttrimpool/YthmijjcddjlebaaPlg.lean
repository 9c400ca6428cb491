/-
  A pool in a variable, to which is appended; CloneOf by the program and by the model. Each contract says what it asks.
-/
import Derived.Test.YthmijjcddjlebaaPlf
namespace Go.Proofs.Ythmijjcddjlebaa
open Go.RowKit
set_option linter.unusedVariables false

theorem res_pl2 {fn : Func} {x u : Tmp} (hf : fn.results = #[.cell x 43, .tmp u]) (tmps : Array Value) (w : World) (g : Nat) (p h : Value) (fr : Nat × Nat) (hp : tmps.getD x undef = .pointer (some ⟨g, 0, none⟩))
    (hg : w.heap[g]? = some (.cells #[p, h] 43 fr)) : (results fn tmps).run Try.prog w = .ok (.tuple #[.agg #[p, h], tmps.getD u undef]) w := by
  have hp' : tmps[x]?.getD undef = .pointer (some ⟨g, 0, none⟩) := by simpa using hp
  simp [results, hf, hp', asAddr, run_loadVar_row w g _ _ _ fr _ hg Try.underlying43 rfl plInfo]
theorem res_pl3 {fn : Func} {x u v : Tmp} (hf : fn.results = #[.cell x 43, .tmp u, .tmp v]) (tmps : Array Value) (w : World) (g : Nat) (p h : Value) (fr : Nat × Nat) (hp : tmps.getD x undef = .pointer (some ⟨g, 0, none⟩))
    (hg : w.heap[g]? = some (.cells #[p, h] 43 fr)) : (results fn tmps).run Try.prog w = .ok (.tuple #[.agg #[p, h], tmps.getD u undef, tmps.getD v undef]) w := by
  have hp' : tmps[x]?.getD undef = .pointer (some ⟨g, 0, none⟩) := by simpa using hp
  simp [results, hf, hp', asAddr, run_loadVar_row w g _ _ _ fr _ hg Try.underlying43 rfl plInfo]
theorem TPol.nil (w : World) (lo hi : Nat) : TPol nilRow nilRow [] [] lo hi w :=
  ⟨[], (BrV.nil w lo hi).addE (World.ownsRow_nil _ _ _ _) (Nat.le_refl _) (fun b hb => by simp [Value.ownBlock] at hb)⟩
theorem totN_four (m : List Nd) (h : ∀ k, k < m.length → (m.getD k nd0).1.length = 4) : ∀ k, k ≤ m.length → totN (m.take k) ≤ 4 * k
  | 0, _ => by simp [totN]
  | k + 1, hk => by
    have h1 := totN_four m h k (by omega)
    rw [totN_take_succ m k (by omega), h k (by omega)]
    omega
theorem okP_sz {m : List Nd} {vs : List Int} (h : okP m vs) : SzP m vs := by
  have h1 := totN_four m (fun k hk => (h.2.1 k hk).1) m.length (Nat.le_refl _)
  rw [List.take_length] at h1
  have h2 := h.1.1
  have h3 := h.1.2
  exact ⟨by omega, by omega⟩
/-- A row besides grows: where it lay, or in a new block. -/
theorem BrV.appE {w w' : World} {lo hi : Nat} {v v' : Value} {es us : List Value} {qs : List (List Int)} {xs : List Nd} {r : List Int} (h : BrV w lo hi v es us qs xs) (i : Nat) (hi' : i < qs.length) (ho : Own w' lo v' r) (hg : w.grownBy w' (es.getD i nilRow).ownBlock) (hat : v'.ownBlock = (es.getD i nilRow).ownBlock ∨ v'.ownBlock = some w.heap.size) (hh : hi ≤ w.heap.size) :
    BrV w' lo w'.heap.size v (es.set i v') us (qs.set i r) xs := by
  have e1 : (es ++ us).getD i nilRow = es.getD i nilRow := getD_app_left es us i _ (by rw [h.lenE]; exact hi')
  refine ⟨World.ownsRow.kept h.head hg (h.off (h.rowE i hi')), fun k hk => ?_, by simp [h.lenE], ?_⟩
  · have := h.top k hk
    have := hg.size
    omega
  · rw [← set_app_left qs _ i _ hi', ← set_app_left es _ i _ (by rw [h.lenE]; exact hi')]
    exact h.rws.app i (by simp; omega) ho (by rw [e1]; exact hg) (by rw [e1]; exact hat) hh

/-- A pool in the variable gO, apart from the argument's gA and the answer's gR, which still is nothing. -/
structure PV (W w : World) (gA gR gO : Nat) (pa ra p r : Value) (us : List Value) (xs : List Nd) (rs : List Int) : Prop where
  br : BrV w W.heap.size w.heap.size p [r] us [rs] xs
  arg : BoxAt w gA #[pa, ra] 43
  res : BoxAt w gR nilP 43
  out : BoxAt w gO #[p, r] 43
  ne1 : gA ≠ gO
  ne2 : gR ≠ gO
  l1 : W.heap.size ≤ gR
  l2 : W.heap.size ≤ gO
  low : Below W.heap.size W w
section
variable {W w w' : World} {gA gR gO : Nat} {pa ra p r : Value} {us : List Value} {xs : List Nd} {rs : List Int}
theorem PV.step (h : PV W w gA gR gO pa ra p r us xs rs) (hb : Below w.heap.size w w') : PV W w' gA gR gO pa ra p r us xs rs :=
  ⟨(h.br.below hb).wider (Nat.le_refl _) hb.size, h.arg.below hb, h.res.below hb, h.out.below hb, h.ne1, h.ne2, h.l1, h.l2, h.low.trans (hb.mono h.low.size)⟩
theorem PV.appR {v' : Value} {rs' : List Int} (h : PV W w gA gR gO pa ra p r us xs rs) (ho : Own w' W.heap.size v' rs') (hg : w.grownBy w' r.ownBlock) (hat : v'.ownBlock = r.ownBlock ∨ v'.ownBlock = some w.heap.size) :
    BoxAt w' gO #[p, r] 43 ∧ PV W (w'.setCell ⟨gO, 1, none⟩ v') gA gR gO pa ra p v' us xs rs' := by
  have hr := h.br.rowE 0 (by simp)
  have d6 := h.br.appE 0 (by simp) ho hg hat (Nat.le_refl _)
  have a6 := h.arg.kept hg (h.arg.offT hr (by decide))
  have r6 := h.res.kept hg (h.res.offT hr (by decide))
  have o6 := h.out.kept hg (h.out.offT hr (by decide))
  have b6 : Below W.heap.size W w' := h.low.grown hg h.low.size (fun k hk => (World.ownsRow.lt hr k hk).1)
  refine ⟨o6, ⟨?_, a6.other h.ne1, r6.other h.ne2, by simpa using o6.set 1 v', h.ne1, h.ne2, h.l1, h.l2, b6.setCell h.l2 _⟩⟩
  have d7 := d6.atBox o6 (by decide) (by decide) 1 v'
  simpa using d7
theorem PV.appB {v' : Value} {us' : List Value} {xs' : List Nd} (h : PV W w gA gR gO pa ra p r us xs rs) (hn : BrV w' W.heap.size w'.heap.size v' [r] us' [rs] xs') (hg : w.grownBy w' p.ownBlock) :
    BoxAt w' gO #[p, r] 43 ∧ PV W (w'.setCell ⟨gO, 0, none⟩ v') gA gR gO pa ra v' r us' xs' rs := by
  have a6 := h.arg.kept hg (h.arg.offT h.br.head (by decide))
  have r6 := h.res.kept hg (h.res.offT h.br.head (by decide))
  have o6 := h.out.kept hg (h.out.offT h.br.head (by decide))
  have b6 : Below W.heap.size W w' := h.low.grown hg h.low.size (fun k hk => (World.ownsRow.lt h.br.head k hk).1)
  refine ⟨o6, ⟨?_, a6.other h.ne1, r6.other h.ne2, by simpa using o6.set 0 v', h.ne1, h.ne2, h.l1, h.l2, b6.setCell h.l2 _⟩⟩
  have d7 := hn.atBox o6 (by decide) (by decide) 0 v'
  simpa using d7
theorem PV.fin (h : PV W w gA gR gO pa ra p r us xs rs) : BoxAt ((w.setCell ⟨gR, 0, none⟩ p).setCell ⟨gR, 1, none⟩ r) gR #[p, r] 43 ∧
    TPol p r xs rs W.heap.size ((w.setCell ⟨gR, 0, none⟩ p).setCell ⟨gR, 1, none⟩ r).heap.size ((w.setCell ⟨gR, 0, none⟩ p).setCell ⟨gR, 1, none⟩ r) ∧ Below W.heap.size W ((w.setCell ⟨gR, 0, none⟩ p).setCell ⟨gR, 1, none⟩ r) := by
  refine ⟨h.res.store2P p r, ⟨us, ?_⟩, (h.low.setCell h.l1 _).setCell h.l1 _⟩
  have d := (h.br.atBox h.res (by decide) (by decide) 0 p).atBox (h.res.set 0 p) (by decide) (by decide) 1 r
  exact d.wider (Nat.le_refl _) (by simp)
/-- A copy comes, and is put into a variable. -/
theorem PV.start {L : List Tg} {w1 w2 : World} {i j : Nat} (A : Hand W w1 L) (hi : L[i]? = some (TBox gA #[pa, ra] 43)) (hj : L[j]? = some (TBox gR nilP 43)) (hb : Below w1.heap.size w1 w2) (hd : TPol p r xs rs w1.heap.size w2.heap.size w2) (h1 : W.heap.size ≤ gR) :
    ∃ us, PV W (w2.alloc (.cells #[p, r] 43)) gA gR w2.heap.size pa ra p r us xs rs := by
  obtain ⟨us, d⟩ := hd
  have bb := below_box w2 (.cells #[p, r] 43)
  have a1 := A.atBox i hi
  have r1 := A.atBox j hj
  have hs := hb.size
  have la := a1.lt
  have lr := r1.lt
  have lw := A.below.size
  exact ⟨us, (d.below bb).wider lw bb.size, (a1.below hb).below bb, (r1.below hb).below bb, BoxAt.new _ _ _, by omega, by omega, h1, by omega, (A.step (hb.trans (bb.mono hs))).below⟩
end

/-- A version can be cloned. -/
abbrev clOk (m : List Nd) (vs : List Int) (x : Int) : Prop := thP m vs x ∧ vs.length ≠ 40

set_option linter.unusedSimpArgs false in
set_option maxRecDepth 100000 in
set_option maxHeartbeats 3200000 in
theorem sCloneOf_calls (p r : Value) (m : List Nd) (vs : List Int) (x : Int) (t : Bool) (w : World) (h : RdP w p r m vs) (ht : t = true ↔ clOk m vs x) :
    Calls Try.prog 39 #[.agg #[p, r], .int .i64 x] w fun e' w' => ∃ p' r', e' = .returned (.tuple #[.agg #[p', r'], .bool t]) ∧ TPol p' r' (gX t m) (gX t (vs ++ [vs.getD x.toNat 0])) w.heap.size w'.heap.size w' ∧ Below w.heap.size w w' := by
  have R := hide h
  obtain ⟨⟨ap, cp, rfl, _⟩, ⟨ar, cr, rfl, hr1, hr2, _⟩⟩ := h
  have hrm : vs.length ≤ maxLen := by omega
  unfold maxLen at hrm
  have A0 := hide (Hand.twoN w #[.slice ap m.length cp, .slice ar vs.length cr] nilP 43 43)
  obtain ⟨g, hg⟩ := bol_of (thP m vs x)
  obtain ⟨X, hX⟩ : ∃ X, X = gX t m := ⟨_, rfl⟩
  obtain ⟨Y, hY⟩ : ∃ Y, Y = gX t (vs ++ [vs.getD x.toNat 0]) := ⟨_, rfl⟩
  rw [← hX, ← hY]
  have HX := hide hX
  have HY := hide hY
  have HG := hide hg
  have HT := hide ht
  clear hg ht hr1 hr2 hX hY
  go_enter Try.func39, Try.ntmps39
  go_wp2_with fail
  refine (l11There_calls _ _ m vs x g _ (R.out.below A0.out.below) HG.out).mono ?_
  rintro e' w1 ⟨rfl, b0⟩
  have A1 := hide (A0.out.step b0)
  have R1 := hide (R.out.below A1.out.below)
  clear b0 A0 R
  obtain ⟨p0, p1⟩ := (A1.out.atBox 1 rfl).c2
  cases g with
  | false =>
    obtain rfl := bol_no HT.out (fun h => absurd (HG.out.2 h.1) (by simp))
    obtain rfl : X = [] := HX.out
    obtain rfl : Y = [] := HY.out
    have x9 := A1.out.atBox 0 rfl
    obtain ⟨z0, z1⟩ := x9.c2
    have f0 := x9.frozen 0
    have f1 := x9.frozen 1
    have A9 := hide (A1.out.store2 0 rfl nilRow nilRow)
    clear x9 A1
    go_wp2
    exact bodyPost_ret (res_pl2 rfl _ _ (w.heap.size + 1) _ _ (0, 0) rfl (A9.out.atBox 0 rfl)) rfl ⟨_, _, rfl, TPol.nil _ _ _, A9.out.below⟩
  | true =>
    have th := HG.out.1 rfl
    by_cases h40 : vs.length = 40
    · obtain rfl := bol_no HT.out (fun h => h.2 h40)
      obtain rfl : X = [] := HX.out
      obtain rfl : Y = [] := HY.out
      have h40b : ((vs.length : Int) == 40) = true := by simp; omega
      clear th h40
      have x9 := A1.out.atBox 0 rfl
      obtain ⟨z0, z1⟩ := x9.c2
      have f0 := x9.frozen 0
      have f1 := x9.frozen 1
      have A9 := hide (A1.out.store2 0 rfl nilRow nilRow)
      clear x9 A1
      go_wp2
      exact bodyPost_ret (res_pl2 rfl _ _ (w.heap.size + 1) _ _ (0, 0) rfl (A9.out.atBox 0 rfl)) rfl ⟨_, _, rfl, TPol.nil _ _ _, A9.out.below⟩
    obtain rfl : t = true := HT.out.2 ⟨th, h40⟩
    obtain ⟨ver, rfl⟩ : ∃ n : Nat, x = (n : Int) := ⟨x.toNat, by have := th.2.1; omega⟩
    have h40b : ((vs.length : Int) == 40) = false := by simp; omega
    have SZ := hide (okP_sz th.1)
    have hv : ver < vs.length := by have := th.2.2; omega
    have hvs : vs.length ≤ 40 := th.1.1.2
    obtain ⟨y, hy⟩ : ∃ y, y = vs.getD ver 0 := ⟨_, rfl⟩
    have hXm : X = m := HX.out
    have hYm : Y = vs ++ [y] := by rw [hy]; exact HY.out
    subst hXm hYm
    have HYY := hide hy
    clear th h40 hy HX HY
    go_wp2_with fail
    refine (l11Own_calls _ _ _ vs _ R1.out SZ.out).mono ?_
    rintro e' w4 ⟨p4, r4, rfl, d4, b4⟩
    obtain ⟨ap4, cp4, ar4, cr4, rfl, rfl⟩ := d4.sls
    obtain ⟨us, pv⟩ := PV.start A1.out (i := 1) (j := 0) rfl rfl b4 d4 (by omega)
    obtain ⟨w5, hw5⟩ : ∃ w5, w5 = w4.alloc (.cells #[.slice ap4 X.length cp4, .slice ar4 vs.length cr4] 43) := ⟨_, rfl⟩
    obtain ⟨gO, hgO⟩ : ∃ gO, gO = w4.heap.size := ⟨_, rfl⟩
    rw [← hw5, ← hgO] at pv
    have W5 : Hid (w4.alloc (.cells #[.slice ap4 X.length cp4, .slice ar4 vs.length cr4] 43) = w5) := hw5.symm
    have GO := hide hgO.symm
    have PV5 := hide pv
    have hv' : (ver : Int) < (vs.length : Int) := by omega
    clear b4 d4 pv hw5 hgO p0 p1 A1 R1
    go_upto_region 4 with fail
    rw [W5.out, GO.out]
    obtain ⟨o0, o1⟩ := PV5.out.out.c2
    have rd5 : Rd w5 (.slice ar4 vs.length cr4) vs := Own.rd (PV5.out.br.rowE 0 (by simp))
    obtain ⟨bv, ov, rfl, cv⟩ := rd5.cellP ver hv
    rw [← HYY.out] at cv
    clear rd5
    have PV6 := hide (PV5.out.step (below_box w5 (.cells #[.int .i64 y] 3)))
    have RX : Hid (Rd (w5.alloc (.cells #[.int .i64 y] 3)) (.slice (some ⟨w5.heap.size, 0, none⟩) 1 1) [y]) := rd_singleR
    go_wp2_with (at_builtin; refine wpList_app_int rfl _ _ rfl w.heap.size (.slice (some ⟨bv, ov, none⟩) vs.length cr4) rfl vs (PV6.out.br.rowE 0 (by simp)) (.slice (some ⟨w5.heap.size, 0, none⟩) 1 1) rfl [y] RX.out (by simp only [List.length_singleton]; omega) PV6.out.low.size ?_)
    intro v6 w6 o6 g6 at6
    obtain ⟨bo, pv7⟩ := PV6.out.appR o6 g6 (by rw [World.size_alloc]; exact at6)
    obtain ⟨q0, q1⟩ := bo.c2
    have qf := bo.frozen 1
    obtain ⟨a6, k6, hv6⟩ := row_slice o6
    obtain ⟨L6, hL6⟩ : ∃ L, L = (vs ++ [y]).length := ⟨_, rfl⟩
    rw [← hL6] at hv6
    subst hv6
    obtain ⟨s0, s1⟩ := pv7.out.c2
    obtain ⟨r0, r1⟩ := pv7.res.c2
    have rf0 := pv7.res.frozen 0
    have rf1 := pv7.res.frozen 1
    have FIN := hide pv7.fin
    clear o6 g6 at6 bo pv7 PV5 PV6 RX cv o0 o1 hL6
    go_wp2
    exact bodyPost_ret (res_pl2 rfl _ _ (w.heap.size + 1) _ _ (0, 0) rfl FIN.out.1) rfl ⟨_, _, rfl, FIN.out.2.1, FIN.out.2.2⟩

set_option linter.unusedSimpArgs false in
set_option maxRecDepth 100000 in
set_option maxHeartbeats 3200000 in
theorem cloneOf_calls (p r : Value) (m : List Nd) (vs : List Int) (x : Int) (t : Bool) (w : World) (h : RdP w p r m vs) (ht : t = true ↔ clOk m vs x) :
    Calls Try.prog 40 #[.agg #[p, r], .int .i64 x] w fun e' w' => ∃ p' r', e' = .returned (.tuple #[.agg #[p', r'], .bool t]) ∧ TPol p' r' (gX t m) (gX t (vs ++ [vs.getD x.toNat 0])) w.heap.size w'.heap.size w' ∧ Below w.heap.size w w' := by
  have R := hide h
  obtain ⟨⟨ap, cp, rfl, _⟩, ⟨ar, cr, rfl, hr1, hr2, _⟩⟩ := h
  have hrm : vs.length ≤ maxLen := by omega
  unfold maxLen at hrm
  have A0 := hide (Hand.twoN w #[.slice ap m.length cp, .slice ar vs.length cr] nilP 43 43)
  obtain ⟨g, hg⟩ := bol_of (thP m vs x)
  obtain ⟨X, hX⟩ : ∃ X, X = gX t m := ⟨_, rfl⟩
  obtain ⟨Y, hY⟩ : ∃ Y, Y = gX t (vs ++ [vs.getD x.toNat 0]) := ⟨_, rfl⟩
  rw [← hX, ← hY]
  have HX := hide hX
  have HY := hide hY
  have HG := hide hg
  have HT := hide ht
  clear hg ht hr1 hr2 hX hY
  go_enter Try.func40, Try.ntmps40
  go_wp2_with fail
  refine (hasVersion_calls _ _ m vs x g _ (R.out.below A0.out.below) HG.out).mono ?_
  rintro e' w1 ⟨rfl, b0⟩
  have A1 := hide (A0.out.step b0)
  have R1 := hide (R.out.below A1.out.below)
  have R0 := hide R.out
  clear b0 A0 R
  obtain ⟨p0, p1⟩ := (A1.out.atBox 1 rfl).c2
  cases g with
  | false =>
    obtain rfl := bol_no HT.out (fun h => absurd (HG.out.2 h.1) (by simp))
    obtain rfl : X = [] := HX.out
    obtain rfl : Y = [] := HY.out
    have x9 := A1.out.atBox 0 rfl
    obtain ⟨z0, z1⟩ := x9.c2
    have f0 := x9.frozen 0
    have f1 := x9.frozen 1
    have A9 := hide (A1.out.store2 0 rfl nilRow nilRow)
    clear x9 A1
    go_wp2
    exact bodyPost_ret (res_pl2 rfl _ _ (w.heap.size + 1) _ _ (0, 0) rfl (A9.out.atBox 0 rfl)) rfl ⟨_, _, rfl, TPol.nil _ _ _, A9.out.below⟩
  | true =>
    have th := HG.out.1 rfl
    by_cases h40 : vs.length = 40
    · obtain rfl := bol_no HT.out (fun h => h.2 h40)
      obtain rfl : X = [] := HX.out
      obtain rfl : Y = [] := HY.out
      have h40b : ((vs.length : Int) == 40) = true := by simp; omega
      clear th h40
      have x9 := A1.out.atBox 0 rfl
      obtain ⟨z0, z1⟩ := x9.c2
      have f0 := x9.frozen 0
      have f1 := x9.frozen 1
      have A9 := hide (A1.out.store2 0 rfl nilRow nilRow)
      clear x9 A1
      go_wp2
      exact bodyPost_ret (res_pl2 rfl _ _ (w.heap.size + 1) _ _ (0, 0) rfl (A9.out.atBox 0 rfl)) rfl ⟨_, _, rfl, TPol.nil _ _ _, A9.out.below⟩
    obtain rfl : t = true := HT.out.2 ⟨th, h40⟩
    obtain ⟨ver, rfl⟩ : ∃ n : Nat, x = (n : Int) := ⟨x.toNat, by have := th.2.1; omega⟩
    have h40b : ((vs.length : Int) == 40) = false := by simp; omega
    have SZ := hide (okP_sz th.1)
    have hv : ver < vs.length := by have := th.2.2; omega
    have hvs : vs.length ≤ 40 := th.1.1.2
    obtain ⟨y, hy⟩ : ∃ y, y = vs.getD ver 0 := ⟨_, rfl⟩
    have hXm : X = m := HX.out
    have hYm : Y = vs ++ [y] := by rw [hy]; exact HY.out
    subst hXm hYm
    have HYY := hide hy
    clear th h40 hy HX HY
    go_wp2_with fail
    refine (copyPool_calls _ _ _ vs _ R1.out SZ.out).mono ?_
    rintro e' w4 ⟨p4, r4, rfl, d4, b4⟩
    obtain ⟨ap4, cp4, ar4, cr4, rfl, rfl⟩ := d4.sls
    obtain ⟨us, pv⟩ := PV.start A1.out (i := 1) (j := 0) rfl rfl b4 d4 (by omega)
    obtain ⟨w5, hw5⟩ : ∃ w5, w5 = w4.alloc (.cells #[.slice ap4 X.length cp4, .slice ar4 vs.length cr4] 43) := ⟨_, rfl⟩
    obtain ⟨gO, hgO⟩ : ∃ gO, gO = w4.heap.size := ⟨_, rfl⟩
    rw [← hw5, ← hgO] at pv
    have W5 : Hid (w4.alloc (.cells #[.slice ap4 X.length cp4, .slice ar4 vs.length cr4] 43) = w5) := hw5.symm
    have GO := hide hgO.symm
    have PV5 := hide pv
    have hv' : (ver : Int) < (vs.length : Int) := by omega
    clear b4 d4 pv hw5 hgO p0 p1 A1 R1
    go_upto_region 4 with fail
    rw [W5.out, GO.out]
    obtain ⟨bv, ov, rfl, cv⟩ := R0.out.2.cellP ver hv
    rw [← HYY.out] at cv
    have E : Hid (∀ w', Below w.heap.size w w' → w'.cell? ⟨bv, ov + ver, none⟩ = some (.int .i64 y)) := fun w' hb => cell_below cv hb
    clear cv
    refine wp_region_noPanic ?_
    refine wp_region_held_drew (S := fun w' => w'.cell? ⟨w.heap.size, 0, none⟩ = some (.slice ap X.length cp) ∧ w'.cell? ⟨w.heap.size, 1, none⟩ = some (.slice (some ⟨bv, ov, none⟩) vs.length cr) ∧ w'.cell? ⟨bv, ov + ver, none⟩ = some (.int .i64 y)) (by kernel_rfl) (⟨(PV5.out.step (Below.refl _ _).drew).arg.c2.1, (PV5.out.step (Below.refl _ _).drew).arg.c2.2, E.out _ (PV5.out.step (Below.refl _ _).drew).low⟩) (fun hHeld => ?_)
    have PV6 := hide (PV5.out.step (Below.refl _ _).drew)
    clear PV5
    generalize World.drew _ = V0 at *
    refine wpAnyH_take (i := 0) (v := ?v1) rfl (by kernel_rfl) (by kernel_rfl) (by kernel_rfl) (fun _ _ _ h => h) (Or.inl ⟨by rfl, ?hy1⟩) (by assumption) ?rest1
    case hy1 => (intro w' hSw; dsimp only [List.getElem_toArray, List.getElem_cons_zero, List.getElem_cons_succ] at hSw ⊢; go_simp; try (with_reducible rfl))
    try simp only [Act.put, List.getElem_toArray, List.getElem_cons_zero, List.getElem_cons_succ, List.setIfInBounds_toArray, List.set_cons_zero, List.set_cons_succ]
    refine wpAnyH_take (i := 2) (v := ?v2) rfl (by kernel_rfl) (by kernel_rfl) (by kernel_rfl) (fun _ _ _ h => h) (Or.inl ⟨by rfl, ?hy2⟩) (by assumption) ?rest2
    case hy2 => (intro w' hSw; dsimp only [List.getElem_toArray, List.getElem_cons_zero, List.getElem_cons_succ] at hSw ⊢; go_simp; try (with_reducible rfl))
    try simp only [Act.put, List.getElem_toArray, List.getElem_cons_zero, List.getElem_cons_succ, List.setIfInBounds_toArray, List.set_cons_zero, List.set_cons_succ]
    refine wpAnyH_take (i := 3) (v := ?v3) rfl (by kernel_rfl) (by kernel_rfl) (by kernel_rfl) (fun _ _ _ h => h) (Or.inl ⟨by rfl, ?hy3⟩) (by assumption) ?rest3
    case hy3 => (intro w' hSw; dsimp only [List.getElem_toArray, List.getElem_cons_zero, List.getElem_cons_succ] at hSw ⊢; go_simp; try (with_reducible rfl))
    try simp only [Act.put, List.getElem_toArray, List.getElem_cons_zero, List.getElem_cons_succ, List.setIfInBounds_toArray, List.set_cons_zero, List.set_cons_succ]
    refine wpAnyH_take (i := 4) (v := ?v4) rfl (by kernel_rfl) (by kernel_rfl) (by kernel_rfl) (fun _ _ _ h => h) (Or.inl ⟨by rfl, ?hy4⟩) (by assumption) ?rest4
    case hy4 => (intro w' hSw; dsimp only [List.getElem_toArray, List.getElem_cons_zero, List.getElem_cons_succ] at hSw ⊢; go_simp; try (with_reducible rfl))
    try simp only [Act.put, List.getElem_toArray, List.getElem_cons_zero, List.getElem_cons_succ, List.setIfInBounds_toArray, List.set_cons_zero, List.set_cons_succ]
    refine wpAnyH_take (i := 5) (v := ?v5) rfl (by kernel_rfl) (by kernel_rfl) (by kernel_rfl) (fun _ _ _ h => h) (Or.inl ⟨by rfl, ?hy5⟩) (by assumption) ?rest5
    case hy5 => (intro w' hSw; dsimp only [List.getElem_toArray, List.getElem_cons_zero, List.getElem_cons_succ] at hSw ⊢; go_simp; try (with_reducible rfl))
    try simp only [Act.put, List.getElem_toArray, List.getElem_cons_zero, List.getElem_cons_succ, List.setIfInBounds_toArray, List.set_cons_zero, List.set_cons_succ]
    refine wpAnyH_take (i := 6) (v := ?v6) rfl (by kernel_rfl) (by kernel_rfl) (by kernel_rfl) (fun _ _ _ h => h) (Or.inl ⟨by rfl, ?hy6⟩) (by assumption) ?rest6
    case hy6 => (intro w' hSw; dsimp only [List.getElem_toArray, List.getElem_cons_zero, List.getElem_cons_succ] at hSw ⊢; go_simp; try (with_reducible rfl))
    try simp only [Act.put, List.getElem_toArray, List.getElem_cons_zero, List.getElem_cons_succ, List.setIfInBounds_toArray, List.set_cons_zero, List.set_cons_succ]
    refine wpAnyH_ready (rs := [1, 7]) (by kernel_rfl) (by simp) ?_
    refine (AllReadyH.cons rfl (fun K hK => ?_) (AllReadyH.cons rfl (fun K hK => ?_) AllReadyH.nil))
    · obtain ⟨o0, o1⟩ := PV6.out.out.c2
      dsimp only [List.getElem_toArray, List.getElem_cons_zero, List.getElem_cons_succ]
      go_simp
      clear o0 o1 hHeld
      refine hK.out _ _ (⟨PV6.out.arg.c2.1, PV6.out.arg.c2.2, E.out _ PV6.out.low⟩) (fun hHeld => ?_)
      clear hK K
      try simp only [Act.put, List.getElem_toArray, List.getElem_cons_zero, List.getElem_cons_succ, List.setIfInBounds_toArray, List.set_cons_zero, List.set_cons_succ]
      refine wpAnyH_ready (rs := [7]) (by kernel_rfl) (by simp) ?_
      refine (AllReadyH.cons rfl (fun K hK => ?_) AllReadyH.nil)
      dsimp only [List.getElem_toArray, List.getElem_cons_zero, List.getElem_cons_succ]
      go_simp
      have PV7 := PV6.out.step (below_box V0 (.cells #[.int .i64 y] 3))
      have rx : Rd (V0.alloc (.cells #[.int .i64 y] 3)) (.slice (some ⟨V0.heap.size, 0, none⟩) 1 1) [y] := rd_singleR
      obtain ⟨gx, hgx⟩ : ∃ gx, gx = V0.heap.size := ⟨_, rfl⟩
      rw [← hgx] at rx ⊢
      generalize V0.alloc (.cells #[.int .i64 y] 3) = u7 at PV7 rx ⊢
      have RX := hide rx
      replace PV7 := hide PV7
      clear rx hgx hHeld PV6
      refine hK.out _ _ (⟨PV7.out.arg.c2.1, PV7.out.arg.c2.2, E.out _ PV7.out.low⟩) (fun hHeld => ?_)
      clear hK K
      try simp only [Act.put, List.getElem_toArray, List.getElem_cons_zero, List.getElem_cons_succ, List.setIfInBounds_toArray, List.set_cons_zero, List.set_cons_succ]
      refine wpAnyH_ready (rs := [8]) (by kernel_rfl) (by simp) ?_
      refine (AllReadyH.cons rfl (fun K hK => ?_) AllReadyH.nil)
      refine step_app_int (by rfl) (.tmp 21) (.tmp 27) (by rfl) w.heap.size (.slice ar4 vs.length cr4) (by rfl) vs (PV7.out.br.rowE 0 (by simp)) (.slice (some ⟨gx, 0, none⟩) 1 1) (by rfl) [y] RX.out (by simp only [List.length_singleton]; omega) PV7.out.low.size ?_
      intro v6 w6 o6 g6 at6
      obtain ⟨bo, pv8⟩ := PV7.out.appR o6 g6 at6
      obtain ⟨a6, k6, hv6⟩ := row_slice o6
      obtain ⟨L6, hL6⟩ : ∃ L, L = (vs ++ [y]).length := ⟨_, rfl⟩
      rw [← hL6] at hv6
      subst hv6
      have PV8 := hide pv8
      have BO := hide bo
      have c6 := (PV7.out.arg.kept g6 (PV7.out.arg.offT (PV7.out.br.rowE 0 (by simp)) (by decide))).c2
      have b6 : Below w.heap.size w w6 := PV7.out.low.grown g6 PV7.out.low.size (fun k hk => (World.ownsRow.lt (PV7.out.br.rowE 0 (by simp)) k hk).1)
      have e6 := E.out _ b6
      have S6 := hide (And.intro c6.1 (And.intro c6.2 e6))
      clear o6 g6 at6 bo pv8 c6 b6 e6 hL6 hHeld
      refine hK.out _ _ (S6.out) (fun hHeld => ?_)
      clear hK K
      try simp only [Act.put, List.getElem_toArray, List.getElem_cons_zero, List.getElem_cons_succ, List.setIfInBounds_toArray, List.set_cons_zero, List.set_cons_succ]
      refine wpAnyH_take (i := 9) (v := ?v7) rfl (by kernel_rfl) (by kernel_rfl) (by kernel_rfl) (fun _ _ _ h => h) (Or.inl ⟨by rfl, ?hy7⟩) (by assumption) ?rest7
      case hy7 => (intro w' hSw; dsimp only [List.getElem_toArray, List.getElem_cons_zero, List.getElem_cons_succ] at hSw ⊢; go_simp; try (with_reducible rfl))
      try simp only [Act.put, List.getElem_toArray, List.getElem_cons_zero, List.getElem_cons_succ, List.setIfInBounds_toArray, List.set_cons_zero, List.set_cons_succ]
      refine wpAnyH_ready (rs := [10]) (by kernel_rfl) (by simp) ?_
      refine (AllReadyH.cons rfl (fun K hK => ?_) AllReadyH.nil)
      obtain ⟨q0, q1⟩ := BO.out.c2
      have qf := BO.out.frozen 1
      dsimp only [List.getElem_toArray, List.getElem_cons_zero, List.getElem_cons_succ]
      go_simp
      clear q0 q1 qf hHeld
      refine hK.out _ _ (⟨PV8.out.arg.c2.1, PV8.out.arg.c2.2, E.out _ PV8.out.low⟩) (fun hHeld => ?_)
      clear hK K
      try simp only [Act.put, List.getElem_toArray, List.getElem_cons_zero, List.getElem_cons_succ, List.setIfInBounds_toArray, List.set_cons_zero, List.set_cons_succ]
      refine wpAnyH_done (by kernel_rfl) ?_ _
      refine NoPanic.normal ?_
      clear hHeld
      obtain ⟨s0, s1⟩ := PV8.out.out.c2
      obtain ⟨r0, r1⟩ := PV8.out.res.c2
      have rf0 := PV8.out.res.frozen 0
      have rf1 := PV8.out.res.frozen 1
      have FIN := hide PV8.out.fin
      clear PV8 PV7 BO RX S6
      go_wp2
      exact bodyPost_ret (res_pl2 rfl _ _ (w.heap.size + 1) _ _ (0, 0) rfl FIN.out.1) rfl ⟨_, _, rfl, FIN.out.2.1, FIN.out.2.2⟩
    · dsimp only [List.getElem_toArray, List.getElem_cons_zero, List.getElem_cons_succ]
      go_simp
      have PV7 := PV6.out.step (below_box V0 (.cells #[.int .i64 y] 3))
      have rx : Rd (V0.alloc (.cells #[.int .i64 y] 3)) (.slice (some ⟨V0.heap.size, 0, none⟩) 1 1) [y] := rd_singleR
      obtain ⟨gx, hgx⟩ : ∃ gx, gx = V0.heap.size := ⟨_, rfl⟩
      rw [← hgx] at rx ⊢
      generalize V0.alloc (.cells #[.int .i64 y] 3) = u7 at PV7 rx ⊢
      have RX := hide rx
      replace PV7 := hide PV7
      clear rx hgx hHeld PV6
      refine hK.out _ _ (⟨PV7.out.arg.c2.1, PV7.out.arg.c2.2, E.out _ PV7.out.low⟩) (fun hHeld => ?_)
      clear hK K
      try simp only [Act.put, List.getElem_toArray, List.getElem_cons_zero, List.getElem_cons_succ, List.setIfInBounds_toArray, List.set_cons_zero, List.set_cons_succ]
      refine wpAnyH_ready (rs := [1]) (by kernel_rfl) (by simp) ?_
      refine (AllReadyH.cons rfl (fun K hK => ?_) AllReadyH.nil)
      obtain ⟨o0, o1⟩ := PV7.out.out.c2
      dsimp only [List.getElem_toArray, List.getElem_cons_zero, List.getElem_cons_succ]
      go_simp
      clear o0 o1 hHeld
      refine hK.out _ _ (⟨PV7.out.arg.c2.1, PV7.out.arg.c2.2, E.out _ PV7.out.low⟩) (fun hHeld => ?_)
      clear hK K
      try simp only [Act.put, List.getElem_toArray, List.getElem_cons_zero, List.getElem_cons_succ, List.setIfInBounds_toArray, List.set_cons_zero, List.set_cons_succ]
      refine wpAnyH_ready (rs := [8]) (by kernel_rfl) (by simp) ?_
      refine (AllReadyH.cons rfl (fun K hK => ?_) AllReadyH.nil)
      refine step_app_int (by rfl) (.tmp 21) (.tmp 27) (by rfl) w.heap.size (.slice ar4 vs.length cr4) (by rfl) vs (PV7.out.br.rowE 0 (by simp)) (.slice (some ⟨gx, 0, none⟩) 1 1) (by rfl) [y] RX.out (by simp only [List.length_singleton]; omega) PV7.out.low.size ?_
      intro v6 w6 o6 g6 at6
      obtain ⟨bo, pv8⟩ := PV7.out.appR o6 g6 at6
      obtain ⟨a6, k6, hv6⟩ := row_slice o6
      obtain ⟨L6, hL6⟩ : ∃ L, L = (vs ++ [y]).length := ⟨_, rfl⟩
      rw [← hL6] at hv6
      subst hv6
      have PV8 := hide pv8
      have BO := hide bo
      have c6 := (PV7.out.arg.kept g6 (PV7.out.arg.offT (PV7.out.br.rowE 0 (by simp)) (by decide))).c2
      have b6 : Below w.heap.size w w6 := PV7.out.low.grown g6 PV7.out.low.size (fun k hk => (World.ownsRow.lt (PV7.out.br.rowE 0 (by simp)) k hk).1)
      have e6 := E.out _ b6
      have S6 := hide (And.intro c6.1 (And.intro c6.2 e6))
      clear o6 g6 at6 bo pv8 c6 b6 e6 hL6 hHeld
      refine hK.out _ _ (S6.out) (fun hHeld => ?_)
      clear hK K
      try simp only [Act.put, List.getElem_toArray, List.getElem_cons_zero, List.getElem_cons_succ, List.setIfInBounds_toArray, List.set_cons_zero, List.set_cons_succ]
      refine wpAnyH_take (i := 9) (v := ?v8) rfl (by kernel_rfl) (by kernel_rfl) (by kernel_rfl) (fun _ _ _ h => h) (Or.inl ⟨by rfl, ?hy8⟩) (by assumption) ?rest8
      case hy8 => (intro w' hSw; dsimp only [List.getElem_toArray, List.getElem_cons_zero, List.getElem_cons_succ] at hSw ⊢; go_simp; try (with_reducible rfl))
      try simp only [Act.put, List.getElem_toArray, List.getElem_cons_zero, List.getElem_cons_succ, List.setIfInBounds_toArray, List.set_cons_zero, List.set_cons_succ]
      refine wpAnyH_ready (rs := [10]) (by kernel_rfl) (by simp) ?_
      refine (AllReadyH.cons rfl (fun K hK => ?_) AllReadyH.nil)
      obtain ⟨q0, q1⟩ := BO.out.c2
      have qf := BO.out.frozen 1
      dsimp only [List.getElem_toArray, List.getElem_cons_zero, List.getElem_cons_succ]
      go_simp
      clear q0 q1 qf hHeld
      refine hK.out _ _ (⟨PV8.out.arg.c2.1, PV8.out.arg.c2.2, E.out _ PV8.out.low⟩) (fun hHeld => ?_)
      clear hK K
      try simp only [Act.put, List.getElem_toArray, List.getElem_cons_zero, List.getElem_cons_succ, List.setIfInBounds_toArray, List.set_cons_zero, List.set_cons_succ]
      refine wpAnyH_done (by kernel_rfl) ?_ _
      refine NoPanic.normal ?_
      clear hHeld
      obtain ⟨s0, s1⟩ := PV8.out.out.c2
      obtain ⟨r0, r1⟩ := PV8.out.res.c2
      have rf0 := PV8.out.res.frozen 0
      have rf1 := PV8.out.res.frozen 1
      have FIN := hide PV8.out.fin
      clear PV8 PV7 BO RX S6
      go_wp2
      exact bodyPost_ret (res_pl2 rfl _ _ (w.heap.size + 1) _ _ (0, 0) rfl FIN.out.1) rfl ⟨_, _, rfl, FIN.out.2.1, FIN.out.2.2⟩
end Go.Proofs.Ythmijjcddjlebaa

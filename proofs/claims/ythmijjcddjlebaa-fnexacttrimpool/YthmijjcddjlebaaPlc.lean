/-
  What is looked up in a pool: a version's branch, its leaf for a key, the value there, by the program and by the model, call by call. Each contract says what it asks.
-/
import Derived.Test.YthmijjcddjlebaaPlb
namespace Go.Proofs.Ythmijjcddjlebaa
open Go.RowKit
set_option linter.unusedVariables false

/-- The kids of a version's branch, of a leaf; the leaf's number and the value of a key. -/
def stmF (m : List Nd) (v : Int) : List Int := if v = -1 then [-1, -1, -1, -1] else (m.getD v.toNat nd0).1
def lfF (m : List Nd) (n : Int) : List Int := if n = -1 then [0, 0, 0, 0] else (m.getD n.toNat nd0).1
def lfN (m : List Nd) (vs : List Int) (ver key : Nat) : Int := (stmF m (vs.getD ver 0)).getD (key / 4) 0
def getF (m : List Nd) (vs : List Int) (ver key : Nat) : Int := (lfF m (lfN m vs ver key)).getD (key % 4) 0
theorem four_of {l : List Int} (h : l.length = 4) : ∃ a b c d, l = [a, b, c, d] := by
  match l, h with
  | [a, b, c, d], _ => exact ⟨a, b, c, d, rfl⟩
theorem gd_stem {m : List Nd} {vs : List Int} (h : okP m vs) (ver : Nat) (hv : ver < vs.length) :
    kB false m m.length (vs.getD ver 0) ∧ ∃ a b c d, stmF m (vs.getD ver 0) = [a, b, c, d] ∧ ∀ i, i < 4 → kB true m m.length ([a, b, c, d].getD i 0) := by
  have h1 := h.2.2 ver hv
  refine ⟨h1, ?_⟩
  rcases h1 with h1 | h1
  · refine ⟨-1, -1, -1, -1, by rw [h1]; rfl, fun i hi => .inl ?_⟩
    match i, hi with
    | 0, _ => rfl
    | 1, _ => rfl
    | 2, _ => rfl
    | 3, _ => rfl
  · have hne : vs.getD ver 0 ≠ -1 := by have := h1.1; omega
    have hb := h.2.1 (vs.getD ver 0).toNat (by have := h1.1; have := h1.2.1; omega)
    obtain ⟨a, b, c, d, e⟩ := four_of hb.1
    refine ⟨a, b, c, d, by unfold stmF; rw [if_neg hne, e], fun i hi => ?_⟩
    have h2 := (hb.2 i (by rw [hb.1]; exact hi)).2 h1.2.2
    rw [e] at h2
    rcases h2 with h2 | h2
    · exact .inl h2
    · exact .inr ⟨h2.1, by have := h2.2.1; have := h1.2.1; omega, h2.2.2⟩
theorem gd_leaf {m : List Nd} {vs : List Int} (h : okP m vs) (n : Int) (hn : kB true m m.length n) :
    ∃ a b c d, lfF m n = [a, b, c, d] ∧ ∀ i, i < 4 → vOk ([a, b, c, d].getD i 0) := by
  rcases hn with hn | hn
  · refine ⟨0, 0, 0, 0, by rw [hn]; rfl, fun i hi => ?_⟩
    match i, hi with
    | 0, _ => exact ⟨by decide, by decide⟩
    | 1, _ => exact ⟨by decide, by decide⟩
    | 2, _ => exact ⟨by decide, by decide⟩
    | 3, _ => exact ⟨by decide, by decide⟩
  · have hne : n ≠ -1 := by have := hn.1; omega
    have hb := h.2.1 n.toNat (by have := hn.1; have := hn.2.1; omega)
    obtain ⟨a, b, c, d, e⟩ := four_of hb.1
    refine ⟨a, b, c, d, by unfold lfF; rw [if_neg hne, e], fun i hi => ?_⟩
    have h2 := (hb.2 i (by rw [hb.1]; exact hi)).1 hn.2.2
    rw [e] at h2
    exact h2
theorem gd_lfN {m : List Nd} {vs : List Int} (h : okP m vs) (ver key : Nat) (hv : ver < vs.length) (hk : key < 16) : kB true m m.length (lfN m vs ver key) := by
  obtain ⟨_, a, b, c, d, e, h2⟩ := gd_stem h ver hv
  unfold lfN
  rw [e]
  exact h2 _ (by omega)
theorem quo4 (key : Nat) : Int.tdiv (key : Int) 4 = ((key / 4 : Nat) : Int) := by
  rw [Int.tdiv_eq_ediv_of_nonneg (by omega)]; omega
theorem rem4 (key : Nat) : Int.tmod (key : Int) 4 = ((key % 4 : Nat) : Int) := by
  rw [Int.tmod_eq_emod_of_nonneg (by omega)]; omega
theorem Rd.cellP {w : World} {a : Option Addr} {n cap : Nat} {xs : List Int} (h : Rd w (.slice a n cap) xs) (i : Nat) (hi : i < xs.length) : ∃ b off, a = some ⟨b, off, none⟩ ∧ w.cell? ⟨b, off + i, none⟩ = some (.int .i64 (xs.getD i 0)) := by
  obtain ⟨a', cap', hv, h1, h2, h3⟩ := h
  simp only [Value.slice.injEq] at hv
  obtain ⟨rfl, _, rfl⟩ := hv
  rcases h3 with rfl | ⟨b, off, rfl, hlt, hc⟩
  · simp at hi
  · exact ⟨b, off, rfl, hc i hi⟩
theorem Hand.twoP (w : World) (c1 c2 : Array Value) (T1 T2 : TypeId) : Hand w ((w.alloc (.cells c1 T1)).alloc (.cells c2 T2)) [TBox (w.heap.size + 1) c2 T2, TBox w.heap.size c1 T1] := by
  have h := ((Hand.start w).box c1 T1).box c2 T2
  simpa only [World.size_alloc] using h
theorem Hand.store4P {W w : World} {L : List Tg} {g : Nat} {a b c d : Value} {T : TypeId} (A : Hand W w L) (i : Nat) (hi : L[i]? = some (TBox g #[a, b, c, d] T)) (v0 v1 v2 v3 : Value) :
    Hand W ((((w.setCell ⟨g, 0, none⟩ v0).setCell ⟨g, 1, none⟩ v1).setCell ⟨g, 2, none⟩ v2).setCell ⟨g, 3, none⟩ v3) (L.set i (TBox g #[v0, v1, v2, v3] T)) := by
  obtain ⟨lo, hi', ⟨b1, b2, b3⟩, _, _, put⟩ := A.open i hi
  exact put _ (TBox g #[v0, v1, v2, v3] T) (TBox.st _ _ _) ⟨b1, b2, b3.store4 v0 v1 v2 v3⟩ (Chg.store4 w g v0 v1 v2 v3 b1 b2)
theorem f4Info : (Try.prog.info? 116).map (·.size) = some 4 := by kernel_rfl
theorem stInfo : (Try.prog.info? 118).map (·.size) = some 4 := by kernel_rfl
theorem lfInfo : (Try.prog.info? 120).map (·.size) = some 4 := by kernel_rfl
theorem res_f4 {fn : Func} {x : Tmp} (hf : fn.results = #[.cell x 116]) (tmps : Array Value) (w : World) (g : Nat) (a b c d : Value) (fr : Nat × Nat) (hp : tmps.getD x undef = .pointer (some ⟨g, 0, none⟩))
    (hg : w.heap[g]? = some (.cells #[a, b, c, d] 116 fr)) : (results fn tmps).run Try.prog w = .ok (.agg #[a, b, c, d]) w :=
  results_cell_row hf tmps w g _ _ fr _ hp hg Try.underlying116 rfl f4Info
theorem res_st {fn : Func} {x : Tmp} (hf : fn.results = #[.cell x 118]) (tmps : Array Value) (w : World) (g : Nat) (a b c d : Value) (fr : Nat × Nat) (hp : tmps.getD x undef = .pointer (some ⟨g, 0, none⟩))
    (hg : w.heap[g]? = some (.cells #[a, b, c, d] 118 fr)) : (results fn tmps).run Try.prog w = .ok (.agg #[a, b, c, d]) w :=
  results_cell_row hf tmps w g _ _ fr _ hp hg Try.underlying118 rfl stInfo
theorem res_lf {fn : Func} {x : Tmp} (hf : fn.results = #[.cell x 120]) (tmps : Array Value) (w : World) (g : Nat) (a b c d : Value) (fr : Nat × Nat) (hp : tmps.getD x undef = .pointer (some ⟨g, 0, none⟩))
    (hg : w.heap[g]? = some (.cells #[a, b, c, d] 120 fr)) : (results fn tmps).run Try.prog w = .ok (.agg #[a, b, c, d]) w :=
  results_cell_row hf tmps w g _ _ fr _ hp hg Try.underlying120 rfl lfInfo
/-- 'copy(f.kids[:], l)', f in memory of the call's own, l of four numbers. -/
theorem step_copy4 {w : World} {ops : Array Oper} {o : Oper} {a : Act} {K : Act → World → Prop} {Q : Exit → Act → World → Prop} {E : Prop} (hgd : o.guard = none) (d s : Operand)
    (ho : o.op = .call { callee := .builtin .copy, args := #[d, s], argTypes := #[41, 41] })
    (g sLen sCap : Nat) (sp : Option Addr) (x0 x1 x2 x3 : Value) (T : TypeId) (zs : List Int) (hz : zs.length = 4) (hd : a.eval d = .slice (some ⟨g, 0, none⟩) 4 4) (hs : a.eval s = .slice sp sLen sCap)
    (hx : BoxAt w g #[x0, x1, x2, x3] T) (hr : Rd w (.slice sp sLen sCap) zs)
    (h : ∀ w', BoxAt w' g (zs.map (Value.int .i64)).toArray T → w.grownBy w' (some g) → K (a.put o.dst (goInt 4)) w') :
    if Region.wanted o (yielded ops a.tmps) = true then Oper.wp Try.prog o a w K Q else E := by
  have hw : Region.wanted o (yielded ops a.tmps) = true := by simp [Region.wanted, hgd]
  rw [if_pos hw]
  obtain ⟨a', cap', hv, _, _, h3⟩ := hr
  simp only [Value.slice.injEq] at hv
  obtain ⟨rfl, rfl, rfl⟩ := hv
  rcases h3 with h3 | ⟨b, off, rfl, _, hc⟩
  · rw [h3] at hz; simp at hz
  have hc' : ∀ j y, (zs.map (Value.int .i64))[j]? = some y → w.cell? ((⟨b, off, none⟩ : Addr).add j) = some y := fun j y hj => by
    have hjl : j < zs.length := by simpa using (List.getElem?_eq_some_iff.1 hj).1
    have hadd : (⟨b, off, none⟩ : Addr).add j = ⟨b, off + j, none⟩ := by unfold Addr.add; split <;> simp_all
    rw [hadd, hc j hjl]
    rw [List.getElem?_map, List.getElem?_eq_getElem hjl] at hj
    simp only [Option.map_some, Option.some.injEq] at hj
    rw [← hj, List.getD_eq_getElem?_getD, List.getElem?_eq_getElem hjl, Option.getD_some]
  have hrun := run_copy_row (P := Try.prog) w 41 41 o.type 3 g 0 4 4 ⟨b, off, none⟩ zs.length sCap #[x0, x1, x2, x3] T (zs.map (Value.int .i64)) Try.underlying41 infoSize hx (by rw [List.length_map, hz]; rfl) hc' (by simp [hz]) (ints_oneCell _ _)
  have e : (#[x0, x1, x2, x3] : Array Value).toList.take 0 ++ zs.map (Value.int .i64) ++ (#[x0, x1, x2, x3] : Array Value).toList.drop (0 + (zs.map (Value.int .i64)).length) = zs.map (Value.int .i64) := by
    simp [hz]
  rw [e] at hrun
  have := h (w.setRow g (zs.map (Value.int .i64)).toArray) (setRow_heap w g _ _ T _ hx) ⟨rfl, rfl, rfl, by simp [World.setRow], fun k _ hk => setRow_other w g k _ (fun e => hk (by simp [e]))⟩
  rw [List.length_map, hz] at hrun
  rw [hz] at hs
  unfold Oper.wp
  simp [execOp, ho, resolve, invoke, builtin, hd, hs, hrun, Result.andThen]
  exact this

set_option maxRecDepth 100000 in
set_option maxHeartbeats 800000 in
theorem kidAt_calls (a b c d k x : Int) (w : World) (hk : k = 0 ∨ k = 1 ∨ k = 2 ∨ k = 3) (hx : [a, b, c, d].getD k.toNat 0 = x) :
    Calls Try.prog 135 #[.agg #[.int .i64 a, .int .i64 b, .int .i64 c, .int .i64 d], .int .i64 k] w fun e w' => e = .returned (.int .i64 x) ∧ Below w.heap.size w w' := by
  have b0 := hide (below_box w (.cells #[.int .i64 a, .int .i64 b, .int .i64 c, .int .i64 d] 116))
  rcases hk with rfl | rfl | rfl | rfl
  · obtain rfl : a = x := hx
    go_enter Try.func135, Try.ntmps135
    go_wp2
    go_ret
    exact ⟨rfl, b0.out⟩
  · obtain rfl : b = x := hx
    go_enter Try.func135, Try.ntmps135
    go_wp2
    go_ret
    exact ⟨rfl, b0.out⟩
  · obtain rfl : c = x := hx
    go_enter Try.func135, Try.ntmps135
    go_wp2
    go_ret
    exact ⟨rfl, b0.out⟩
  · obtain rfl : d = x := hx
    go_enter Try.func135, Try.ntmps135
    go_wp2
    go_ret
    exact ⟨rfl, b0.out⟩

set_option linter.unusedSimpArgs false in
set_option maxRecDepth 100000 in
set_option maxHeartbeats 1600000 in
theorem kidsOf_calls (v : Value) (a b c d : Int) (z : Bool) (w : World) (h : Rd w v [a, b, c, d]) :
    Calls Try.prog 136 #[.agg #[v, .bool z]] w fun e w' => e = .returned (.agg #[.int .i64 a, .int .i64 b, .int .i64 c, .int .i64 d]) ∧ Below w.heap.size w w' := by
  have U := hide h
  obtain ⟨ua, uc, rfl⟩ : ∃ ua uc, v = .slice ua 4 uc := by
    obtain ⟨ua, uc, rfl, _, _⟩ := h.slc
    exact ⟨ua, uc, rfl⟩
  have A1 := hide (Hand.threeN w #[.slice ua 4 uc, .bool z] #[.int .i64 0, .int .i64 0, .int .i64 0, .int .i64 0] #[.int .i64 0, .int .i64 0, .int .i64 0, .int .i64 0] 104 116 116)
  clear h
  go_enter Try.func136, Try.ntmps136
  go_wp2
  refine wp_region_noPanic ?_
  refine wp_region_held_drew (S := fun w' => w'.cell? ⟨w.heap.size, 0, none⟩ = some (.slice ua 4 uc) ∧ w'.cell? ⟨w.heap.size, 1, none⟩ = some (.bool z)) (by kernel_rfl) ((A1.out.step (Below.refl _ _).drew).atBox 2 rfl |>.c2) (fun hHeld => ?_)
  have G0 := hide (A1.out.step (Below.refl _ _).drew)
  clear A1
  generalize World.drew _ = V0 at *
  refine wpAnyH_take (i := 0) (v := ?v1) rfl (by kernel_rfl) (by kernel_rfl) (by kernel_rfl) (fun _ _ _ h => h) (Or.inl ⟨by rfl, ?hy1⟩) (by assumption) ?rest1
  case hy1 => (intro w' hSw; dsimp only [List.getElem_toArray, List.getElem_cons_zero, List.getElem_cons_succ] at hSw ⊢; go_simp; try (with_reducible rfl))
  try simp only [Act.put, List.getElem_toArray, List.getElem_cons_zero, List.getElem_cons_succ, List.setIfInBounds_toArray, List.set_cons_zero, List.set_cons_succ]
  refine wpAnyH_take (i := 1) (v := ?v2) rfl (by kernel_rfl) (by kernel_rfl) (by kernel_rfl) (fun _ _ _ h => h) (Or.inl ⟨by rfl, ?hy2⟩) (by assumption) ?rest2
  case hy2 => (intro w' hSw; dsimp only [List.getElem_toArray, List.getElem_cons_zero, List.getElem_cons_succ] at hSw ⊢; go_simp; try (with_reducible rfl))
  try simp only [Act.put, List.getElem_toArray, List.getElem_cons_zero, List.getElem_cons_succ, List.setIfInBounds_toArray, List.set_cons_zero, List.set_cons_succ]
  refine wpAnyH_take (i := 2) (v := ?v3) rfl (by kernel_rfl) (by kernel_rfl) (by kernel_rfl) (fun _ _ _ h => h) (Or.inl ⟨by rfl, ?hy3⟩) (by assumption) ?rest3
  case hy3 => (intro w' hSw; dsimp only [List.getElem_toArray, List.getElem_cons_zero, List.getElem_cons_succ] at hSw ⊢; go_simp; try (with_reducible rfl))
  try simp only [Act.put, List.getElem_toArray, List.getElem_cons_zero, List.getElem_cons_succ, List.setIfInBounds_toArray, List.set_cons_zero, List.set_cons_succ]
  refine wpAnyH_take (i := 3) (v := ?v4) rfl (by kernel_rfl) (by kernel_rfl) (by kernel_rfl) (fun _ _ _ h => h) (Or.inl ⟨by rfl, ?hy4⟩) (by assumption) ?rest4
  case hy4 => (intro w' hSw; dsimp only [List.getElem_toArray, List.getElem_cons_zero, List.getElem_cons_succ] at hSw ⊢; go_simp; try (with_reducible rfl))
  try simp only [Act.put, List.getElem_toArray, List.getElem_cons_zero, List.getElem_cons_succ, List.setIfInBounds_toArray, List.set_cons_zero, List.set_cons_succ]
  refine wpAnyH_ready (rs := [4]) (by kernel_rfl) (by simp) ?_
  refine AllReadyH.cons rfl (fun K hK => ?_) AllReadyH.nil
  refine step_copy4 (by rfl) (.tmp 6) (.tmp 8) (by rfl) (w.heap.size + 1 + 1) 4 uc ua _ _ _ _ _ [a, b, c, d] rfl (by rfl) (by rfl) (G0.out.atBox 0 rfl) (U.out.below G0.out.below) ?_
  intro u1 x1 g1
  obtain ⟨lo, hi, ⟨y1, y2, y3⟩, l1, l2, put⟩ := G0.out.open 0 rfl
  have G2 : Hid (Hand w u1 [TBox (w.heap.size + 1 + 1) #[.int .i64 a, .int .i64 b, .int .i64 c, .int .i64 d] 116, TBox (w.heap.size + 1) #[.int .i64 0, .int .i64 0, .int .i64 0, .int .i64 0] 116, TBox w.heap.size #[.slice ua 4 uc, .bool z] 104]) := put u1 (TBox (w.heap.size + 1 + 1) #[.int .i64 a, .int .i64 b, .int .i64 c, .int .i64 d] 116) (TBox.st _ _ _) ⟨y1, y2, x1⟩ (Chg.ofGrown g1 (fun k hk => by cases hk; exact ⟨y1, y2⟩))
  clear put y1 y2 y3 l1 l2 x1 g1 G0 lo hi
  refine hK.out _ _ ((G2.out.atBox 2 rfl).c2) (fun hHeld => ?_)
  clear hK K
  try simp only [Act.put, List.getElem_toArray, List.getElem_cons_zero, List.getElem_cons_succ, List.setIfInBounds_toArray, List.set_cons_zero, List.set_cons_succ]
  refine wpAnyH_done (by kernel_rfl) ?_ _
  refine NoPanic.normal ?_
  clear hHeld
  have xr := G2.out.atBox 0 rfl
  have xs := G2.out.atBox 1 rfl
  obtain ⟨c0, c1, c2, c3⟩ := BoxAt.c4 (a := .int .i64 a) (b := .int .i64 b) (c := .int .i64 c) (d := .int .i64 d) xr
  obtain ⟨d0, d1, d2, d3⟩ := xs.c4
  have f0 := xs.frozen 0
  have f1 := xs.frozen 1
  have f2 := xs.frozen 2
  have f3 := xs.frozen 3
  have G3 := hide (G2.out.store4P 1 rfl (.int .i64 a) (.int .i64 b) (.int .i64 c) (.int .i64 d))
  clear xr xs G2
  go_wp2
  exact bodyPost_ret (res_f4 rfl _ _ (w.heap.size + 1) _ _ _ _ (0, 0) rfl (G3.out.atBox 1 rfl)) rfl ⟨rfl, G3.out.below⟩

set_option maxRecDepth 100000 in
set_option maxHeartbeats 1600000 in
theorem stemOf_calls (p r : Value) (m : List Nd) (vs : List Int) (ver : Nat) (a b c d : Int) (w : World) (h : RdP w p r m vs) (hv : ver < vs.length) (hs : kB false m m.length (vs.getD ver 0)) (he : stmF m (vs.getD ver 0) = [a, b, c, d]) :
    Calls Try.prog 97 #[.agg #[p, r], .int .i64 ver] w fun e w' => e = .returned (.agg #[.int .i64 a, .int .i64 b, .int .i64 c, .int .i64 d]) ∧ Below w.heap.size w w' := by
  have A0 := hide (Hand.twoP w #[p, r] #[.int .i64 0, .int .i64 0, .int .i64 0, .int .i64 0] 43 118)
  have R := hide (h.below A0.out.below)
  obtain ⟨⟨ap, cp, rfl, _⟩, ⟨ar, cr, rfl, hr1, hr2, _⟩⟩ := h
  have hrm : vs.length ≤ maxLen := by omega
  unfold maxLen at hrm
  clear hr1 hr2
  obtain ⟨b1, o1, rfl, cv⟩ := R.out.2.cellP ver hv
  obtain ⟨x, hx⟩ : ∃ x, x = vs.getD ver 0 := ⟨_, rfl⟩
  rw [← hx] at cv hs he
  clear hx
  have hv' : (ver : Int) < (vs.length : Int) := by omega
  by_cases h1 : x = -1
  · subst h1
    obtain ⟨rfl, rfl, rfl, rfl⟩ : -1 = a ∧ -1 = b ∧ -1 = c ∧ -1 = d := by simpa [stmF] using he
    have A1 := hide (Hand.twoP w #[.slice ap m.length cp, .slice (some ⟨b1, o1, none⟩) vs.length cr] #[.int .i64 (-1), .int .i64 (-1), .int .i64 (-1), .int .i64 (-1)] 43 118)
    clear he hs A0
    go_enter Try.func97, Try.ntmps97
    go_wp2
    exact bodyPost_ret (res_st rfl _ _ (w.heap.size + 1) _ _ _ _ (0, 0) rfl (A1.out.atBox 0 rfl)) rfl ⟨rfl, A1.out.below⟩
  obtain ⟨n, rfl⟩ : ∃ n : Nat, x = (n : Int) := ⟨x.toNat, by have := (hs.resolve_left h1).1; omega⟩
  have hnm : n < m.length := by have := (hs.resolve_left h1).2.1; omega
  obtain ⟨b2, o2, u, ks, z, rfl, hk, hu, c0, c1⟩ := R.out.1.at n hnm
  have hnm' : (n : Int) < (m.length : Int) := by omega
  have h1' : ¬ (n : Int) = -1 := h1
  obtain rfl : ks = [a, b, c, d] := by
    rw [← he]
    unfold stmF
    rw [if_neg h1, Int.toNat_natCast, hk]
  have U := hide hu
  obtain ⟨ua, uc, rfl⟩ : ∃ ua uc, u = .slice ua 4 uc := by
    obtain ⟨ua, uc, rfl, _, _⟩ := hu.slc
    exact ⟨ua, uc, rfl⟩
  clear hu hk he hs h1
  go_enter Try.func97, Try.ntmps97
  go_wp2_with fail
  refine (kidsOf_calls _ a b c d z _ U.out).mono ?_
  rintro e w1 ⟨rfl, q⟩
  have A1 := hide (A0.out.step q)
  clear q A0
  have xs := A1.out.atBox 0 rfl
  obtain ⟨d0, d1, d2, d3⟩ := xs.c4
  have f0 := xs.frozen 0
  have f1 := xs.frozen 1
  have f2 := xs.frozen 2
  have f3 := xs.frozen 3
  have A2 := hide (A1.out.store4P 0 rfl (.int .i64 a) (.int .i64 b) (.int .i64 c) (.int .i64 d))
  clear xs A1
  go_wp2
  exact bodyPost_ret (res_st rfl _ _ (w.heap.size + 1) _ _ _ _ (0, 0) rfl (A2.out.atBox 0 rfl)) rfl ⟨rfl, A2.out.below⟩

set_option maxRecDepth 100000 in
set_option maxHeartbeats 1600000 in
theorem leafUnder_calls (p r : Value) (m : List Nd) (vs : List Int) (a b c d x : Int) (key : Nat) (e f g h' : Int) (w : World) (h : RdP w p r m vs) (hk : key < 16) (hx : [a, b, c, d].getD (key / 4) 0 = x) (hs : kB true m m.length x) (he : lfF m x = [e, f, g, h']) :
    Calls Try.prog 98 #[.agg #[p, r], .agg #[.int .i64 a, .int .i64 b, .int .i64 c, .int .i64 d], .int .i64 key] w fun e' w' => e' = .returned (.agg #[.int .i64 e, .int .i64 f, .int .i64 g, .int .i64 h']) ∧ Below w.heap.size w w' := by
  have A0 := hide (Hand.threeN w #[p, r] #[.int .i64 a, .int .i64 b, .int .i64 c, .int .i64 d] #[.int .i64 0, .int .i64 0, .int .i64 0, .int .i64 0] 43 118 120)
  have R := hide (h.below A0.out.below)
  obtain ⟨⟨ap, cp, rfl, _⟩, ⟨ar, cr, rfl, _⟩⟩ := h
  have e4 := quo4 key
  obtain ⟨q, hq⟩ : ∃ q, q = key / 4 := ⟨_, rfl⟩
  rw [← hq] at e4 hx
  have hq4 : (q : Int) = 0 ∨ (q : Int) = 1 ∨ (q : Int) = 2 ∨ (q : Int) = 3 := by omega
  have Q4 := hide hq4
  have HX := hide hx
  have hq3 : (q : Int) ≤ 3 := by omega
  have A1 := hide A0.out
  clear hq hk hq4 hx
  go_enter Try.func98, Try.ntmps98
  go_wp2_with fail
  refine (kidAt_calls a b c d _ x _ Q4.out (by rw [Int.toNat_natCast]; exact HX.out)).mono ?_
  rintro e' w1 ⟨rfl, b1⟩
  have A2 := hide (A1.out.step b1)
  have R2 := hide (R.out.below b1)
  clear b1 A1 A0 R
  have xp := A2.out.atBox 2 rfl
  have xs := A2.out.atBox 0 rfl
  obtain ⟨p0, p1⟩ := xp.c2
  obtain ⟨d0, d1, d2, d3⟩ := xs.c4
  have f0 := xs.frozen 0
  have f1 := xs.frozen 1
  have f2 := xs.frozen 2
  have f3 := xs.frozen 3
  clear xp xs
  by_cases h1 : x = -1
  · subst h1
    obtain ⟨rfl, rfl, rfl, rfl⟩ : 0 = e ∧ 0 = f ∧ 0 = g ∧ 0 = h' := by simpa [lfF] using he
    have A3 := hide (A2.out.store4P 0 rfl (.int .i64 0) (.int .i64 0) (.int .i64 0) (.int .i64 0))
    clear he hs A2
    go_wp2
    exact bodyPost_ret (res_lf rfl _ _ (w.heap.size + 1 + 1) _ _ _ _ (0, 0) rfl (A3.out.atBox 0 rfl)) rfl ⟨rfl, A3.out.below⟩
  obtain ⟨n, rfl⟩ : ∃ n : Nat, x = (n : Int) := ⟨x.toNat, by have := (hs.resolve_left h1).1; omega⟩
  have hnm : n < m.length := by have := (hs.resolve_left h1).2.1; omega
  obtain ⟨b2, o2, u, ks, z, rfl, hkk, hu, c0, c1⟩ := R2.out.1.at n hnm
  have hnm' : (n : Int) < (m.length : Int) := by omega
  have h1' : ¬ (n : Int) = -1 := h1
  obtain rfl : ks = [e, f, g, h'] := by
    rw [← he]
    unfold lfF
    rw [if_neg h1, Int.toNat_natCast, hkk]
  have U := hide hu
  obtain ⟨ua, uc, rfl⟩ : ∃ ua uc, u = .slice ua 4 uc := by
    obtain ⟨ua, uc, rfl, _, _⟩ := hu.slc
    exact ⟨ua, uc, rfl⟩
  clear hu hkk he hs h1
  go_wp2_with fail
  refine (kidsOf_calls _ e f g h' z _ U.out).mono ?_
  rintro e' w2 ⟨rfl, q2⟩
  have A3 := hide (A2.out.step q2)
  clear q2 A2 d0 d1 d2 d3 f0 f1 f2 f3 p0 p1 c0 c1
  have xs := A3.out.atBox 0 rfl
  obtain ⟨d0, d1, d2, d3⟩ := xs.c4
  have f0 := xs.frozen 0
  have f1 := xs.frozen 1
  have f2 := xs.frozen 2
  have f3 := xs.frozen 3
  have A4 := hide (A3.out.store4P 0 rfl (.int .i64 e) (.int .i64 f) (.int .i64 g) (.int .i64 h'))
  clear xs A3
  go_wp2
  exact bodyPost_ret (res_lf rfl _ _ (w.heap.size + 1 + 1) _ _ _ _ (0, 0) rfl (A4.out.atBox 0 rfl)) rfl ⟨rfl, A4.out.below⟩
end Go.Proofs.Ythmijjcddjlebaa

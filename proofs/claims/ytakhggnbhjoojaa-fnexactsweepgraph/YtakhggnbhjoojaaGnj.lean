/-
  New graphs: NewGraph of the program and of the model, call by call. Each contract says what it asks.
-/
import Derived.Test.YtakhggnbhjoojaaGng
namespace Go.Proofs.Ytakhggnbhjoojaa
open Go.RowKit
set_option linter.unusedVariables false

theorem res_gr2 {fn : Func} {x u : Tmp} (hf : fn.results = #[.cell x 27, .tmp u]) (tmps : Array Value) (w : World) (g : Nat) (p h b : Value) (fr : Nat × Nat) (hp : tmps.getD x undef = .pointer (some ⟨g, 0, none⟩))
    (hg : w.heap[g]? = some (.cells #[p, h, b] 27 fr)) : (results fn tmps).run Try.prog w = .ok (.tuple #[.agg #[p, h, b], tmps.getD u undef]) w := by
  have hp' : tmps[x]?.getD undef = .pointer (some ⟨g, 0, none⟩) := by simpa using hp
  simp [results, hf, hp', asAddr, run_loadVar_row w g _ _ _ fr _ hg Try.underlying27 rfl grInfo]
theorem res_gr3 {fn : Func} {x u v : Tmp} (hf : fn.results = #[.cell x 27, .tmp u, .tmp v]) (tmps : Array Value) (w : World) (g : Nat) (p h b : Value) (fr : Nat × Nat) (hp : tmps.getD x undef = .pointer (some ⟨g, 0, none⟩))
    (hg : w.heap[g]? = some (.cells #[p, h, b] 27 fr)) : (results fn tmps).run Try.prog w = .ok (.tuple #[.agg #[p, h, b], tmps.getD u undef, tmps.getD v undef]) w := by
  have hp' : tmps[x]?.getD undef = .pointer (some ⟨g, 0, none⟩) := by simpa using hp
  simp [results, hf, hp', asAddr, run_loadVar_row w g _ _ _ fr _ hg Try.underlying27 rfl grInfo]

/-- A list, where it is answered; else nothing. -/
def gX {α : Type} (ok : Bool) (l : List α) : List α := if ok = true then l else []
theorem gX_true {α : Type} (l : List α) : gX true l = l := rfl
theorem gX_false {α : Type} (l : List α) : gX false l = [] := rfl
theorem TGrf.nil (w : World) (lo hi : Nat) : TGrf nilRow nilRow nilRow [] [] [] lo hi w := by
  refine ⟨[], World.ownsRow_nil _ _ _ _, fun k hk => by simp [Value.ownBlock] at hk, rfl, rfl, fun i hi => ?_, fun i b hi hb => ?_, fun i j hi hj _ => ?_⟩
  · rcases i with _ | _ | i
    · exact World.ownsRow_nil _ _ _ _
    · exact World.ownsRow_nil _ _ _ _
    · exfalso; simp at hi; omega
  · rcases i with _ | _ | i
    · simp [Value.ownBlock] at hb
    · simp [Value.ownBlock] at hb
    · exfalso; simp at hi; omega
  · rcases i with _ | _ | i
    · exact .inl rfl
    · exact .inl rfl
    · exfalso; simp at hi; omega
theorem Hand.wideG {W w : World} {L : List Tg} {p r c : Value} {xs : List Nd} {rs cs : List Int} (A : Hand W w L) (i : Nat) (hi : L[i]? = some (TGrf p r c xs rs cs)) : TGrf p r c xs rs cs W.heap.size w.heap.size w := by
  obtain ⟨lo, hi', ⟨us, d⟩, h1, h2, _⟩ := A.open i hi
  exact ⟨us, d.wider h1 h2⟩
/-- Counts, nodes, roots held one above another are a graph. -/
theorem Hand.graph2 {W w : World} {L : List Tg} {p r c : Value} {xs : List Nd} {rs cs : List Int} (A : Hand W w (TInts r rs :: TNds p xs :: TInts c cs :: L)) : TGrf p r c xs rs cs W.heap.size w.heap.size w := by
  obtain ⟨lo1, hi1, ⟨_, o1, t1⟩, a1, a2, lo3, hi3, ⟨_, us, h⟩, c1, c2, lo2, hi2, ⟨_, o2, t2⟩, b1, b2, d⟩ := A.held
  have hb := d.base
  have h0 := h.wider (lo' := W.heap.size) (hi' := hi3) (by omega) (Nat.le_refl _)
  have l1 := row_low o1
  have l2 := row_low o2
  have h1 := h0.addAny (u := c) (r := cs) (hi2 := hi3) (ownsRow_mono o2 (by omega)) (Nat.le_refl _) (fun b hb' => by have := t2 b hb'; omega) (fun b hb' => ⟨fun i hi => by simp at hi, fun i hi e => by
    have := (World.ownsRow.lt (h.row i hi) b e).1
    have := t2 b hb'
    omega⟩)
  have h2 := h1.addAny (u := r) (r := rs) (hi2 := hi1) (ownsRow_mono o1 (by omega)) (by omega) t1 (fun b hb' => ⟨fun i hi e => by
    have : i = 0 := by simpa using hi
    subst this
    have := t2 b e
    have := l1 b hb'
    omega, fun i hi e => by
    have := h.rowTop i hi b e
    have := l1 b hb'
    omega⟩)
  exact ⟨us, h2.wider (Nat.le_refl _) a2⟩
theorem szG_ok {m : List Nd} {rs : List Int} (h : okG m rs) : SzG m rs (cntG m rs) := by
  have h1 := totN_six m h.1.2
  have h2 := h.1.1
  have h3 := h.2.1
  have h4 := cntG_len m rs
  exact ⟨by omega, by omega, by omega⟩

set_option maxRecDepth 100000 in
set_option maxHeartbeats 1600000 in
theorem sNewGraph_calls (v u : Value) (m : List Nd) (rs : List Int) (ok : Bool) (w : World) (h : RdN w v m) (hu : Rd w u rs) (hok : ok = decide (goodG m rs (cntG m rs))) :
    Calls Try.prog 15 #[v, u] w fun e w' => ∃ p r c, e = .returned (.tuple #[.agg #[p, r, c], .bool ok]) ∧ TGrf p r c (gX ok m) (gX ok rs) (gX ok (cntG m rs)) w.heap.size w'.heap.size w' ∧ Below w.heap.size w w' := by
  have R := hide h
  have V := hide hu
  obtain ⟨a, cap, rfl, _, _, _⟩ := h
  obtain ⟨ra, rc, rfl, _, _⟩ := hu.slc
  have A0 := hide ((Hand.start w).box nilG 27)
  clear hu
  by_cases hg : okG m rs
  case neg =>
    obtain rfl : ok = false := by rw [hok]; exact decide_eq_false (fun h => hg h.1)
    have E : Hid (decide (okG m rs) = false) := decide_eq_false hg
    clear hok hg
    go_enter Try.func15, Try.ntmps15
    go_wp2_with fail
    refine (l10Nodes_calls _ _ m rs _ (R.out.below A0.out.below) (V.out.below A0.out.below)).mono ?_
    rw [E.out]
    rintro e w1 ⟨rfl, b1⟩
    have A1 := hide (A0.out.step b1)
    have x := A1.out.atBox 0 rfl
    obtain ⟨c0, c1, c2⟩ := x.c3
    have f0 := x.frozen 0
    have f1 := x.frozen 1
    have f2 := x.frozen 2
    have A2 := hide (A1.out.store3G 0 rfl nilRow nilRow nilRow)
    clear b1 A0 A1 x
    go_wp2
    exact bodyPost_ret (res_gr2 rfl _ _ w.heap.size _ _ _ (0, 0) rfl (A2.out.atBox 0 rfl)) rfl ⟨_, _, _, rfl, TGrf.nil _ _ _, A2.out.below⟩
  have E : Hid (decide (okG m rs) = true) := decide_eq_true hg
  have OK := hide hg
  have HOK := hide hok
  clear hok hg
  go_enter Try.func15, Try.ntmps15
  go_wp2_with fail
  refine (l10Nodes_calls _ _ m rs _ (R.out.below A0.out.below) (V.out.below A0.out.below)).mono ?_
  rw [E.out]
  rintro e w1 ⟨rfl, b1⟩
  have A1 := hide (A0.out.step b1)
  clear b1 A0
  go_wp2_with fail
  refine (l10Counts_calls _ _ m rs _ (R.out.below A1.out.below) (V.out.below A1.out.below) OK.out).mono ?_
  rintro e w2 ⟨c, rfl, o2, b2⟩
  obtain ⟨a2, k2, rfl⟩ := row_slice o2
  have A2 := hide ((A1.out.add b2 (TInts.st _ _) ⟨o2, row_top o2⟩).box #[.slice a m.length cap, .slice ra rs.length rc, .slice a2 (cntG m rs).length k2] 27)
  clear b2 o2 A1
  obtain ⟨lo2, hi2, d2⟩ := A2.out.get 1 rfl
  have RG : Hid (RdG _ (.slice a m.length cap) (.slice ra rs.length rc) (.slice a2 (cntG m rs).length k2) m rs (cntG m rs)) := ⟨R.out.below A2.out.below, V.out.below A2.out.below, Own.rd d2.1⟩
  clear d2
  go_wp2_with fail
  refine (sGoodGraph_calls _ _ _ m rs (cntG m rs) _ RG.out).mono ?_
  rw [← HOK.out]
  rintro e w3 ⟨rfl, b3⟩
  have A3 := hide (A2.out.step b3)
  have RG3 := hide (RG.out.below b3)
  obtain ⟨e0, e1, e2⟩ := (A3.out.atBox 0 rfl).c3
  clear b3 A2 RG
  cases ok with
  | false =>
    have x := A3.out.atBox 2 rfl
    obtain ⟨c0, c1, c2⟩ := x.c3
    have f0 := x.frozen 0
    have f1 := x.frozen 1
    have f2 := x.frozen 2
    have A4 := hide (A3.out.store3G 2 rfl nilRow nilRow nilRow)
    clear A3 x
    go_wp2
    exact bodyPost_ret (res_gr2 rfl _ _ w.heap.size _ _ _ (0, 0) rfl (A4.out.atBox 2 rfl)) rfl ⟨_, _, _, rfl, TGrf.nil _ _ _, A4.out.below⟩
  | true =>
    go_wp2_with fail
    refine (l10Own_calls _ _ _ m rs (cntG m rs) _ RG3.out (szG_ok OK.out)).mono ?_
    rintro e w4 ⟨p4, r4, c4, rfl, d4, b4⟩
    obtain ⟨ap, cp, ar, cr, ac, cc, rfl, rfl, rfl⟩ := d4.sls
    have A4 := hide (A3.out.add b4 (TGrf.st _ _ _ _ _ _) d4)
    have x := A4.out.atBox 3 rfl
    clear e0 e1 e2
    obtain ⟨c0, c1, c2⟩ := x.c3
    have f0 := x.frozen 0
    have f1 := x.frozen 1
    have f2 := x.frozen 2
    have A5 := hide (A4.out.store3G 3 rfl (.slice ap m.length cp) (.slice ar rs.length cr) (.slice ac (cntG m rs).length cc))
    clear A3 x A4 b4 d4
    go_wp2
    exact bodyPost_ret (res_gr2 rfl _ _ w.heap.size _ _ _ (0, 0) rfl (A5.out.atBox 3 rfl)) rfl ⟨_, _, _, rfl, A5.out.wideG 0 rfl, A5.out.below⟩

set_option maxRecDepth 100000 in
set_option maxHeartbeats 1600000 in
theorem newGraph_calls (v u : Value) (m : List Nd) (rs : List Int) (ok : Bool) (w : World) (h : RdN w v m) (hu : Rd w u rs) (hok : ok = decide (goodG m rs (cntG m rs))) :
    Calls Try.prog 18 #[v, u] w fun e w' => ∃ p r c, e = .returned (.tuple #[.agg #[p, r, c], .bool ok]) ∧ TGrf p r c (gX ok m) (gX ok rs) (gX ok (cntG m rs)) w.heap.size w'.heap.size w' ∧ Below w.heap.size w w' := by
  have R := hide h
  have V := hide hu
  obtain ⟨a, cap, rfl, _, _, _⟩ := h
  obtain ⟨ra, rc, rfl, _, _⟩ := hu.slc
  have A0 := hide ((Hand.start w).box nilG 27)
  clear hu
  by_cases hg : okG m rs
  case neg =>
    obtain rfl : ok = false := by rw [hok]; exact decide_eq_false (fun h => hg h.1)
    have E : Hid (decide (okG m rs) = false) := decide_eq_false hg
    have CT : Hid (ctR m rs = []) := if_neg hg
    clear hok hg
    go_enter Try.func18, Try.ntmps18
    go_wp2_with fail
    refine (countsOf_calls _ _ m rs _ (R.out.below A0.out.below) (V.out.below A0.out.below)).mono ?_
    rw [E.out, CT.out]
    rintro e w1 ⟨c1', rfl, o1, b1⟩
    have A1 := hide (A0.out.step b1)
    have x := A1.out.atBox 0 rfl
    obtain ⟨c0, c1, c2⟩ := x.c3
    have f0 := x.frozen 0
    have f1 := x.frozen 1
    have f2 := x.frozen 2
    have A2 := hide (A1.out.store3G 0 rfl nilRow nilRow nilRow)
    clear b1 o1 A0 A1 x
    go_wp2
    exact bodyPost_ret (res_gr2 rfl _ _ w.heap.size _ _ _ (0, 0) rfl (A2.out.atBox 0 rfl)) rfl ⟨_, _, _, rfl, TGrf.nil _ _ _, A2.out.below⟩
  have E : Hid (decide (okG m rs) = true) := decide_eq_true hg
  have CT : Hid (ctR m rs = cntG m rs) := if_pos hg
  have OK := hide hg
  have SZ := hide (szG_ok hg)
  have HN : Hid (decide (named m (cntG m rs)) = ok) := by
    show _ = _
    rw [hok]
    exact decide_eq_decide.2 ⟨fun h => ⟨hg, rfl, h⟩, fun h => h.2.2⟩
  clear hok hg
  go_enter Try.func18, Try.ntmps18
  go_wp2_with fail
  refine (countsOf_calls _ _ m rs _ (R.out.below A0.out.below) (V.out.below A0.out.below)).mono ?_
  rw [E.out, CT.out]
  rintro e w1 ⟨c1', rfl, o1, b1⟩
  obtain ⟨a1, k1, rfl⟩ := row_slice o1
  have A1 := hide (A0.out.add b1 (TInts.st _ _) ⟨o1, row_top o1⟩)
  have RC := hide (Own.rd o1)
  clear b1 A0 o1
  go_wp2_with fail
  refine (areAllNamed_calls _ _ m (cntG m rs) _ (R.out.below A1.out.below) RC.out (cntG_len m rs)).mono ?_
  rw [HN.out]
  rintro e w2 ⟨rfl, b2⟩
  have A2 := hide (A1.out.step b2)
  clear b2 A1
  cases ok with
  | false =>
    have x := A2.out.atBox 1 rfl
    obtain ⟨c0, c1, c2⟩ := x.c3
    have f0 := x.frozen 0
    have f1 := x.frozen 1
    have f2 := x.frozen 2
    have A4 := hide (A2.out.store3G 1 rfl nilRow nilRow nilRow)
    clear A2 x
    go_wp2
    exact bodyPost_ret (res_gr2 rfl _ _ w.heap.size _ _ _ (0, 0) rfl (A4.out.atBox 1 rfl)) rfl ⟨_, _, _, rfl, TGrf.nil _ _ _, A4.out.below⟩
  | true =>
    go_wp2_with fail
    refine (eachOf_calls _ m _ (R.out.below A2.out.below) SZ.out.1).mono ?_
    rintro e w3 ⟨g3, rfl, d3, b3⟩
    have A3 := hide (A2.out.add b3 (TNds.st _ _) d3)
    clear b3 d3 A2
    go_wp2_with fail
    refine (copyInts_calls _ rs _ (V.out.below A3.out.below) SZ.out.2.1).mono ?_
    rintro e w4 ⟨r4, rfl, o4, b4⟩
    obtain ⟨a4, k4, rfl⟩ := row_slice o4
    have A4 := hide (A3.out.add b4 (TInts.st _ _) ⟨o4, row_top o4⟩)
    clear b4 o4 A3
    have x := A4.out.atBox 3 rfl
    obtain ⟨c0, c1, c2⟩ := x.c3
    have f0 := x.frozen 0
    have f1 := x.frozen 1
    have f2 := x.frozen 2
    have A5 := hide (A4.out.store3G 3 rfl (.slice (some ⟨g3, 0, none⟩) m.length m.length) (.slice a4 rs.length k4) (.slice a1 (cntG m rs).length k1))
    clear x A4
    go_wp2
    exact bodyPost_ret (res_gr2 rfl _ _ w.heap.size _ _ _ (0, 0) rfl (A5.out.atBox 3 rfl)) rfl ⟨_, _, _, rfl, A5.out.graph2, A5.out.below⟩
end Go.Proofs.Ytakhggnbhjoojaa

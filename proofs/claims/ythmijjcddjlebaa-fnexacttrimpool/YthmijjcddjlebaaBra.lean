/-
  Branches as values (slices of a call of its own), and what the laws do with them: copy, measure, compare, mark, look for the marks. Each contract says what it asks.
-/
import Derived.Test.YthmijjcddjlebaaNdz
namespace Go.Proofs.Ythmijjcddjlebaa
open Go.RowKit
set_option linter.unusedVariables false


/-- Nodes of a call's own: the slice v, the values us of what they hold, the nodes xs; besides, rows es that hold qs and lie apart from them. -/
structure BrV (w : World) (lo hi : Nat) (v : Value) (es us : List Value) (qs : List (List Int)) (xs : List Nd) : Prop where
  head : w.ownsRow lo 104 2 v xs.length (ndC us xs)
  top : ∀ k, v.ownBlock = some k → k < hi
  lenE : es.length = qs.length
  rws : Rws w lo hi (es ++ us) (qs ++ xs.map Prod.fst)
section
variable {w w' : World} {lo hi : Nat} {v : Value} {es us : List Value} {qs : List (List Int)} {xs : List Nd}
theorem BrV.len (h : BrV w lo hi v es us qs xs) : us.length = xs.length := by
  have h1 := h.rws.len
  have h2 := h.lenE
  simp at h1
  omega
theorem BrV.chg {a b : Nat} (h : BrV w lo hi v es us qs xs) (hc : Chg a b w w') (hd : hi ≤ a ∨ b ≤ lo) : BrV w' lo hi v es us qs xs :=
  ⟨rowsChg h.head h.top hc hd, h.top, h.lenE, h.rws.chg hc hd⟩
theorem BrV.below (h : BrV w lo hi v es us qs xs) (hb : Below w.heap.size w w') : BrV w' lo hi v es us qs xs :=
  ⟨rowsBelow h.head hb, h.top, h.lenE, h.rws.below hb⟩
theorem BrV.wider {lo' hi' : Nat} (h : BrV w lo hi v es us qs xs) (h1 : lo' ≤ lo) (h2 : hi ≤ hi') : BrV w lo' hi' v es us qs xs :=
  ⟨rowsMono h.head h1, fun k hk => Nat.lt_of_lt_of_le (h.top k hk) h2, h.lenE, h.rws.wider h1 h2⟩
theorem BrV.nil (w : World) (lo hi : Nat) : BrV w lo hi nilRow [] [] [] [] := ⟨World.ownsRow_nil _ _ _ _, fun k hk => by simp [Value.ownBlock] at hk, rfl, Rws.nil _ _ _⟩
theorem BrV.row (h : BrV w lo hi v es us qs xs) (i : Nat) (hi' : i < xs.length) : Own w lo (us.getD i nilRow) (xs.getD i nd0).1 := by
  have := h.rws.row (qs.length + i) (by simp; omega)
  rwa [getD_app_right es us _ i _ h.lenE, getD_app_right qs _ _ i _ rfl, fst_getD] at this
theorem BrV.rowTop (h : BrV w lo hi v es us qs xs) (i : Nat) (hi' : i < xs.length) : ∀ b, (us.getD i nilRow).ownBlock = some b → b < hi := by
  intro b hb
  refine h.rws.tops (qs.length + i) b (by simp; omega) ?_
  rwa [getD_app_right es us _ i _ h.lenE]
theorem BrV.rowE (h : BrV w lo hi v es us qs xs) (i : Nat) (hi' : i < qs.length) : Own w lo (es.getD i nilRow) (qs.getD i []) := by
  have := h.rws.row i (by simp; omega)
  rwa [getD_app_left es us i _ (by rw [h.lenE]; exact hi'), getD_app_left qs _ i _ hi'] at this
theorem BrV.topE (h : BrV w lo hi v es us qs xs) (i : Nat) (hi' : i < qs.length) : ∀ b, (es.getD i nilRow).ownBlock = some b → b < hi := by
  intro b hb
  refine h.rws.tops i b (by simp; omega) ?_
  rwa [getD_app_left es us i _ (by rw [h.lenE]; exact hi')]
theorem BrV.rd (h : BrV w lo hi v es us qs xs) : RdN w v xs := by
  have hl := h.len
  rcases h.head.2 with ⟨rfl, hn⟩ | ⟨g, cap, cur, rfl, hb, hg, hc, hm, hs, ht⟩
  · have : xs = [] := List.eq_nil_of_length_eq_zero hn
    subst this
    exact ⟨none, 0, rfl, Nat.le_refl _, ⟨Nat.zero_le _, fun _ => rfl⟩, .inl rfl⟩
  · refine ⟨_, cap, rfl, hc, ⟨hm, fun h => by cases h⟩, .inr ⟨g, 0, rfl, (Array.getElem?_eq_some_iff.1 hg).1, fun i hi => ⟨us.getD i nilRow, (h.row i hi).rd, ?_, ?_⟩⟩⟩
    · rw [Nat.zero_add, World.ownsRow.cellAt h.head (i * 2) (by omega)]
      exact ndC_hold us xs i hl hi
    · rw [Nat.zero_add, World.ownsRow.cellAt h.head (i * 2 + 1) (by omega)]
      exact ndC_gone us xs i hl hi
theorem BrV.lenEq {g n cap : Nat} (h : BrV w lo hi (.slice (some ⟨g, 0, none⟩) n cap) es us qs xs) : n = xs.length := by
  rcases h.head.2 with ⟨h', _⟩ | ⟨g', cap', cur, h', _⟩
  · simp at h'
  · simp at h'; exact h'.2.1
/-- What a node's cells are, and that they may be written. -/
theorem BrV.cells {g n cap : Nat} (h : BrV w lo hi (.slice (some ⟨g, 0, none⟩) n cap) es us qs xs) (i : Nat) (hi' : i < xs.length) :
    w.cell? ⟨g, i * 2, none⟩ = some (us.getD i nilRow) ∧ w.cell? ⟨g, i * 2 + 1, none⟩ = some (.bool (xs.getD i nd0).2) ∧ w.frozen? ⟨g, i * 2, none⟩ = false ∧ w.frozen? ⟨g, i * 2 + 1, none⟩ = false := by
  obtain rfl := h.lenEq
  have hl := h.len
  refine ⟨?_, ?_, World.ownsRow.frozenAt h.head _, World.ownsRow.frozenAt h.head _⟩
  · rw [World.ownsRow.cellAt h.head (i * 2) (by omega)]; exact ndC_hold us xs i hl hi'
  · rw [World.ownsRow.cellAt h.head (i * 2 + 1) (by omega)]; exact ndC_gone us xs i hl hi'
theorem BrV.slice (h : BrV w lo hi v es us qs xs) : ∃ a cap, v = .slice a xs.length cap := by
  rcases h.head.2 with ⟨rfl, h0⟩ | ⟨g, cap, cur, rfl, hb, _⟩
  · exact ⟨none, 0, by rw [h0]⟩
  · exact ⟨_, cap, rfl⟩
theorem BrV.form (h : BrV w lo hi v es us qs xs) (h0 : 0 < xs.length) : ∃ g cap, v = .slice (some ⟨g, 0, none⟩) xs.length cap ∧ lo ≤ g ∧ g < hi ∧ g < w.heap.size ∧ xs.length ≤ cap ∧ cap ≤ maxLen := by
  rcases h.head.2 with ⟨_, h'⟩ | ⟨g, cap, cur, rfl, hb, hg, hc, hm, _⟩
  · omega
  · exact ⟨g, cap, rfl, hb, h.top g rfl, (Array.getElem?_eq_some_iff.1 hg).1, hc, hm⟩
/-- A row of integers is in no block of the nodes'. -/
theorem BrV.off {lo2 n : Nat} {u : Value} {ys : List Value} (h : BrV w lo hi v es us qs xs) (ho : w.ownsRow lo2 3 1 u n ys) : v.ownBlock = none ∨ v.ownBlock ≠ u.ownBlock := types_apart h.head ho (by decide)
theorem BrV.off' {lo2 n : Nat} {u : Value} {ys : List Value} (h : BrV w lo hi v es us qs xs) (ho : w.ownsRow lo2 3 1 u n ys) : u.ownBlock = none ∨ u.ownBlock ≠ v.ownBlock := types_apart ho h.head (by decide)
/-- What a node holds is written in its place. -/
theorem BrV.write {r : List Int} (h : BrV w lo hi v es us qs xs) (i : Nat) (hi' : i < xs.length) (ho : Own w' lo (us.getD i nilRow) r) (hg : w.grownBy w' (us.getD i nilRow).ownBlock) : BrV w' lo hi v es us qs (xs.set i (r, (xs.getD i nd0).2)) := by
  have e1 : (es ++ us).getD (qs.length + i) nilRow = us.getD i nilRow := getD_app_right es us _ i _ h.lenE
  refine ⟨?_, h.top, h.lenE, ?_⟩
  · rw [List.length_set, ← nd_same xs r hi']
    exact World.ownsRow.kept h.head hg (h.off (h.row i hi'))
  · rw [← nd_set, ← set_app_right qs _ _ i _ rfl]
    exact h.rws.write (qs.length + i) (by simp; omega) (by rw [e1]; exact ho) (by rw [e1]; exact hg)
theorem BrV.writeChg (h : BrV w lo hi v es us qs xs) (i : Nat) (hi' : i < xs.length) (hg : w.grownBy w' (us.getD i nilRow).ownBlock) : Chg lo hi w w' :=
  Chg.ofGrown hg (fun k hk => ⟨(World.ownsRow.lt (h.row i hi') k hk).1, h.rowTop i hi' k hk⟩)
/-- A row besides is written in its place. -/
theorem BrV.writeE {r : List Int} (h : BrV w lo hi v es us qs xs) (i : Nat) (hi' : i < qs.length) (ho : Own w' lo (es.getD i nilRow) r) (hg : w.grownBy w' (es.getD i nilRow).ownBlock) : BrV w' lo hi v es us (qs.set i r) xs := by
  have e1 : (es ++ us).getD i nilRow = es.getD i nilRow := getD_app_left es us i _ (by rw [h.lenE]; exact hi')
  refine ⟨World.ownsRow.kept h.head hg (h.off (h.rowE i hi')), h.top, by rw [List.length_set]; exact h.lenE, ?_⟩
  rw [← set_app_left qs _ i _ hi']
  exact h.rws.write i (by simp; omega) (by rw [e1]; exact ho) (by rw [e1]; exact hg)
theorem BrV.writeEChg (h : BrV w lo hi v es us qs xs) (i : Nat) (hi' : i < qs.length) (hg : w.grownBy w' (es.getD i nilRow).ownBlock) : Chg lo hi w w' :=
  Chg.ofGrown hg (fun k hk => ⟨(World.ownsRow.lt (h.rowE i hi') k hk).1, h.topE i hi' k hk⟩)
/-- Whether a node is Gone is written. -/
theorem BrV.setGone {g n cap : Nat} (h : BrV w lo hi (.slice (some ⟨g, 0, none⟩) n cap) es us qs xs) (i : Nat) (hi' : i < xs.length) (z : Bool) :
    BrV (w.setCell ⟨g, i * 2 + 1, none⟩ (.bool z)) lo hi (.slice (some ⟨g, 0, none⟩) n cap) es us qs (xs.set i ((xs.getD i nd0).1, z)) := by
  obtain rfl := h.lenEq
  have st := World.ownsRow.stored h.head (i * 2 + 1) (.bool z)
  refine ⟨?_, h.top, h.lenE, ?_⟩
  · have e := ndC_setGone us xs i ((xs.getD i nd0).1, z) h.len hi'
    rw [List.length_set, ← e]
    exact st.1
  · have e2 : (xs.set i ((xs.getD i nd0).1, z)).map Prod.fst = xs.map Prod.fst := by
      rw [List.map_set]
      refine List.ext_getElem? fun j => ?_
      rw [List.getElem?_set]
      by_cases e : i = j
      · subst e
        simp [hi']
      · rw [if_neg e]
    rw [e2]
    refine h.rws.kept st.2 fun j hj => ?_
    have := h.off' (h.rws.row j hj)
    exact this
theorem BrV.setChg {g n cap j : Nat} (h : BrV w lo hi (.slice (some ⟨g, 0, none⟩) n cap) es us qs xs) (u : Value) : Chg lo hi w (w.setCell ⟨g, j, none⟩ u) :=
  Chg.ofSetCell w g j u (World.ownsRow.lt h.head g rfl).1 (h.top g rfl)
/-- Another value stands for what a node holds: it lies in a new block, or where the row lay. -/
theorem BrV.setHold {g n cap hi2 : Nat} {u : Value} {r : List Int} (h : BrV w lo hi (.slice (some ⟨g, 0, none⟩) n cap) es us qs xs) (i : Nat) (hi' : i < xs.length) (ho : Own w lo u r) (hh : hi ≤ hi2) (hu : ∀ b, u.ownBlock = some b → b < hi2 ∧ (hi ≤ b ∨ (us.getD i nilRow).ownBlock = some b)) :
    BrV (w.setCell ⟨g, i * 2, none⟩ u) lo hi2 (.slice (some ⟨g, 0, none⟩) n cap) es (us.set i u) qs (xs.set i (r, (xs.getD i nd0).2)) := by
  obtain rfl := h.lenEq
  have st := World.ownsRow.stored h.head (i * 2) u
  refine ⟨?_, fun k hk => Nat.lt_of_lt_of_le (h.top k hk) hh, h.lenE, ?_⟩
  · have e := ndC_setHold us xs i u (r, (xs.getD i nd0).2) rfl h.len hi'
    rw [List.length_set, ← e]
    exact st.1
  · rw [← nd_set, ← set_app_right qs _ _ i _ rfl, ← set_app_right es us _ i _ h.lenE]
    have P := h.rws.put (hi2 := hi2) (u := u) (r := r) (qs.length + i) (by simp; omega) ho hh (by rw [getD_app_right es us _ i _ h.lenE]; exact hu)
    refine P.kept st.2 fun j hj => ?_
    exact h.off' (P.row j hj)
/-- A node behind the others. -/
theorem BrV.push {v' u : Value} {x : Nd} {hi2 : Nat} (h : BrV w lo hi v es us qs xs) (ho : Own w lo u x.1) (hh : hi ≤ hi2) (hu : ∀ b, u.ownBlock = some b → b < hi2 ∧ hi ≤ b)
    (hn : w'.ownsRow lo 104 2 v' (xs.length + 1) (ndC us xs ++ [u, .bool x.2])) (hg : w.grownBy w' v.ownBlock) (hv : ∀ k, v'.ownBlock = some k → k < hi2) : BrV w' lo hi2 v' es (us ++ [u]) qs (xs ++ [x]) := by
  refine ⟨?_, hv, h.lenE, ?_⟩
  · rw [ndC_push us xs u x h.len] at hn
    rw [List.length_append]
    exact hn
  · rw [List.map_append, ← List.append_assoc, ← List.append_assoc]
    have P := h.rws.push (hi2 := hi2) (u := u) (r := x.1) ho hh hu
    exact P.kept hg fun j hj => h.off' (P.row j hj)
/-- A row more besides. -/
theorem BrV.addE {u : Value} {r : List Int} {hi2 : Nat} (h : BrV w lo hi v es us qs xs) (ho : Own w lo u r) (hh : hi ≤ hi2) (hu : ∀ b, u.ownBlock = some b → b < hi2 ∧ hi ≤ b) : BrV w lo hi2 v (u :: es) us (r :: qs) xs :=
  ⟨h.head, fun k hk => Nat.lt_of_lt_of_le (h.top k hk) hh, by simp [h.lenE], h.rws.cons ho hh hu⟩
theorem BrV.addAny {u : Value} {r : List Int} {hi2 : Nat} (h : BrV w lo hi v es us qs xs) (ho : Own w lo u r) (hh : hi ≤ hi2) (hu : ∀ b, u.ownBlock = some b → b < hi2) (hne : ∀ b, u.ownBlock = some b → (∀ i, i < qs.length → (es.getD i nilRow).ownBlock ≠ some b) ∧ ∀ i, i < xs.length → (us.getD i nilRow).ownBlock ≠ some b) : BrV w lo hi2 v (u :: es) us (r :: qs) xs := by
  refine ⟨h.head, fun k hk => Nat.lt_of_lt_of_le (h.top k hk) hh, by simp [h.lenE], h.rws.consAny ho hh hu fun i b hi hb e => ?_⟩
  by_cases hq : i < qs.length
  · rw [getD_app_left es us i _ (by rw [h.lenE]; exact hq)] at hb
    exact (hne b e).1 i hq hb
  · obtain ⟨j, rfl⟩ : ∃ j, i = qs.length + j := ⟨i - qs.length, by omega⟩
    rw [getD_app_right es us _ j _ h.lenE] at hb
    exact (hne b e).2 j (by simp at hi; omega) hb
/-- Another value stands for a row besides: it lies in a new block, or where the row lay. -/
theorem BrV.putE {u : Value} {r : List Int} {hi2 : Nat} (h : BrV w lo hi v es us qs xs) (i : Nat) (hi' : i < qs.length) (ho : Own w lo u r) (hh : hi ≤ hi2) (hu : ∀ b, u.ownBlock = some b → b < hi2 ∧ (hi ≤ b ∨ (es.getD i nilRow).ownBlock = some b)) : BrV w lo hi2 v (es.set i u) us (qs.set i r) xs := by
  refine ⟨h.head, fun k hk => Nat.lt_of_lt_of_le (h.top k hk) hh, by simp [h.lenE], ?_⟩
  rw [← set_app_left qs _ i _ hi', ← set_app_left es _ i _ (by rw [h.lenE]; exact hi')]
  exact h.rws.put i (by simp; omega) ho hh (by rw [getD_app_left es us i _ (by rw [h.lenE]; exact hi')]; exact hu)
theorem BrV.tailE {u : Value} {r : List Int} (h : BrV w lo hi v (u :: es) us (r :: qs) xs) : BrV w lo hi v es us qs xs :=
  ⟨h.head, h.top, by simpa using h.lenE, h.rws.tail⟩
end
/-- Nodes of the call's own, as a thing to hold. -/
def TBrs (v : Value) (xs : List Nd) : Tg := fun lo hi w => ∃ us, BrV w lo hi v [] us [] xs
theorem TBrs.st (v : Value) (xs : List Nd) : (TBrs v xs).st := fun lo hi a b w w' ⟨us, h⟩ hc hd => ⟨us, h.chg hc hd⟩
theorem infoNdB : (Try.prog.info? 104).map (fun i => (i.zero, i.size, i.bytes)) = some (some (.agg #[.slice none 0 0, .bool false]), 2, 32) := by kernel_rfl
theorem ndInfoB : (Try.prog.info? 104).map (·.size) = some 2 := by kernel_rfl
theorem res_ndB {fn : Func} {x : Tmp} (hf : fn.results = #[.cell x 104]) (tmps : Array Value) (w : World) (g : Nat) (a b : Value) (fr : Nat × Nat) (hp : tmps.getD x undef = .pointer (some ⟨g, 0, none⟩))
    (hg : w.heap[g]? = some (.cells #[a, b] 104 fr)) : (results fn tmps).run Try.prog w = .ok (.agg #[a, b]) w :=
  results_cell_row hf tmps w g _ _ fr _ hp hg Try.underlying104 rfl ndInfoB
set_option linter.unusedSimpArgs false in
set_option maxRecDepth 100000 in
set_option maxHeartbeats 1600000 in
theorem toBranch_calls (v : Value) (ks : List Int) (z : Bool) (w : World) (h : Rd w v ks) (hkl : ks.length ≤ 1048576) :
    Calls Try.prog 132 #[.agg #[v, .bool z]] w fun e w' => ∃ v', e = .returned (.agg #[v', .bool z]) ∧ Own w' w.heap.size v' ks ∧ Below w.heap.size w w' := by
  have A0 := hide (Hand.threeN w #[v, .bool z] #[.slice none 0 0, .bool false] #[.slice none 0 0, .bool false] 147 104 104)
  have RV := hide h
  clear h
  go_enter Try.func132, Try.ntmps132
  go_wp2_with fail
  refine (toIntS_calls _ ks _ (RV.out.below A0.out.below) hkl).mono ?_
  rintro e w1 ⟨v', rfl, o, q⟩
  obtain ⟨a1, k1, rfl⟩ := row_slice o
  have A1 := hide (A0.out.add q (TInts.st _ _) ⟨o, row_top o⟩)
  clear o q A0
  have xl := A1.out.atBox 1 rfl
  have xr := A1.out.atBox 2 rfl
  have xa := A1.out.atBox 3 rfl
  obtain ⟨c0, c1⟩ := xl.c2
  obtain ⟨d0, d1⟩ := xr.c2
  obtain ⟨e0, e1⟩ := xa.c2
  have f0 := xl.frozen 0
  have f1 := xl.frozen 1
  have g0 := xr.frozen 0
  have g1 := xr.frozen 1
  have A2 := hide (A1.out.store2 1 rfl (.slice a1 ks.length k1) (.bool z))
  have A3 := hide (A2.out.store2 2 rfl (.slice a1 ks.length k1) (.bool z))
  clear xl xr xa A1 A2
  go_wp2
  exact bodyPost_ret (res_ndB rfl _ _ (w.heap.size + 1) _ _ (0, 0) rfl (A3.out.atBox 2 rfl)) rfl ⟨_, rfl, A3.out.wideI 0 rfl, A3.out.below⟩

set_option maxRecDepth 100000 in
set_option maxHeartbeats 800000 in
theorem szBranch_is (v : Value) (ks : List Int) (z : Bool) (l : Int) (w : World) (h : Rd w v ks) (h0 : 0 ≤ l) (hl : l ≤ 1048576) :
    Calls Try.prog 131 #[.agg #[v, .bool z], .int .i64 l] w fun e w' => e = .returned (.int .i64 (if (ks.length : Int) ≤ l then l - ks.length else -1)) ∧ Below w.heap.size w w' := by
  have b0 := below_box w (.cells #[v, .bool z] 147)
  have RV := hide (h.below b0)
  have B0 := hide b0
  clear b0 h
  by_cases hd : (ks.length : Int) ≤ l
  · rw [if_pos hd]
    have e2 : ¬ (l - (ks.length : Int) < 0) := by omega
    go_enter Try.func131, Try.ntmps131
    go_wp2_with (go_at_call 80; refine (szIntS_is _ ks _ _ RV.out (by omega) (by omega)).mono ?_; rw [if_pos hd]; rintro e w' ⟨rfl, rfl⟩)
    go_ret
    exact ⟨rfl, B0.out⟩
  · rw [if_neg hd]
    go_enter Try.func131, Try.ntmps131
    go_wp2_with (go_at_call 80; refine (szIntS_is _ ks _ _ RV.out (by omega) (by omega)).mono ?_; rw [if_neg hd]; rintro e w' ⟨rfl, rfl⟩)
    go_ret
    exact ⟨rfl, B0.out⟩

set_option maxRecDepth 100000 in
set_option maxHeartbeats 1600000 in
theorem szBranchS_calls (v : Value) (m : List Nd) (w : World) (h : RdN w v m) :
    Calls Try.prog 79 #[v, .int .i64 1048576] w fun e w' => (∃ r : Int, e = .returned (.int .i64 r) ∧ (r < 0 ∨ (0 ≤ r ∧ r ≤ 1048576 ∧ m.length + totN m ≤ 1048576))) ∧ Below w.heap.size w w' := by
  have R := hide h
  obtain ⟨a, cap, rfl, h1, h2, h3⟩ := h
  have hm : m.length ≤ maxLen := by omega
  unfold maxLen at hm
  clear h3 h2 h1
  by_cases hc : (m.length : Int) ≤ 1048576
  case neg =>
    have e : (1048576 : Int) - (m.length : Int) < 0 := by omega
    go_enter Try.func79, Try.ntmps79
    go_wp2
    go_ret
    exact ⟨⟨_, rfl, .inl (by decide)⟩, Below.refl _ _⟩
  have e : ¬ ((1048576 : Int) - (m.length : Int) < 0) := by omega
  go_enter Try.func79, Try.ntmps79
  go_wp2
  go_loopw [1, 5] (fun vl vi wr => ∃ (k t : Nat), k ≤ m.length ∧ vi = .int .i64 k ∧ t = totN (m.take k) ∧ (m.length : Int) + t ≤ 1048576 ∧ vl = .int .i64 (1048576 - m.length - t) ∧ Below w.heap.size w wr) (fun _ vi _ => m.length - (intOf vi).toNat)
  case atStart => exact ⟨0, 0, Nat.zero_le _, rfl, by simp [totN], by omega, by go_num, Below.refl _ _⟩
  case round =>
    obtain ⟨k, t, hk, rfl, ht, htl, rfl, hb⟩ := hrel
    have Ht := hide ht
    have HB := hide hb
    clear ht hb
    by_cases hlt : k < m.length
    · obtain ⟨b, off, u, ks, z, rfl, hs, hu, c0, c1⟩ := (R.out.below HB.out).at k hlt
      have U := hide hu
      have hs1 := totN_take_succ m k hlt
      have hs2 := totN_row_le m k hlt
      rw [hs, ← Ht.out] at hs1 hs2
      have Hs := hide hs1
      have Hs2 := hide hs2
      have HS := hide hs
      clear hs1 hs2 hu hs
      have hlt' : (k : Int) < (m.length : Int) := by omega
      by_cases hf : (ks.length : Int) ≤ 1048576 - (m.length : Int) - (t : Int)
      · have e2 : ¬ ((1048576 : Int) - (m.length : Int) - (t : Int) - (ks.length : Int) < 0) := by omega
        go_wp2_with (go_at_call 131; refine (szBranch_is _ ks z _ _ U.out (by omega) (by omega)).mono ?_; rw [if_pos hf]; rintro e w' ⟨rfl, q⟩; have HB2 := hide (HB.out.trans (q.mono HB.out.size)); clear q)
        exact ⟨⟨k + 1, t + ks.length, by omega, by go_num, Hs.out.symm, by omega, by go_num, HB2.out⟩, by simp [intOf]; omega⟩
      · go_wp2_with (go_at_call 131; refine (szBranch_is _ ks z _ _ U.out (by omega) (by omega)).mono ?_; rw [if_neg hf]; rintro e w' ⟨rfl, q⟩; have HB2 := hide (HB.out.trans (q.mono HB.out.size)); clear q)
        go_ret
        exact ⟨⟨_, rfl, .inl (by decide)⟩, HB2.out⟩
    · obtain rfl : k = m.length := by omega
      have h1 := Ht.out
      rw [List.take_length] at h1
      have H1 : Hid (m.length + totN m ≤ 1048576) := by show _ ≤ _; omega
      have H2 : Hid (0 ≤ (1048576 : Int) - m.length - t ∧ (1048576 : Int) - m.length - t ≤ 1048576) := by show _ ∧ _; omega
      clear h1 htl
      go_wp2
      go_ret
      exact ⟨⟨_, rfl, .inr ⟨H2.out.1, H2.out.2, H1.out⟩⟩, HB.out⟩

set_option maxRecDepth 100000 in
set_option maxHeartbeats 800000 in
theorem eqBranch_same (v v' : Value) (ks : List Int) (z : Bool) (w : World) (h : Rd w v ks) (h' : Rd w v' ks) :
    Calls Try.prog 130 #[.agg #[v, .bool z], .agg #[v', .bool z]] w fun e w' => e = .returned (.bool true) ∧ Below w.heap.size w w' := by
  have b0 := (below_box w (.cells #[v, .bool z] 104)).trans ((below_box (w.alloc (.cells #[v, .bool z] 104)) (.cells #[v', .bool z] 104)).mono (by simp))
  have R1 := hide (h.below b0)
  have R2 := hide (h'.below b0)
  have B0 := hide b0
  have X1 : Hid (BoxAt ((w.alloc (.cells #[v, .bool z] 104)).alloc (.cells #[v', .bool z] 104)) w.heap.size #[v, .bool z] 104) := BoxAt.below (BoxAt.new w _ _) (below_box _ _)
  have X2 : Hid (BoxAt ((w.alloc (.cells #[v, .bool z] 104)).alloc (.cells #[v', .bool z] 104)) (w.heap.size + 1) #[v', .bool z] 104) := by
    have := BoxAt.new (w.alloc (.cells #[v, .bool z] 104)) #[v', .bool z] 104
    rwa [World.size_alloc] at this
  clear h h' b0
  go_enter Try.func130, Try.ntmps130
  go_wp2_with fail
  refine (eqIntS_same _ _ ks _ R1.out R2.out).mono ?_
  rintro e w1 ⟨rfl, b1⟩
  obtain ⟨c0, c1⟩ := (X1.out.below b1).c2
  obtain ⟨d0, d1⟩ := (X2.out.below b1).c2
  have B1 := hide (B0.out.trans (b1.mono B0.out.size))
  clear b1 B0
  go_wp2
  go_ret
  exact ⟨rfl, B1.out⟩

/-- 'make([]Node, n)'. -/
theorem wpList_make_ndsB {w : World} {ops : Array Oper} {rest : List Oper} {o : Oper} {a : Act} {Q : Exit → Act → World → Prop} (hg : o.guard = none) (l c : Operand) (hop : o.op = Op.makeSlice 40 l c)
    (L C : Int) (n : Nat) (hl : a.eval l = .int .i64 L) (hc : a.eval c = .int .i64 C) (hL : L = (n : Int)) (hC : C = (n : Int)) (hn : n ≤ 1048576)
    (h : ∀ w', BrV w' w.heap.size w'.heap.size (.slice (some ⟨w.heap.size, 0, none⟩) n n) [] (List.replicate n nilRow) [] (List.replicate n nd0) → w.grownBy w' none → wpList Try.prog ops Q rest (a.put o.dst (.slice (some ⟨w.heap.size, 0, none⟩) n n)) w') : wpList Try.prog ops Q (o :: rest) a w := by
  obtain ⟨i0, hi, hz0, hz1, hz2⟩ := info_parts infoNdB
  refine wpList_make_full w hg l c _ hop w.heap.size 104 i0 (.agg #[.slice none 0 0, .bool false]) 2 Try.underlying40 hi hz0 hz1 _ _ L C n hl hc hL hC (by rw [hz2]; omega) (by unfold maxLen; omega) (Nat.le_refl _) ?_
  intro w' ho hg'
  have e : (madeCells (Value.agg #[.slice none 0 0, .bool false]).cells (n * 2)).toList = ndC (List.replicate n nilRow) (List.replicate n nd0) := by
    refine List.ext_getElem? fun j => ?_
    have hlen := ndC_len (List.replicate n nilRow) (List.replicate n nd0) (by simp)
    rw [List.length_replicate] at hlen
    by_cases hj : j < n * 2
    · have e2 : (Value.agg #[.slice none 0 0, .bool false]).cells.size = 2 := rfl
      rw [Array.getElem?_toList]
      simp only [madeCells, Array.getElem?_map, e2, Array.getElem?_range, if_pos hj, Option.map_some]
      rcases Nat.mod_two_eq_zero_or_one j with h0 | h0
      · obtain ⟨i, rfl⟩ : ∃ i, j = i * 2 := ⟨j / 2, by omega⟩
        rw [ndC_hold _ _ i (by simp) (by simp; omega), h0]
        simp [List.getD_eq_getElem?_getD, show i < n from by omega]
        rfl
      · obtain ⟨i, rfl⟩ : ∃ i, j = i * 2 + 1 := ⟨j / 2, by omega⟩
        rw [ndC_gone _ _ i (by simp) (by simp; omega), h0]
        simp [List.getD_eq_getElem?_getD, show i < n from by omega]
        rfl
    · rw [List.getElem?_eq_none (by simp [madeCells]; omega), List.getElem?_eq_none (by omega)]
  rw [e] at ho
  have gr : ∀ i, (List.replicate n nilRow).getD i nilRow = nilRow := fun i => by
    simp only [List.getD_eq_getElem?_getD, List.getElem?_replicate]
    split <;> rfl
  refine h w' ⟨by rw [List.length_replicate]; exact ho, fun k hk => (World.ownsRow.lt ho k hk).2, rfl, ⟨by simp, fun i hi => ?_, fun i b hi hb => ?_, fun i j hi hj _ => ?_⟩⟩ hg'
  · have g2 : (([] : List (List Int)) ++ (List.replicate n nd0).map Prod.fst).getD i [] = [] := by
      simp only [List.nil_append, List.map_replicate, List.getD_eq_getElem?_getD, List.getElem?_replicate]
      split <;> rfl
    rw [g2]
    show Own w' _ ((List.replicate n nilRow).getD i nilRow) []
    rw [gr]
    exact World.ownsRow_nil _ _ _ _
  · have : ((List.replicate n nilRow).getD i nilRow).ownBlock = some b := hb
    rw [gr] at this
    simp [Value.ownBlock] at this
  · refine .inl ?_
    show ((List.replicate n nilRow).getD i nilRow).ownBlock = none
    rw [gr]
    rfl

/-- Two cells of a node are written: what it holds (in a new block), and whether it is Gone. -/
theorem BrV.setBoth {w : World} {lo hi g n cap x hi2 : Nat} {es us : List Value} {qs : List (List Int)} {xs : List Nd} {u : Value} {r : List Int} {z : Bool} (h : BrV w lo hi (.slice (some ⟨g, 0, none⟩) n cap) es us qs xs) (i : Nat) (hi' : i < xs.length) (ho : Own w x u r) (hx : hi ≤ x) (hlx : lo ≤ x) (hh : hi ≤ hi2) (hb : ∀ b, u.ownBlock = some b → b < hi2) :
    BrV ((w.setCell ⟨g, i * 2, none⟩ u).setCell ⟨g, i * 2 + 1, none⟩ (.bool z)) lo hi2 (.slice (some ⟨g, 0, none⟩) n cap) es (us.set i u) qs (xs.set i (r, z)) := by
  have h1 := h.setHold (hi2 := hi2) (u := u) (r := r) i hi' (Own.mono ho hlx) hh (fun b hb' => ⟨hb b hb', .inl (Nat.le_trans hx (World.ownsRow.lt ho b hb').1)⟩)
  have h2 := h1.setGone i (by simpa using hi') z
  rwa [List.set_set, getD_set _ _ _ _ _ hi', if_pos rfl] at h2

set_option linter.unusedSimpArgs false in
set_option maxRecDepth 100000 in
set_option maxHeartbeats 1600000 in
theorem toBranchS_calls (v : Value) (m : List Nd) (w : World) (h : RdN w v m) (hn : m.length + totN m ≤ 1048576) :
    Calls Try.prog 82 #[v] w fun e w' => ∃ g, e = .returned (.slice (some ⟨g, 0, none⟩) m.length m.length) ∧ TBrs (.slice (some ⟨g, 0, none⟩) m.length m.length) m w.heap.size w'.heap.size w' ∧ Below w.heap.size w w' := by
  have R := hide h
  obtain ⟨a, cap, rfl, h1, h2, h3⟩ := h
  clear h3 h2 h1
  have hn1 : m.length ≤ 1048576 := by omega
  have Hn := hide hn
  clear hn
  go_enter Try.func82, Try.ntmps82
  go_wp2_with (at_make; refine wpList_make_ndsB rfl _ _ rfl _ _ m.length rfl rfl (by omega) (by omega) hn1 ?_)
  intro w0 hm0 hg0
  have M0 := hide hm0
  have G0 := hide hg0
  clear hm0 hg0
  go_wp2
  go_loopw [4] (fun vi wr => ∃ (k : Nat) (us : List Value), k ≤ m.length ∧ vi = .int .i64 k ∧ BrV wr w.heap.size wr.heap.size (.slice (some ⟨w.heap.size, 0, none⟩) m.length m.length) [] us [] (cpN m k) ∧ Below w.heap.size w wr) (fun vi _ => m.length - (intOf vi).toNat)
  case atStart => exact ⟨0, _, Nat.zero_le _, rfl, by rw [cpN_zero]; exact M0.out, (Below.refl _ _).grown G0.out (Nat.le_refl _) (fun k h => by cases h)⟩
  case round =>
    obtain ⟨k, us, hk, rfl, hm, hb⟩ := hrel
    have M := hide hm
    have B := hide hb
    clear hm hb M0 G0
    by_cases hlt : k < m.length
    · obtain ⟨b, off, u, ks, z, rfl, hx, hu, c0, c1⟩ := (R.out.below B.out).at k hlt
      have U := hide hu
      have HX := hide hx
      have hks : ks.length ≤ 1048576 := by
        have hr := totN_row_le m k hlt
        rw [hx] at hr
        have := Hn.out
        simp only at hr
        omega
      clear hu hx
      have hlt' : (k : Int) < (m.length : Int) := by omega
      obtain ⟨ua, uc, rfl, _, _⟩ := U.out.slc
      go_wp2_with fail
      refine (toBranch_calls _ ks z _ U.out hks).mono ?_
      rintro e w1 ⟨x, rfl, hx, hb1⟩
      obtain ⟨xa, xc, rfl⟩ := row_slice hx
      have M1 := hide (M.out.below hb1)
      obtain ⟨d0, d1, f0, f1⟩ := M1.out.cells k (by rw [cpN_len m k hk]; exact hlt)
      have P := M1.out.setBoth (z := z) (hi2 := w1.heap.size) k (by rw [cpN_len m k hk]; exact hlt) hx (Nat.le_refl _) B.out.size hb1.size (row_top hx)
      have e1 : (cpN m k).set k (ks, z) = cpN m (k + 1) := by rw [← HX.out]; exact cpN_step m k hlt
      rw [e1] at P
      have Q4 := hide P
      have B1 := hide hb1
      clear hb1 hx P e1 M1 M
      go_wp2
      go_roundw
      case rel =>
        refine ⟨k + 1, us.set k (.slice xa ks.length xc), by omega, by go_num, ?_, ?_⟩
        · simpa using Q4.out
        · exact (((B.out.trans (B1.out.mono B.out.size)).setCell (Nat.le_refl _) _).setCell (Nat.le_refl _) _)
      case measure => simp [intOf]; omega
    · obtain rfl : k = m.length := by omega
      go_wp2
      go_ret
      refine ⟨_, rfl, ⟨us, ?_⟩, B.out⟩
      have := M.out
      rwa [cpN_end] at this

set_option maxRecDepth 100000 in
set_option maxHeartbeats 1600000 in
theorem eqBranchS_same (v1 v2 : Value) (m : List Nd) (w : World) (h1 : RdN w v1 m) (h2 : RdN w v2 m) :
    Calls Try.prog 76 #[v1, v2] w fun e w' => e = .returned (.bool true) ∧ Below w.heap.size w w' := by
  have R1 := hide h1
  have R2 := hide h2
  obtain ⟨a1, k1, rfl, _, m1, _⟩ := h1
  obtain ⟨a2, k2, rfl, _, _, _⟩ := h2
  have hm : m.length ≤ maxLen := by omega
  unfold maxLen at hm
  clear m1
  go_enter Try.func76, Try.ntmps76
  go_wp2
  go_loopw [5] (fun vi wr => ∃ (k : Nat), k ≤ m.length ∧ vi = .int .i64 k ∧ Below w.heap.size w wr) (fun vi _ => m.length - (intOf vi).toNat)
  case atStart => exact ⟨0, Nat.zero_le _, rfl, Below.refl _ _⟩
  case round =>
    obtain ⟨k, hk, rfl, hb⟩ := hrel
    have B := hide hb
    clear hb
    by_cases hlt : k < m.length
    · obtain ⟨b, off, u, ks, z, rfl, hx, hu, c0, c1⟩ := (R1.out.below B.out).at k hlt
      obtain ⟨b', off', u', ks', z', rfl, hx', hu', d0, d1⟩ := (R2.out.below B.out).at k hlt
      rw [hx] at hx'
      obtain ⟨rfl, rfl⟩ : ks = ks' ∧ z = z' := by simpa using hx'
      have U := hide hu
      have U' := hide hu'
      have hlt' : (k : Int) < (m.length : Int) := by omega
      obtain ⟨ua, uc, rfl, _, _⟩ := U.out.slc
      obtain ⟨ua', uc', rfl, _, _⟩ := U'.out.slc
      have F : Hid (∀ w', Below wr.heap.size wr w' → (w'.cell? ⟨b, off + k * 2, none⟩ = some (.slice ua ks.length uc) ∧ w'.cell? ⟨b, off + k * 2 + 1, none⟩ = some (.bool z)) ∧ (w'.cell? ⟨b', off' + k * 2, none⟩ = some (.slice ua' ks.length uc') ∧ w'.cell? ⟨b', off' + k * 2 + 1, none⟩ = some (.bool z))) := by
        intro w' hb
        have hc : ∀ (b p : Nat) (x : Value), wr.cell? ⟨b, p, none⟩ = some x → w'.cell? ⟨b, p, none⟩ = some x := fun b p x hx => by
          have hlt : b < wr.heap.size := by
            unfold World.cell? at hx
            cases hh : wr.heap[b]? with
            | none => simp [hh] at hx
            | some o => exact (Array.getElem?_eq_some_iff.1 hh).1
          rw [hb.cell hlt]; exact hx
        exact ⟨⟨hc _ _ _ c0, hc _ _ _ c1⟩, hc _ _ _ d0, hc _ _ _ d1⟩
      clear hx hx' hu hu' c0 c1 d0 d1
      go_wp2
      go_region_held3 (fun w' => (w'.cell? ⟨b, off + k * 2, none⟩ = some (.slice ua ks.length uc) ∧ w'.cell? ⟨b, off + k * 2 + 1, none⟩ = some (.bool z)) ∧ (w'.cell? ⟨b', off' + k * 2, none⟩ = some (.slice ua' ks.length uc') ∧ w'.cell? ⟨b', off' + k * 2 + 1, none⟩ = some (.bool z))) (first | exact F.out _ (Below.refl _ _).drew | exact F.out _ B1.out)
        ((go_at_call 130; refine (eqBranch_same _ _ ks z _ (U.out.below (Below.refl _ _).drew) (U'.out.below (Below.refl _ _).drew)).mono ?_; rintro e' wr7 ⟨rfl, b7⟩; have B1 := hide ((Below.refl wr.heap.size wr).drew.trans b7); clear b7))
      go_wp2
      go_roundw
      case rel => exact ⟨k + 1, by omega, by go_num, B.out.trans (B1.out.mono B.out.size)⟩
      case measure => simp [intOf]; omega
    · obtain rfl : k = m.length := by omega
      go_wp2
      go_ret
      exact ⟨rfl, B.out⟩

set_option linter.unusedSimpArgs false in
set_option maxRecDepth 100000 in
set_option maxHeartbeats 1600000 in
theorem markBranchS_calls (v : Value) (k0 : Nat) (m : List Nd) (es us : List Value) (qs : List (List Int)) (lo hi : Nat) (w : World) (h : BrV w lo hi v es us qs m) (hz : m.length + totN m ≤ 1048576) (hk : k0 ≤ 1099511627) :
    Calls Try.prog 77 #[v, .int .i64 k0] w fun e w' => e = .returned (.int .i64 (enN k0 m : Nat)) ∧ BrV w' lo hi v es us qs (mkN k0 m) ∧ Chg lo hi w w' := by
  by_cases h0 : m = []
  · subst h0
    have H := hide h
    obtain ⟨a, cap, rfl⟩ := h.slice
    clear h
    go_enter Try.func77, Try.ntmps77
    go_wp2
    refine wp_loop_rounds 1 ?_
    rw [rounds_succ]
    go_wp2
    go_ret
    exact ⟨by simp [enN, totN], H.out, Chg.refl _ _ _⟩
  have hpos : 0 < m.length := by
    rcases Nat.eq_zero_or_pos m.length with h1 | h1
    · exact absurd (List.eq_nil_of_length_eq_zero h1) h0
    · exact h1
  obtain ⟨g, cap, rfl, hlg, hgh, hgs, hnc, hcm⟩ := h.form hpos
  have H := hide h
  have HZ := hide hz
  have hn1 : m.length ≤ 1048576 := by omega
  have htot : totN m ≤ 1048576 := by omega
  clear h hz h0
  go_enter Try.func77, Try.ntmps77
  go_wp2
  go_loopw [1, 5] (fun vk vi wr => ∃ (i k : Nat), i ≤ m.length ∧ vi = .int .i64 i ∧ vk = .int .i64 k ∧ k = enN k0 (m.take i) ∧ BrV wr lo hi (.slice (some ⟨g, 0, none⟩) m.length cap) es us qs (mkNTo k0 m i) ∧ Chg lo hi w wr) (fun _ vi _ => m.length - (intOf vi).toNat)
  case atStart => exact ⟨0, k0, Nat.zero_le _, rfl, rfl, by simp [enN, totN], by simpa [mkNTo, mkN] using H.out, Chg.refl _ _ _⟩
  case round =>
    obtain ⟨i, k, hi', rfl, rfl, hkk, hm, hc⟩ := hrel
    have M := hide hm
    have C := hide hc
    have KK := hide hkk
    have kb : k ≤ 1102000000 := by
      have := enN_le k0 m i
      omega
    clear hm hc hkk H
    by_cases hlt : i < m.length
    · have hlt' : (i : Int) < (m.length : Int) := by omega
      have hlen := hide (mkNTo_len k0 m i hi')
      obtain ⟨d0, d1, f0, f1⟩ := M.out.cells i (by rw [hlen.out]; exact hlt)
      have hrow := M.out.row i (by rw [hlen.out]; exact hlt)
      rw [mkNTo_get k0 m i hlt] at hrow d1
      have hl : (m.getD i nd0).1.length ≤ 1048576 := by
        have := totN_row_le m i hlt
        omega
      obtain ⟨xs, hxs⟩ : ∃ xs, xs = (m.getD i nd0).1 := ⟨_, rfl⟩
      have HX := hide hxs
      rw [← hxs] at hrow hl
      have RW := hide hrow
      obtain ⟨ua, uc, hua⟩ := row_slice hrow
      have UA := hide hua
      rw [hua] at d0
      clear hrow hxs hua
      go_wp2_with fail
      have hc1 : Calls Try.prog 44 #[us.getD i nilRow, .int .i64 k] wr fun e w' => e = .returned (.int .i64 ((k : Int) + xs.length)) ∧ Own w' lo (us.getD i nilRow) (marks k xs.length) ∧ wr.grownBy w' (us.getD i nilRow).ownBlock :=
        markIntS_calls _ xs _ lo _ RW.out (by omega) (by omega) (by omega)
      rw [UA.out] at hc1
      refine hc1.mono ?_
      rintro e w1 ⟨rfl, o1, g1⟩
      rw [← UA.out] at o1 g1
      have P1 := M.out.write i (by rw [hlen.out]; exact hlt) o1 g1
      have C1 := hide (C.out.trans (M.out.writeChg i (by rw [hlen.out]; exact hlt) g1))
      obtain ⟨p0, p1, q0, q1⟩ := P1.cells i (by rw [List.length_set, hlen.out]; exact hlt)
      have P2 := P1.setGone i (by rw [List.length_set, hlen.out]; exact hlt) (decide (((k + xs.length : Nat) : Int).tmod 3 = 0))
      rw [List.set_set, getD_set _ _ _ _ _ (by rw [hlen.out]; exact hlt), if_pos rfl] at P2
      have e3 : (mkNTo k0 m i).set i (marks k xs.length, decide (((k + xs.length : Nat) : Int).tmod 3 = 0)) = mkNTo k0 m (i + 1) := by
        rw [← mkNTo_step k0 m i hlt, ← KK.out, ← HX.out]
      rw [e3] at P2
      have PP := hide P2
      have CC := hide (C1.out.trans (P1.setChg (j := i * 2 + 1) (.bool (decide (((k + xs.length : Nat) : Int).tmod 3 = 0)))))
      have KN : Hid (k + xs.length + 1 = enN k0 (m.take (i + 1))) := by
        show _ = _
        rw [enN_succ k0 m i hlt, ← KK.out, ← HX.out]
      clear o1 g1 hc1 P1 P2 e3 d0 d1 f0 f1 C1
      go_wp2
      go_roundw
      case rel => exact ⟨i + 1, k + xs.length + 1, by omega, by go_num, by go_num, KN.out, PP.out, CC.out⟩
      case measure => simp [intOf]; omega
    · obtain rfl : i = m.length := by omega
      have e1 := KK.out
      rw [List.take_length] at e1
      have E1 := hide e1
      clear e1
      go_wp2
      go_ret
      have := M.out
      rw [mkNTo_end] at this
      exact ⟨by rw [← E1.out]; rfl, this, C.out⟩

set_option maxRecDepth 100000 in
set_option maxHeartbeats 1600000 in
theorem heldBranchS_calls (v : Value) (k0 : Nat) (m : List Nd) (w : World) (h : RdN w v (mkN k0 m)) (hz : m.length + totN m ≤ 1048576) (hk : k0 ≤ 1099511627) :
    Calls Try.prog 78 #[v, .int .i64 k0] w fun e w' => e = .returned (.int .i64 (enN k0 m : Nat)) ∧ w = w' := by
  have R := hide h
  obtain ⟨a, cap, rfl, h1, h2, h3⟩ := h
  have hn1 : m.length ≤ 1048576 := by omega
  have htot : totN m ≤ 1048576 := by omega
  have LL := hide (mkN_len k0 m)
  rw [mkN_len]
  clear h1 h2 h3 hz
  go_enter Try.func78, Try.ntmps78
  go_wp2
  go_loop [1, 5] (fun vk vi => ∃ (i k : Nat), i ≤ m.length ∧ vi = .int .i64 i ∧ vk = .int .i64 k ∧ k = enN k0 (m.take i)) (fun _ vi => m.length - (intOf vi).toNat)
  case atStart => exact ⟨0, k0, Nat.zero_le _, rfl, rfl, by simp [enN, totN]⟩
  case round =>
    obtain ⟨i, k, hi', rfl, rfl, hkk⟩ := hrel
    have KK := hide hkk
    have kb : k ≤ 1102000000 := by
      have := enN_le k0 m i
      omega
    clear hkk
    by_cases hlt : i < m.length
    · have hlt' : (i : Int) < (m.length : Int) := by omega
      obtain ⟨b, off, u, ks, z, rfl, hx, hu, c0, c1⟩ := R.out.at i (by rw [LL.out]; exact hlt)
      rw [mkN_get k0 m i hlt, ← KK.out] at hx
      have hl : (m.getD i nd0).1.length ≤ 1048576 := by
        have := totN_row_le m i hlt
        omega
      obtain ⟨n, hn⟩ : ∃ n, n = (m.getD i nd0).1.length := ⟨_, rfl⟩
      have KN : Hid (k + n + 1 = enN k0 (m.take (i + 1))) := by
        show _ = _
        rw [enN_succ k0 m i hlt, ← KK.out, ← hn]
      rw [← hn] at hx hl
      obtain ⟨rfl, rfl⟩ : ks = marks k n ∧ z = decide (((k + n : Nat) : Int).tmod 3 = 0) := by
        simp only [Prod.mk.injEq] at hx
        exact ⟨hx.1.symm, hx.2.symm⟩
      have U := hide hu
      obtain ⟨ua, uc, rfl, _, _⟩ := U.out.slc
      have e5 : ¬ ((k : Int) + (n : Int) < 0) := by omega
      clear hx hu hn
      have et : ((k + n : Nat) : Int).tmod 3 = ((k : Int) + (n : Int)) % 3 := by
        rw [Int.tmod_eq_emod_of_nonneg (by omega)]; omega
      rw [et] at c1
      by_cases h3 : ((k : Int) + (n : Int)) % 3 = 0
      · rw [decide_eq_true h3] at c1
        go_wp2_with (go_at_call 45; refine (heldIntS_calls _ n _ _ U.out (by omega) (by omega) (by omega)).mono ?_; rintro e w' ⟨rfl, rfl⟩)
        exact ⟨⟨i + 1, k + n + 1, by omega, by go_num, by go_num, KN.out⟩, by simp [intOf]; omega⟩
      · rw [decide_eq_false h3] at c1
        go_wp2_with (go_at_call 45; refine (heldIntS_calls _ n _ _ U.out (by omega) (by omega) (by omega)).mono ?_; rintro e w' ⟨rfl, rfl⟩)
        exact ⟨⟨i + 1, k + n + 1, by omega, by go_num, by go_num, KN.out⟩, by simp [intOf]; omega⟩
    · obtain rfl : i = m.length := by omega
      have e1 := KK.out
      rw [List.take_length] at e1
      have E1 := hide e1
      clear e1
      go_wp2
      go_ret
      exact ⟨by rw [← E1.out]; rfl, rfl⟩

end Go.Proofs.Ythmijjcddjlebaa

/-
  What is come to: the program's reachedFrom and ReachedIn, call by call. Each contract says what it asks.
-/
import Derived.Test.YtakhggnbhjoojaaRcd
import Derived.Laws.EntriesVeiled
namespace Go.Proofs.Ytakhggnbhjoojaa
open Go.RowKit Go.Shelf
set_option linter.unusedVariables false
attribute [local go_sem] Oper.semAt_some

theorem back_calls (pa : Option Addr) (n pc : Nat) (w : World) :
    Calls Try.prog 118 #[.slice pa n pc] w fun e w' => e = .returned (.func (.func 137) #[] #[.pointer (some ⟨w.heap.size, 0, none⟩)]) ∧ w' = w.alloc (.cells #[.slice pa n pc] 25) := by
  go_enter Try.func118, Try.ntmps118
  go_wp2
  go_ret
  exact ⟨rfl, rfl⟩
/-- 'make([]bool, n)' within a fence. -/
theorem wpListIn_make_bols {F : Fence} {k : Nat} {w : World} {ops : Array Oper} {rest : List Oper} {o : Oper} {a : Act} {Q : Exit → Act → World → Prop} (hg : o.guard = none) (l c : Operand) (hop : o.op = Op.makeSlice 89 l c)
    (base : Nat) (n : Nat) (hl : a.eval l = .int .i64 (n : Int)) (hc : a.eval c = .int .i64 (n : Int)) (hn : n ≤ 1073741824) (hb : base ≤ w.heap.size)
    (h : ∀ w', OwnZ w' base (.slice (some ⟨w.heap.size, 0, none⟩) n n) (List.replicate n false) → w.grownBy w' none → wpListIn F k Try.prog ops Q rest (a.put o.dst (.slice (some ⟨w.heap.size, 0, none⟩) n n)) w') : wpListIn F k Try.prog ops Q (o :: rest) a w := by
  obtain ⟨i0, hi, hz0, hz1, hz2⟩ := info_parts infoBol
  refine wpListIn_plain hg fun K hK' => ?_
  obtain ⟨w', hrun, r1, r2⟩ := run_make_full (P := Try.prog) w base 89 4 i0 (.bool false) 1 Try.underlying89 hi hz0 hz1 .i64 .i64 n (by rw [hz2]; omega) (by unfold maxLen; omega) hb
  have r3 : OwnZ w' base (.slice (some ⟨w.heap.size, 0, none⟩) n n) (List.replicate n false) := by
    show World.ownsRow _ _ _ _ _ (List.replicate n false).length _
    rw [List.length_replicate, List.map_replicate]
    have e : (madeCells (Value.bool false).cells (n * 1)).toList = List.replicate n (Value.bool false) := by
      rw [Nat.mul_one]; exact toList_madeCells_one _ n
    rw [e] at r1
    exact r1
  unfold Oper.wpIn
  refine ⟨?_, ?_⟩
  · simp [Oper.about, hop]
  · rw [Oper.semAt_plain F _ _ (by rw [hop]; intro c hc'; cases hc')]
    simp [execOp, hop, hl, hc, hrun, Result.andThen]
    exact hK' _ _ (h w' r3 r2)
theorem ownZ_heap {w w' : World} {lo g n c : Nat} {bs : List Bool} (h : OwnZ w lo (.slice (some ⟨g, 0, none⟩) n c) bs) (hh : w'.heap[g]? = w.heap[g]?) : OwnZ w' lo (.slice (some ⟨g, 0, none⟩) n c) bs := by
  refine ⟨h.1, ?_⟩
  rcases h.2 with ⟨e, _⟩ | ⟨g', cap, cur, e, hb', hg, rest⟩
  · simp at e
  · obtain rfl : g = g' := by simp at e; exact e.1
    exact .inr ⟨g, cap, cur, e, hb', by rw [hh]; exact hg, rest⟩
theorem Spar.at {lo c0 c1 g : Nat} {A B : World} (hs : Spar lo c0 c1 A B) (hg : g < lo) (hA : g < A.heap.size) : B.heap[g]? = A.heap[g]? := by
  rw [Array.getElem?_eq_getElem hA]
  exact hs.same g _ (Array.getElem?_eq_getElem hA) (.inl hg)
/-- The statement, where the variables of a round lie in memory of their own. -/
theorem wp_rangeJ {P : Program} {n : Nat} {g : Operand} {ps : Array Tmp} {assign body : Code} {Q : Exit → Act → World → Prop} {a : Act} {w : World}
    {gf : Nat} {lb : Array Value} (hg : a.eval g = .func (.func gf) #[] lb) (eg : ∀ args w, (callFunc gf args).run P w = .ok (.enter gf args) w)
    {m : Nat} {xs : List (Array Value)} {Cap : World → Prop} (hit : Iter P gf lb m xs Cap) (hps : ∀ x ∈ xs, x.size = ps.size)
    (I : Nat → World → Prop) (hI : ∀ i A B, I i A → Spar w.heap.size (w.heap.size + 2) (w.heap.size + 2 + m) A B → I i B) (hC : ∀ i A, I i A → Cap A) (h0 : I 0 w)
    (hround : ∀ (n' l i : Nat) (x : Array Value) (W : World), xs[i]? = some x → I i W → w.heap.size + 2 + m ≤ W.heap.size →
      assign.wpIn (Fence.wide.inRound l) n' P (Exit.then (fun a1 W1 => Keep w.heap.size (w.heap.size + 2) (w.heap.size + 2 + m) W W1 ∧ ∀ W2, Spar w.heap.size (w.heap.size + 2) (w.heap.size + 2 + m) W1 W2 →
        body.wpIn (Fence.wide.inRound l) n' P (fun e _ W' => e = .normal ∧ Keep w.heap.size (w.heap.size + 2) (w.heap.size + 2 + m) W2 W' ∧ I (i + 1) W') a1 W2) (fun _ _ _ => False))
        { tmps := (ps.zip x).foldl (fun t (p, v) => t.setIfInBounds p v) a.tmps, defers := [] } W)
    (hdone : ∀ W : World, I xs.length W → W.heap[w.heap.size]? = some (.deferred (some [])) → w.heap.size + 2 ≤ W.heap.size → Q .normal { a with defers := { target := .collected w.heap.size, args := #[] } :: a.defers } W) :
    (Code.rangeFunc g ps assign body).wpIn Fence.wide n P Q a w := by
  refine wpIn_rangeFunc fun fn _ => ?_
  obtain ⟨rc, hrc⟩ : ∃ rc : LoopState → Loop, rc = fun st => { state := st, pending := none, fn, tmps := a.tmps, params := ps, assign, body, defers := w.heap.size } := ⟨_, rfl⟩
  obtain ⟨W1, hW1⟩ : ∃ W1, (w.alloc (.deferred (some []))).alloc (.loop (rc .ready)) = W1 := ⟨_, rfl⟩
  have hs1 : W1.heap.size = w.heap.size + 2 := by rw [← hW1]; simp
  have hL1 : W1.heap[w.heap.size + 1]? = some (.loop (rc .ready)) := by
    rw [← hW1]; have := World.alloc_heap_new (w.alloc (.deferred (some []))) (.loop (rc .ready)); rwa [World.size_alloc] at this
  have hK1 : W1.heap[w.heap.size]? = some (.deferred (some [])) := by
    rw [← hW1]; exact (Below.heap_alloc _ _ _ (by simp)).trans (World.alloc_heap_new w _)
  have hI1 : I 0 W1 := by
    rw [← hW1]; exact hI _ _ _ (hI _ _ _ h0 (Spar.alloc _ _ _ _ _)) (Spar.alloc _ _ _ _ _)
  refine ⟨w.heap.size + 1, [{ target := .collected w.heap.size, args := #[] }], W1, { target := .fn (.func gf) lb, args := #[.func (.yield (w.heap.size + 1)) #[] #[]] }, W1, gf,
    #[.func (.yield (w.heap.size + 1)) #[] #[]] ++ lb, W1, ?_, ?_, ?_, ?_, fun h => by simp [Fence.wide] at h, ?_⟩
  · rw [← hW1, hrc]; exact run_enterLoop_outer _ _ _ _ _
  · simp only [resolve, hg]
    simp [go_sem]
  · intro f' hf'; trivial
  · simp [invoke, go_sem, eg]
  · refine (hit (n - 1) (w.heap.size + 1) (fun i W => I i W ∧ W.heap[w.heap.size + 1]? = some (.loop (rc .ready)) ∧ W.heap[w.heap.size]? = some (.deferred (some []))) W1 ?_ (fun i A h => hC i A h.1) ?_ ⟨hI1, hL1, hK1⟩).mono ?_
    · rintro i A B ⟨h1, h2, h3⟩ hs
      rw [hs1] at hs
      exact ⟨hI i A B h1 (hs.mono (by omega) (fun k hk => by omega)), hs.same _ _ h2 (.inl (by omega)), hs.same _ _ h3 (.inl (by omega))⟩
    · rintro n' i x W hx ⟨hi, hl, hk⟩ hsz
      rw [hs1] at hsz ⊢
      have hy := run_yield (P := P) (args := x) hl (by rw [hrc]; exact hps x (List.mem_of_getElem? hx))
      rw [hrc] at hy
      refine ⟨fn, _, assign, body, hy, roundIn_of_wpIn trivial (wpIn_mono (hround n' (w.heap.size + 1) i x W hx hi hsz) ?_)⟩
      rintro e a1 W1' he
      cases e with
      | normal =>
        obtain ⟨hk1, hbody⟩ := he
        have hl := hk1.same _ _ (by omega) hl (.inl rfl)
        have hk := hk1.same _ _ (by omega) hk (.inl rfl)
        refine ⟨_, run_beginRound hl (by rw [hrc]), ?_⟩
        have hlt : w.heap.size + 1 < W1'.heap.size := (Array.getElem?_eq_some_iff.1 hl).1
        have hl2 : (W1'.putObj (w.heap.size + 1) (.loop { rc .ready with state := .busy })).heap[w.heap.size + 1]? = some (.loop { rc .ready with state := .busy }) := World.putObj_heap_same hlt
        have hk2 : (W1'.putObj (w.heap.size + 1) (.loop { rc .ready with state := .busy })).heap[w.heap.size]? = some (.deferred (some [])) := (World.putObj_heap_other (by omega)).trans hk
        refine wpIn_mono (hbody _ (Spar.putObj _ hl rfl (by omega))) ?_
        rintro e a3 W3 ⟨rfl, hk3, hi3⟩
        have hl3 := hk3.same _ _ (by omega) hl2 (.inl rfl)
        have hd3 := hk3.same _ _ (by omega) hk2 (.inl rfl)
        have hr3 := run_endRound (P := P) none hl3
        refine ⟨_, _, hr3, rfl, ⟨hI _ _ _ hi3 (Spar.putObj _ hl3 rfl (by omega)), ?_, (World.putObj_heap_other (by omega)).trans hd3⟩, ?_⟩
        · rw [World.putObj_heap_same (Array.getElem?_eq_some_iff.1 hl3).1, hrc]; rfl
        · exact (hk1.mono (by omega) (fun k _ h h' => ⟨h, h'⟩)).trans <| (Keep.putObj (lo := w.heap.size + 2) _ (by omega)).trans ((hk3.mono (by omega) (fun k _ h h' => ⟨h, h'⟩)).trans (Keep.putObj _ (by omega)))
      | exit id => exact he.elim
      | goto t => exact he.elim
      | ret => exact he.elim
      | panic chain => exact he.elim
      | outgrown => exact he.elim
    · rintro e W2 ⟨⟨v, rfl⟩, hi, hl, hk⟩
      have he := run_endLoop (P := P) hl (by rw [hrc]; simp)
      have hp : (rc .ready).pending = none := by rw [hrc]
      rw [hp] at he
      refine ⟨none, _, he, hdone _ (hI _ _ _ hi (Spar.putObj _ hl rfl (by omega))) ((World.putObj_heap_other (by omega)).trans hk) ?_⟩
      have := (Array.getElem?_eq_some_iff.1 hl).1; simp; omega
/-- The closure that marks. -/
abbrev reachF (B : Nat) : Value := .func (.func 117) #[] #[.pointer (some ⟨B, 0, none⟩)]
/-- What reachedFrom holds before its round i. -/
structure RcI (m : List Nd) (rs : List Int) (pa : Option Addr) (pc g b5 b6 b7 : Nat) (w : World) (i : Nat) (W : World) (bs : List Bool) : Prop where
  x5 : BoxAt W b5 #[.slice (some ⟨g, 0, none⟩) m.length m.length] 89
  x6 : BoxAt W b6 #[reachF b5] 92
  x7 : BoxAt W b7 #[.slice pa m.length pc] 25
  own : OwnZ W g (.slice (some ⟨g, 0, none⟩) m.length m.length) bs
  len : bs.length = m.length
  tot : rchD m (m.length - i) bs = rchA m rs
  low : Below w.heap.size w W

set_option maxRecDepth 100000 in
set_option maxHeartbeats 3200000 in
theorem reachedFrom_calls (p r : Value) (m : List Nd) (rs : List Int) (w : World) (hp : RdN w p m) (hr : Rd w r rs) (hg : RcOk m rs) :
    Calls Try.prog 80 #[p, r] w fun e w' => ∃ v, e = .returned v ∧ OwnZ w' w.heap.size v (rchA m rs) ∧ Below w.heap.size w w' := by
  have RP := hide hp
  have RR := hide hr
  have G := hide hg
  obtain ⟨pa, pc, rfl, hp1, hp2, hp3⟩ := hp
  obtain ⟨ra, rc, rfl, _⟩ := hr
  have hm14 : m.length ≤ 14 := hg.n
  have hr6 : rs.length ≤ 6 := hg.r
  clear hg hp1 hp2
  obtain ⟨n, _⟩ : ∃ n : Nat, True := ⟨0, trivial⟩
  refine (callsIn_wide (n := n)).1 (callsIn_of_wp_marks Try.func80 rfl trivial ?_ rfl)
  simp only [Try.ntmps80, List.size_toArray, List.length_cons, List.length_nil, Nat.reduceAdd, Nat.reduceSub, Array.replicate_succ, Array.replicate_zero, List.push_toArray, List.append_toArray, List.nil_append, List.cons_append]
  gi_wp2_with (gi_at_make; refine wpListIn_make_bols rfl _ _ rfl w.heap.size m.length rfl rfl (by omega) (Nat.le_refl _) ?_)
  intro w3 ho0 hg0
  obtain ⟨g, hg⟩ : ∃ g, g = w.heap.size := ⟨_, rfl⟩
  rw [← hg] at ho0
  have hg3 : g < w3.heap.size := (World.ownsRow.lt ho0 g rfl).2
  have b3 : Below w.heap.size w w3 := (Below.refl _ _).grown hg0 (Nat.le_refl _) (fun k h => by cases h)
  obtain ⟨b5, hb5⟩ : ∃ b, b = w3.heap.size := ⟨_, rfl⟩
  obtain ⟨w4, hw4⟩ : ∃ w4, w4 = w3.alloc (.cells #[.slice (some ⟨g, 0, none⟩) m.length m.length] 89) := ⟨_, rfl⟩
  have W4 : Hid (w3.alloc (.cells #[.slice (some ⟨g, 0, none⟩) m.length m.length] 89) = w4) := hw4.symm
  have b4 : Below w3.heap.size w3 w4 := by rw [hw4]; exact below_box _ _
  have x4 : BoxAt w4 b5 #[.slice (some ⟨g, 0, none⟩) m.length m.length] 89 := by rw [hw4, hb5]; exact BoxAt.new _ _ _
  have s4 : w4.heap.size = b5 + 1 := by rw [hw4, hb5, World.size_alloc]
  obtain ⟨w5, hw5⟩ : ∃ w5, w5 = w4.alloc (.cells #[reachF b5] 92) := ⟨_, rfl⟩
  have W5 : Hid (w4.alloc (.cells #[reachF b5] 92) = w5) := hw5.symm
  have b55 : Below w4.heap.size w4 w5 := by rw [hw5]; exact below_box _ _
  have x5 : BoxAt w5 (b5 + 1) #[reachF b5] 92 := by rw [hw5, ← s4]; exact BoxAt.new _ _ _
  have hgb : b5 ≠ g := by omega
  have HG := hide hg
  have KEEP : Hid (∀ w' y, Below w.heap.size w w' → w'.grownBy y (some g) → Below w.heap.size w y) := fun w' y h k => h.grown k h.size (fun k hk => by cases hk; have := HG.out; omega)
  have B5 := hide ((b3.trans (b4.mono b3.size)).trans (b55.mono (Nat.le_trans b3.size b4.size)))
  have X5 := hide (x4.below b55)
  have X6 := hide x5
  have O5 := hide (ownsRow_below (ownsRow_below ho0 b4) b55)
  gi_wp2_with fail
  rw [← hg, ← hb5, W4.out, W5.out]
  have hs5 : w5.heap.size = b5 + 2 := by rw [hw5, World.size_alloc, s4]
  have HS5 := hide hs5
  have HG5 : Hid (g < b5) := by show g < _; omega
  clear hg hb5 hw4 hw5 b3 b4 b55 x4 x5 ho0 hg0 s4 hg3 W4 W5 hs5
  refine wide_call (reach_calls _ rs (List.replicate m.length false) b5 g m.length g _ (fun w' hg => RR.out.below (KEEP.out _ w' B5.out hg)) (X5.out.cell 0) hgb O5.out (by simp) (fun i hi => G.out.rx i hi)) ?_
  rintro e w6 ⟨rfl, o6, g6⟩
  have B6 := hide (KEEP.out _ w6 B5.out g6)
  have X56 := hide (X5.out.kept g6 (X5.out.offT O5.out (by decide)))
  have X66 := hide (X6.out.kept g6 (X6.out.offT O5.out (by decide)))
  have HS6 : Hid (b5 + 2 ≤ w6.heap.size) := by have := g6.size; have := HS5.out; show _ ≤ _; omega
  have O6 := hide o6
  clear o6 g6 B5 X5 X6 O5 HS5
  gi_wp2_with fail
  refine wide_call (back_calls pa m.length pc _) ?_
  rintro e w7 ⟨rfl, hw7⟩
  have b7 : Below w6.heap.size w6 w7 := by rw [hw7]; exact below_box _ _
  have X77 : Hid (BoxAt w7 w6.heap.size #[.slice pa m.length pc] 25) := by rw [hw7]; exact BoxAt.new _ _ _
  have HS7 : Hid (w7.heap.size = w6.heap.size + 1) := by show _ = _; rw [hw7, World.size_alloc]
  have X57 := hide (X56.out.below b7)
  have X67 := hide (X66.out.below b7)
  have O7 := hide (ownsRow_below O6.out b7)
  have B7 := hide (B6.out.trans (b7.mono B6.out.size))
  obtain ⟨b8, hb8⟩ : ∃ b8, b8 = w6.heap.size := ⟨_, rfl⟩
  rw [← hb8] at X77 HS7 HS6 ⊢
  clear hb8 hw7 b7 X56 X66 O6 B6
  gi_wp2
  obtain ⟨us, hus⟩ : ∃ us : List Value, ∀ i, i < m.length → Rd w (us.getD i nilRow) (m.getD i nd0).1 ∧ ∃ b off, pa = some ⟨b, off, none⟩ ∧ w.cell? ⟨b, off + i * 2, none⟩ = some (us.getD i nilRow) ∧ w.cell? ⟨b, off + i * 2 + 1, none⟩ = some (.bool (m.getD i nd0).2) := by
    have h1 : ∀ i, ∃ u : Value, i < m.length → Rd w u (m.getD i nd0).1 ∧ ∃ b off, pa = some ⟨b, off, none⟩ ∧ w.cell? ⟨b, off + i * 2, none⟩ = some u ∧ w.cell? ⟨b, off + i * 2 + 1, none⟩ = some (.bool (m.getD i nd0).2) := by
      intro i
      by_cases hi : i < m.length
      · obtain ⟨b, off, u, ks, z, e1, hx, hu, d0, d1⟩ := RP.out.at i hi
        exact ⟨u, fun _ => by rw [hx]; exact ⟨hu, b, off, e1, d0, d1⟩⟩
      · exact ⟨nilRow, fun h => absurd h hi⟩
    obtain ⟨f, hf⟩ := Classical.skolem.1 h1
    refine ⟨(List.range m.length).map f, fun i hi => ?_⟩
    have e : ((List.range m.length).map f).getD i nilRow = f i := by simp [List.getD_eq_getElem?_getD, hi]
    rw [e]
    exact hf i hi
  have US := hide hus
  clear hus hp3
  refine wp_rangeJ (gf := 137) (lb := #[.pointer (some ⟨b8, 0, none⟩)]) rfl (enters_of Try.func137 (by kernel_rfl) rfl) (back1_iter us m b8 pa pc hm14) ?ps
    (fun i W => ∃ bs, RcI m rs pa pc g b5 (b5 + 1) b8 w i W bs) ?ab ?cap ⟨_, X57.out, X67.out, X77.out, O7.out, by rw [rchN_len, List.length_replicate], rfl, B7.out⟩ ?round ?done
  case ps => intro x hx; obtain ⟨k, hk⟩ := List.getElem?_of_mem hx; rw [(backArgs_some hk).2]; rfl
  case ab =>
    rintro i A B ⟨bs, h⟩ hs
    have h7 := HS7.out
    have h6 := HS6.out
    have h5 := HG5.out
    have hg := HG.out
    have k5 := hs.at (g := b5) (by omega) h.x5.lt
    have k6 := hs.at (g := b5 + 1) (by omega) h.x6.lt
    have k7 := hs.at (g := b8) (by omega) h.x7.lt
    have kg := hs.at (g := g) (by omega) (World.ownsRow.lt h.own g rfl).2
    exact ⟨bs, k5.trans h.x5, k6.trans h.x6, k7.trans h.x7, ownZ_heap h.own kg, h.len, h.tot, hs.below h.low (by omega) (Nat.le_refl _)⟩
  case cap =>
    rintro i A ⟨bs, h⟩
    refine ⟨h.x7.cell 0, fun k hk => ?_⟩
    obtain ⟨_, b, off, e1, d0, d1⟩ := US.out k hk
    exact ⟨b, off, e1, cell_below d0 h.low, cell_below d1 h.low⟩
  case round =>
    rintro n' l i x W hx ⟨bs, hI⟩ hsz
    obtain ⟨hlt, rfl⟩ := backArgs_some hx
    obtain ⟨j, hj⟩ : ∃ j, j = m.length - 1 - i := ⟨_, rfl⟩
    rw [← hj]
    have hjm : j < m.length := by omega
    obtain ⟨ru, _⟩ := US.out j hjm
    obtain ⟨ks, hks⟩ : ∃ ks, ks = (m.getD j nd0).1 := ⟨_, rfl⟩
    obtain ⟨z, hz⟩ : ∃ z, z = (m.getD j nd0).2 := ⟨_, rfl⟩
    rw [← hks] at ru
    have RU := hide ru
    obtain ⟨ua, uc, hu, _, _⟩ := ru.slc
    rw [← hz, hu]
    rw [hu] at RU
    have TOT : Hid (rchD m (m.length - (i + 1)) (if bs.getD j false then rchN bs ks else bs) = rchA m rs) := by
      have h1 := hI.tot
      rw [show m.length - i = j + 1 from by omega] at h1
      simp only [rchD] at h1
      rw [show m.length - (i + 1) = j from by omega, hks]
      exact h1
    have HKX : Hid (∀ q, q < ks.length → 0 ≤ ks.getD q 0 ∧ ks.getD q 0 < (m.length : Int)) := by
      intro q hq
      have h1 := (G.out.nd j hjm).2 q (by rw [← hks]; exact hq)
      rw [← hks] at h1
      exact ⟨h1.1, by omega⟩
    have HI := hide hI
    have HJM := hide hjm
    have hjm' : (j : Int) < (m.length : Int) := by omega
    have hj0 : (0 : Int) ≤ (j : Int) := by omega
    clear hx hj hks hz hu ru hI hlt hjm
    gi_wp2
    refine ⟨Keep.alloc _ _ _ _ _, ?_⟩
    intro W2 hs
    have h7 := HS7.out
    have h6 := HS6.out
    have h5 := HG5.out
    have hg := HG.out
    have ba := below_box W (.cells #[.slice ua ks.length uc, .bool z] 84)
    have lta := ba.size
    have k5 : BoxAt W2 b5 _ _ := (hs.at (g := b5) (by omega) (HI.out.x5.below ba).lt).trans (HI.out.x5.below ba)
    have k6 : BoxAt W2 (b5 + 1) _ _ := (hs.at (g := b5 + 1) (by omega) (HI.out.x6.below ba).lt).trans (HI.out.x6.below ba)
    have k7 : BoxAt W2 b8 _ _ := (hs.at (g := b8) (by omega) (HI.out.x7.below ba).lt).trans (HI.out.x7.below ba)
    have og := ownsRow_below HI.out.own ba
    have kg : OwnZ W2 g _ _ := ownZ_heap og (hs.at (g := g) (by omega) (World.ownsRow.lt og g rfl).2)
    have kn : BoxAt W2 W.heap.size #[.slice ua ks.length uc, .bool z] 84 := hs.same _ _ (BoxAt.new W _ _) (.inr ⟨rfl, .inr (by omega)⟩)
    have kb : Below w.heap.size w W2 := hs.below (HI.out.low.trans (ba.mono HI.out.low.size)) (by omega) (Nat.le_refl _)
    have hln := HI.out.len
    obtain ⟨y, hy⟩ : ∃ y, y = bs.getD j false := ⟨_, rfl⟩
    obtain ⟨d0, _, _, _⟩ := ownZ_put kg hln (x := j) (by rw [hln]; exact HJM.out) true
    rw [← hy] at d0 TOT
    have e5 := k5.cell 0
    have e6 := k6.cell 0
    have en := kn.cell 0
    have e5' : W2.cell? ⟨b5, 0, none⟩ = some (.slice (some ⟨g, 0, none⟩) m.length m.length) := e5
    have e6' : W2.cell? ⟨b5 + 1, 0, none⟩ = some (reachF b5) := e6
    have en' : W2.cell? ⟨W.heap.size, 0, none⟩ = some (.slice ua ks.length uc) := en
    have K5 := hide k5
    have K6 := hide k6
    have K7 := hide k7
    have KG := hide kg
    have KB := hide kb
    have LN := hide hln
    have HH : Hid (g < w7.heap.size) := by show g < _; omega
    clear k5 k6 k7 kg kb kn og ba lta hs hy e5 e6 en hln h7 h6 h5 hg hsz HI
    cases y with
    | false =>
      gi_wp2
      exact ⟨Keep.refl _ _ _ _, bs, K5.out, K6.out, K7.out, KG.out, LN.out, by simpa using TOT.out, KB.out⟩
    | true =>
      gi_wp2_with fail
      refine round_call (reach_calls _ ks bs b5 g m.length g _ (fun w' hg => RU.out.below (KEEP.out _ w' KB.out hg)) e5' hgb KG.out LN.out HKX.out) ?_
      rintro e W3 ⟨rfl, o3, g3⟩
      gi_wp2
      refine ⟨Keep.of_grownBy g3 (fun q o hq _ => .inl (by cases hq; exact HH.out)), rchN bs ks, K5.out.kept g3 (K5.out.offT KG.out (by decide)), K6.out.kept g3 (K6.out.offT KG.out (by decide)), K7.out.kept g3 (K7.out.offT KG.out (by decide)), o3, by rw [rchN_len]; exact LN.out, by simpa using TOT.out, KEEP.out _ W3 KB.out g3⟩
  case done =>
    rintro W ⟨bs, h⟩ hD _
    rw [backArgs_length] at h
    have htot := h.tot
    rw [Nat.sub_self] at htot
    simp only [rchD] at htot
    have e5 : W.cell? ⟨b5, 0, none⟩ = some (.slice (some ⟨g, 0, none⟩) m.length m.length) := h.x5.cell 0
    have H := hide h
    have HT := hide htot
    clear h htot
    gi_wp2
    refine ⟨by simp, .inl ⟨_, _, rfl, run_takeDeferred hD, ?_⟩⟩
    refine ⟨_, results_tmp rfl _ _ _, ?_⟩
    have sp := fun o => Spar.putObj (lo := w.heap.size + 1) (c0 := 0) (c1 := 0) o hD rfl (by have := HS7.out; have := HS6.out; have := HG5.out; have := HG.out; omega)
    refine ⟨_, rfl, ?_, (sp _).below H.out.low (by omega) (Nat.le_refl _)⟩
    rw [← HT.out, ← HG.out]
    exact ownZ_heap H.out.own ((sp _).at (by have := HG.out; omega) (World.ownsRow.lt H.out.own g rfl).2)
end Go.Proofs.Ytakhggnbhjoojaa

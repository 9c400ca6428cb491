/-
  Filters as values, and what the laws do with them: copy, measure, compare, mark, look for the marks; a copied row of Booleans. Each contract says what it asks.
-/
import Derived.Test.YtehjfjplajimfaaTbp
namespace Go.Proofs.Ytehjfjplajimfaa
open Go.RowKit
set_option linter.unusedVariables false

theorem BoxAt.c1 {w : World} {g : Nat} {a : Value} {T : TypeId} (h : BoxAt w g #[a] T) : w.cell? ⟨g, 0, none⟩ = some a := h.cell 0
theorem RdZ.slv {w : World} {v : Value} {xs : List Bool} (h : RdZ w v xs) : ∃ a cap, v = .slice a xs.length cap ∧ xs.length ≤ 9223372036854775807 := by
  obtain ⟨a, cap, rfl, h1, h2, h3⟩ := h
  refine ⟨a, cap, rfl, ?_⟩
  have := h2.1
  unfold maxLen at this
  omega
theorem RdZ.atv {w : World} {a : Option Addr} {n cap : Nat} {xs : List Bool} (h : RdZ w (.slice a n cap) xs) (i : Nat) (hi : i < xs.length) : ∃ b off, a = some ⟨b, off, none⟩ ∧ w.cell? ⟨b, off + i, none⟩ = some (.bool (xs.getD i false)) := by
  obtain ⟨a', cap', e, h1, h2, h3⟩ := h
  simp only [Value.slice.injEq] at e
  obtain ⟨rfl, rfl, rfl⟩ := e
  rcases h3 with h3 | ⟨b, off, rfl, hlt, hc⟩
  · subst h3; simp at hi
  · exact ⟨b, off, rfl, hc i hi⟩
theorem fiInfo : (Try.prog.info? 46).map (·.size) = some 1 := by kernel_rfl
theorem res_fi {fn : Func} {x : Tmp} (hf : fn.results = #[.cell x 46]) (tmps : Array Value) (w : World) (g : Nat) (a : Value) (fr : Nat × Nat) (hp : tmps.getD x undef = .pointer (some ⟨g, 0, none⟩))
    (hg : w.heap[g]? = some (.cells #[a] 46 fr)) : (results fn tmps).run Try.prog w = .ok (.agg #[a]) w :=
  results_cell_row hf tmps w g _ _ fr _ hp hg Try.underlying46 rfl fiInfo
theorem res_fi2 {fn : Func} {x u : Tmp} (hf : fn.results = #[.cell x 46, .tmp u]) (tmps : Array Value) (w : World) (g : Nat) (a : Value) (fr : Nat × Nat) (hp : tmps.getD x undef = .pointer (some ⟨g, 0, none⟩))
    (hg : w.heap[g]? = some (.cells #[a] 46 fr)) : (results fn tmps).run Try.prog w = .ok (.tuple #[.agg #[a], tmps.getD u undef]) w := by
  have hp' : tmps[x]?.getD undef = .pointer (some ⟨g, 0, none⟩) := by simpa using hp
  simp [results, hf, hp', asAddr, run_loadVar_row w g _ _ _ fr _ hg Try.underlying46 rfl fiInfo]

set_option linter.unusedSimpArgs false in
set_option maxRecDepth 100000 in
set_option maxHeartbeats 800000 in
theorem toFilter_calls (v : Value) (xs : List Bool) (w : World) (h : RdZ w v xs) (hn : xs.length ≤ 1048576) :
    Calls Try.prog 36 #[.agg #[v]] w fun e w' => ∃ v', e = .returned (.agg #[v']) ∧ OwnZ w' w.heap.size v' xs ∧ Below w.heap.size w w' := by
  have R1 := hide h
  obtain ⟨a, c, rfl, _⟩ := h.slv
  clear h
  have A0 := hide (Hand.threeN w #[.slice a xs.length c] #[.slice none 0 0] #[.slice none 0 0] 51 46 46)
  go_enter Try.func36, Try.ntmps36
  go_wp2_with fail
  refine (toBoolS_calls _ xs _ (R1.out.below A0.out.below) hn).mono ?_
  rintro e w1 ⟨v1, rfl, o1, b1⟩
  obtain ⟨a1, c1, rfl⟩ := row_slice o1
  have A1 := hide (A0.out.add b1 (TBols.st _ _) ⟨o1, row_top o1⟩)
  clear o1 b1 A0
  have c0 := (A1.out.atBox 1 rfl).c1
  have d0 := (A1.out.atBox 2 rfl).c1
  have f0 := (A1.out.atBox 1 rfl).frozen 0
  have g0 := (A1.out.atBox 2 rfl).frozen 0
  have A2 : Hid (Hand w _ [TBols _ xs, TBox (w.heap.size + 1 + 1) #[.slice a1 xs.length c1] 46, TBox (w.heap.size + 1) #[.slice none 0 0] 46, TBox w.heap.size #[.slice a xs.length c] 51]) := A1.out.setBoxT 1 rfl 0 (.slice a1 xs.length c1)
  have A3 : Hid (Hand w _ [TBols _ xs, TBox (w.heap.size + 1 + 1) #[.slice a1 xs.length c1] 46, TBox (w.heap.size + 1) #[.slice a1 xs.length c1] 46, TBox w.heap.size #[.slice a xs.length c] 51]) := A2.out.setBoxT 2 rfl 0 (.slice a1 xs.length c1)
  clear A1
  go_wp2
  obtain ⟨lo, hi, o3, hl3, _, _⟩ := A3.out.open 0 rfl
  exact bodyPost_ret (res_fi rfl _ _ (w.heap.size + 1) _ (0, 0) rfl (A3.out.atBox 2 rfl)) rfl ⟨_, rfl, ownsRow_mono o3.1 hl3, A3.out.below⟩

set_option maxRecDepth 100000 in
set_option maxHeartbeats 800000 in
theorem szFilter_calls (v : Value) (xs : List Bool) (l : Int) (w : World) (h : RdZ w v xs) (hl0 : 0 ≤ l) (hl : l ≤ 1048576) :
    Calls Try.prog 34 #[.agg #[v], .int .i64 l] w fun e w' => (∃ r : Int, e = .returned (.int .i64 r) ∧ (r < 0 ∨ (0 ≤ r ∧ r ≤ 1048576 ∧ xs.length ≤ 1048576))) ∧ Below w.heap.size w w' := by
  have b0 := below_box w (.cells #[v] 51)
  have R1 := hide (h.below b0)
  have B0 := hide b0
  obtain ⟨a, c, rfl, _⟩ := h.slv
  clear b0 h
  go_enter Try.func34, Try.ntmps34
  go_wp2_with fail
  refine (szBoolS_calls _ xs _ _ R1.out hl0 hl).mono ?_
  rintro e w1 ⟨⟨x, rfl, hx⟩, rfl⟩
  rcases hx with hx | ⟨hx0, hx1, hx2⟩
  · go_wp2
    go_ret
    exact ⟨⟨-1, rfl, .inl (by decide)⟩, B0.out⟩
  have hx' : ¬ x < 0 := by omega
  go_wp2
  go_ret
  exact ⟨⟨_, rfl, .inr ⟨hx0, hx1, hx2⟩⟩, B0.out⟩

set_option maxRecDepth 100000 in
set_option maxHeartbeats 800000 in
theorem eqFilter_same (v v' : Value) (xs : List Bool) (w : World) (h : RdZ w v xs) (h' : RdZ w v' xs) :
    Calls Try.prog 31 #[.agg #[v], .agg #[v']] w fun e w' => e = .returned (.bool true) ∧ Below w.heap.size w w' := by
  obtain ⟨a, c, rfl, _⟩ := h.slv
  obtain ⟨a', c', rfl, _⟩ := h'.slv
  have A0 := hide (Hand.twoN w #[.slice a xs.length c] #[.slice a' xs.length c'] 46 46)
  have R1 := hide h
  have R2 := hide h'
  clear h h'
  go_enter Try.func31, Try.ntmps31
  go_wp2_with fail
  refine (eqBoolS_same _ _ xs _ (R1.out.below A0.out.below) (R2.out.below A0.out.below)).mono ?_
  rintro e w1 ⟨rfl, b1⟩
  have A1 := hide (A0.out.step b1)
  clear b1 A0
  go_wp2
  go_ret
  exact ⟨rfl, A1.out.below⟩

set_option maxRecDepth 100000 in
set_option maxHeartbeats 800000 in
theorem markFilter_calls (v : Value) (xs : List Bool) (k : Int) (lo hi : Nat) (w : World) (h : OwnZ w lo v xs) (ht : ∀ j, v.ownBlock = some j → j < hi) (hh : hi ≤ w.heap.size) (hk0 : 0 ≤ k) (hk : k ≤ 1099511627776) (hn : xs.length ≤ 1048576) :
    Calls Try.prog 32 #[.agg #[v], .int .i64 k] w fun e w' => e = .returned (.int .i64 (k + xs.length)) ∧ OwnZ w' lo v (marksZ k xs.length) ∧ Chg lo hi w w' := by
  obtain ⟨a, c, rfl⟩ := row_slice h
  have b0 := below_box w (.cells #[.slice a xs.length c] 46)
  have D0 := hide (ownsRow_below h b0)
  have T0 := hide ht
  have C0 : Hid (Chg lo hi w (w.alloc (.cells #[.slice a xs.length c] 46))) := Chg.ofBelow b0
  clear b0 h ht
  go_enter Try.func32, Try.ntmps32
  go_wp2_with fail
  refine (markBoolS_calls _ xs k lo _ D0.out hk0 hk hn).mono ?_
  rintro e w1 ⟨rfl, o1, g1⟩
  have O1 := hide o1
  have C1 := hide (C0.out.trans (Chg.ofGrown g1 (fun j hj => ⟨row_low D0.out j hj, T0.out j hj⟩)))
  clear o1 g1 D0 C0
  go_wp2
  go_ret
  exact ⟨rfl, O1.out, C1.out⟩

set_option maxRecDepth 100000 in
set_option maxHeartbeats 800000 in
theorem heldFilter_calls (v : Value) (n : Nat) (k : Int) (w : World) (h : RdZ w v (marksZ k n)) (hk0 : 0 ≤ k) (hk : k ≤ 1099511627776) (hn : n ≤ 1048576) :
    Calls Try.prog 33 #[.agg #[v], .int .i64 k] w fun e w' => e = .returned (.int .i64 (k + n)) ∧ Below w.heap.size w w' := by
  have b0 := below_box w (.cells #[v] 46)
  have R1 := hide (h.below b0)
  have B0 := hide b0
  obtain ⟨a, c, rfl, _⟩ := h.slv
  rw [marksZ_length] at *
  clear b0 h
  have e1 : ¬ (k + (n : Int) < 0) := by omega
  go_enter Try.func33, Try.ntmps33
  go_wp2_with fail
  refine (heldBoolS_calls _ n k _ R1.out hk0 hk hn).mono ?_
  rintro e w1 ⟨rfl, rfl⟩
  go_wp2
  go_ret
  exact ⟨rfl, B0.out⟩
end Go.Proofs.Ytehjfjplajimfaa

/-
  Slots as values (slices of a call of its own), and what the laws do with them: copy, measure, compare, mark, look for the marks. Each contract says what it asks.
-/
import Derived.Test.YtehjfjplajimfaaNdy
import Derived.Laws.StructEq
namespace Go.Proofs.Ytehjfjplajimfaa
open Go.RowKit
set_option linter.unusedVariables false

/-- A slot: whether it is Used, its Key, its Value. -/
abbrev Sl := Bool × Int × Int
def sl0 : Sl := (false, 0, 0)
/-- The cells of slots. -/
def slC : List Sl → List Value
  | [] => []
  | s :: xs => .bool s.1 :: .int .i64 s.2.1 :: .int .i64 s.2.2 :: slC xs
theorem slC_len : ∀ (xs : List Sl), (slC xs).length = xs.length * 3
  | [] => rfl
  | s :: xs => by simp [slC, slC_len xs]; omega
theorem slC_0 : ∀ (xs : List Sl) (i : Nat), i < xs.length → (slC xs)[i * 3]? = some (.bool (xs.getD i sl0).1)
  | [], i, h => by simp at h
  | s :: xs, 0, h => by simp [slC]
  | s :: xs, i + 1, h => by
    have := slC_0 xs i (by simpa using h)
    rw [show (i + 1) * 3 = i * 3 + 1 + 1 + 1 from by omega]
    simpa [slC] using this
theorem slC_1 : ∀ (xs : List Sl) (i : Nat), i < xs.length → (slC xs)[i * 3 + 1]? = some (.int .i64 (xs.getD i sl0).2.1)
  | [], i, h => by simp at h
  | s :: xs, 0, h => by simp [slC]
  | s :: xs, i + 1, h => by
    have := slC_1 xs i (by simpa using h)
    rw [show (i + 1) * 3 + 1 = i * 3 + 1 + 1 + 1 + 1 from by omega]
    simpa [slC] using this
theorem slC_2 : ∀ (xs : List Sl) (i : Nat), i < xs.length → (slC xs)[i * 3 + 2]? = some (.int .i64 (xs.getD i sl0).2.2)
  | [], i, h => by simp at h
  | s :: xs, 0, h => by simp [slC]
  | s :: xs, i + 1, h => by
    have := slC_2 xs i (by simpa using h)
    rw [show (i + 1) * 3 + 2 = i * 3 + 2 + 1 + 1 + 1 from by omega]
    simpa [slC] using this
theorem slC_set0 : ∀ (xs : List Sl) (i : Nat) (z : Bool), i < xs.length → (slC xs).set (i * 3) (.bool z) = slC (xs.set i (z, (xs.getD i sl0).2))
  | [], i, z, h => by simp at h
  | s :: xs, 0, z, h => by simp [slC]
  | s :: xs, i + 1, z, h => by
    have := slC_set0 xs i z (by simpa using h)
    rw [show (i + 1) * 3 = i * 3 + 1 + 1 + 1 from by omega]
    simpa [slC] using this
theorem slC_set1 : ∀ (xs : List Sl) (i : Nat) (z : Int), i < xs.length → (slC xs).set (i * 3 + 1) (.int .i64 z) = slC (xs.set i ((xs.getD i sl0).1, z, (xs.getD i sl0).2.2))
  | [], i, z, h => by simp at h
  | s :: xs, 0, z, h => by simp [slC]
  | s :: xs, i + 1, z, h => by
    have := slC_set1 xs i z (by simpa using h)
    rw [show (i + 1) * 3 + 1 = i * 3 + 1 + 1 + 1 + 1 from by omega]
    simpa [slC] using this
theorem slC_set2 : ∀ (xs : List Sl) (i : Nat) (z : Int), i < xs.length → (slC xs).set (i * 3 + 2) (.int .i64 z) = slC (xs.set i ((xs.getD i sl0).1, (xs.getD i sl0).2.1, z))
  | [], i, z, h => by simp at h
  | s :: xs, 0, z, h => by simp [slC]
  | s :: xs, i + 1, z, h => by
    have := slC_set2 xs i z (by simpa using h)
    rw [show (i + 1) * 3 + 2 = i * 3 + 2 + 1 + 1 + 1 from by omega]
    simpa [slC] using this
theorem slC_app : ∀ (xs ys : List Sl), slC (xs ++ ys) = slC xs ++ slC ys
  | [], ys => rfl
  | s :: xs, ys => by simp [slC, slC_app xs ys]
theorem slC_one : ∀ (xs : List Sl), ∀ u ∈ slC xs, u.oneCell' = true
  | [], u, h => by simp [slC] at h
  | s :: xs, u, h => by
    simp only [slC, List.mem_cons] at h
    rcases h with rfl | rfl | rfl | h
    · rfl
    · rfl
    · rfl
    · exact slC_one xs u h

/-- The value v is a slice that reads as these slots. -/
def RdS (w : World) (v : Value) (xs : List Sl) : Prop :=
  ∃ a cap, v = .slice a xs.length cap ∧ xs.length ≤ cap ∧ (cap ≤ maxLen ∧ (a = none → cap = 0)) ∧
    (xs = [] ∨ ∃ b off, a = some ⟨b, off, none⟩ ∧ b < w.heap.size ∧ ∀ i, i < xs.length →
      w.cell? ⟨b, off + i * 3, none⟩ = some (.bool (xs.getD i sl0).1) ∧ w.cell? ⟨b, off + i * 3 + 1, none⟩ = some (.int .i64 (xs.getD i sl0).2.1) ∧ w.cell? ⟨b, off + i * 3 + 2, none⟩ = some (.int .i64 (xs.getD i sl0).2.2))
/-- The value v is a slice of the call's own that reads as these slots. -/
abbrev OwnS (w : World) (base : Nat) (v : Value) (xs : List Sl) : Prop := w.ownsRow base 81 3 v xs.length (slC xs)
theorem RdS.below {w w' : World} {v : Value} {xs : List Sl} (h : RdS w v xs) (hb : Below w.heap.size w w') : RdS w' v xs := by
  obtain ⟨a, cap, rfl, h1, h2, h3⟩ := h
  refine ⟨a, cap, rfl, h1, h2, ?_⟩
  rcases h3 with h3 | ⟨b, off, rfl, hlt, hc⟩
  · exact .inl h3
  · refine .inr ⟨b, off, rfl, Nat.lt_of_lt_of_le hlt hb.size, fun i hi => ?_⟩
    obtain ⟨c0, c1, c2⟩ := hc i hi
    refine ⟨?_, ?_, ?_⟩
    · rw [hb.cell hlt]; exact c0
    · rw [hb.cell hlt]; exact c1
    · rw [hb.cell hlt]; exact c2
theorem RdS.at {w : World} {a : Option Addr} {n cap : Nat} {xs : List Sl} (h : RdS w (.slice a n cap) xs) (i : Nat) (hi : i < xs.length) :
    ∃ b off u k z, a = some ⟨b, off, none⟩ ∧ xs.getD i sl0 = (u, k, z) ∧ b < w.heap.size ∧ w.cell? ⟨b, off + i * 3, none⟩ = some (.bool u) ∧ w.cell? ⟨b, off + i * 3 + 1, none⟩ = some (.int .i64 k) ∧ w.cell? ⟨b, off + i * 3 + 2, none⟩ = some (.int .i64 z) := by
  obtain ⟨a', cap', e, h1, h2, h3⟩ := h
  simp only [Value.slice.injEq] at e
  obtain ⟨rfl, _, rfl⟩ := e
  rcases h3 with rfl | ⟨b, off, rfl, hlt, hc⟩
  · simp at hi
  · obtain ⟨c0, c1, c2⟩ := hc i hi
    exact ⟨b, off, _, _, _, rfl, rfl, hlt, c0, c1, c2⟩
theorem RdS.sl {w : World} {v : Value} {xs : List Sl} (h : RdS w v xs) : ∃ a cap, v = .slice a xs.length cap ∧ xs.length ≤ cap ∧ cap ≤ maxLen := by
  obtain ⟨a, cap, rfl, h1, h2, h3⟩ := h
  exact ⟨a, cap, rfl, h1, h2.1⟩
theorem rdS_nil (w : World) : RdS w (.slice none 0 0) [] := ⟨none, 0, rfl, Nat.le_refl _, ⟨Nat.zero_le _, fun _ => rfl⟩, .inl rfl⟩
theorem OwnS.rd {w : World} {base : Nat} {v : Value} {xs : List Sl} (h : OwnS w base v xs) : RdS w v xs := by
  rcases h.2 with ⟨rfl, hn⟩ | ⟨g, cap, cur, rfl, hb, hg, hc, hm, hs, ht⟩
  · have : xs = [] := List.eq_nil_of_length_eq_zero hn
    subst this
    exact rdS_nil w
  · refine ⟨_, cap, rfl, hc, ⟨hm, fun h => by cases h⟩, .inr ⟨g, 0, rfl, (Array.getElem?_eq_some_iff.1 hg).1, fun i hi => ⟨?_, ?_, ?_⟩⟩⟩
    · rw [Nat.zero_add, World.ownsRow.cellAt h (i * 3) (by omega)]
      exact slC_0 xs i hi
    · rw [Nat.zero_add, World.ownsRow.cellAt h (i * 3 + 1) (by omega)]
      exact slC_1 xs i hi
    · rw [Nat.zero_add, World.ownsRow.cellAt h (i * 3 + 2) (by omega)]
      exact slC_2 xs i hi
theorem OwnS.slice {w : World} {base : Nat} {v : Value} {xs : List Sl} (h : OwnS w base v xs) : ∃ a cap, v = .slice a xs.length cap := by
  obtain ⟨a, cap, e, _⟩ := h.rd.sl
  exact ⟨a, cap, e⟩
theorem OwnS.form {w : World} {base : Nat} {v : Value} {xs : List Sl} (h : OwnS w base v xs) (h0 : 0 < xs.length) : ∃ g cap, v = .slice (some ⟨g, 0, none⟩) xs.length cap ∧ base ≤ g ∧ g < w.heap.size ∧ xs.length ≤ cap ∧ cap ≤ maxLen := by
  rcases h.2 with ⟨_, h'⟩ | ⟨g, cap, cur, rfl, hb, hg, hc, hm, _⟩
  · omega
  · exact ⟨g, cap, rfl, hb, (Array.getElem?_eq_some_iff.1 hg).1, hc, hm⟩
theorem OwnS.lenEq {w : World} {base g n cap : Nat} {xs : List Sl} (h : OwnS w base (.slice (some ⟨g, 0, none⟩) n cap) xs) : n = xs.length := by
  rcases h.2 with ⟨h', _⟩ | ⟨g', cap', cur, h', _⟩
  · simp at h'
  · simp at h'; exact h'.2.1
theorem OwnS.top {w : World} {base : Nat} {v : Value} {xs : List Sl} (h : OwnS w base v xs) : ∀ k, v.ownBlock = some k → k < w.heap.size := fun k hk => (World.ownsRow.lt h k hk).2
theorem OwnS.low {w : World} {base : Nat} {v : Value} {xs : List Sl} (h : OwnS w base v xs) : ∀ k, v.ownBlock = some k → base ≤ k := fun k hk => (World.ownsRow.lt h k hk).1
/-- What a slot's cells are, and that they may be written. -/
theorem OwnS.cells {w : World} {base g n cap : Nat} {xs : List Sl} (h : OwnS w base (.slice (some ⟨g, 0, none⟩) n cap) xs) (i : Nat) (hi : i < xs.length) :
    (w.cell? ⟨g, i * 3, none⟩ = some (.bool (xs.getD i sl0).1) ∧ w.cell? ⟨g, i * 3 + 1, none⟩ = some (.int .i64 (xs.getD i sl0).2.1) ∧ w.cell? ⟨g, i * 3 + 2, none⟩ = some (.int .i64 (xs.getD i sl0).2.2)) ∧
      w.frozen? ⟨g, i * 3, none⟩ = false ∧ w.frozen? ⟨g, i * 3 + 1, none⟩ = false ∧ w.frozen? ⟨g, i * 3 + 2, none⟩ = false := by
  obtain rfl := h.lenEq
  refine ⟨⟨?_, ?_, ?_⟩, World.ownsRow.frozenAt h _, World.ownsRow.frozenAt h _, World.ownsRow.frozenAt h _⟩
  · rw [World.ownsRow.cellAt h (i * 3) (by omega)]; exact slC_0 xs i hi
  · rw [World.ownsRow.cellAt h (i * 3 + 1) (by omega)]; exact slC_1 xs i hi
  · rw [World.ownsRow.cellAt h (i * 3 + 2) (by omega)]; exact slC_2 xs i hi
theorem OwnS.put0 {w : World} {base g n cap : Nat} {xs : List Sl} (h : OwnS w base (.slice (some ⟨g, 0, none⟩) n cap) xs) (i : Nat) (hi : i < xs.length) (z : Bool) :
    OwnS (w.setCell ⟨g, i * 3, none⟩ (.bool z)) base (.slice (some ⟨g, 0, none⟩) n cap) (xs.set i (z, (xs.getD i sl0).2)) ∧ w.grownBy (w.setCell ⟨g, i * 3, none⟩ (.bool z)) (some g) := by
  obtain rfl := h.lenEq
  have st := World.ownsRow.stored h (i * 3) (.bool z)
  rw [slC_set0 xs i z hi] at st
  exact ⟨by unfold OwnS; rw [List.length_set]; exact st.1, st.2⟩
theorem OwnS.put1 {w : World} {base g n cap : Nat} {xs : List Sl} (h : OwnS w base (.slice (some ⟨g, 0, none⟩) n cap) xs) (i : Nat) (hi : i < xs.length) (z : Int) :
    OwnS (w.setCell ⟨g, i * 3 + 1, none⟩ (.int .i64 z)) base (.slice (some ⟨g, 0, none⟩) n cap) (xs.set i ((xs.getD i sl0).1, z, (xs.getD i sl0).2.2)) ∧ w.grownBy (w.setCell ⟨g, i * 3 + 1, none⟩ (.int .i64 z)) (some g) := by
  obtain rfl := h.lenEq
  have st := World.ownsRow.stored h (i * 3 + 1) (.int .i64 z)
  rw [slC_set1 xs i z hi] at st
  exact ⟨by unfold OwnS; rw [List.length_set]; exact st.1, st.2⟩
theorem OwnS.put2 {w : World} {base g n cap : Nat} {xs : List Sl} (h : OwnS w base (.slice (some ⟨g, 0, none⟩) n cap) xs) (i : Nat) (hi : i < xs.length) (z : Int) :
    OwnS (w.setCell ⟨g, i * 3 + 2, none⟩ (.int .i64 z)) base (.slice (some ⟨g, 0, none⟩) n cap) (xs.set i ((xs.getD i sl0).1, (xs.getD i sl0).2.1, z)) ∧ w.grownBy (w.setCell ⟨g, i * 3 + 2, none⟩ (.int .i64 z)) (some g) := by
  obtain rfl := h.lenEq
  have st := World.ownsRow.stored h (i * 3 + 2) (.int .i64 z)
  rw [slC_set2 xs i z hi] at st
  exact ⟨by unfold OwnS; rw [List.length_set]; exact st.1, st.2⟩
/-- A whole slot is written. -/
theorem OwnS.put3 {w : World} {base g n cap : Nat} {xs : List Sl} (h : OwnS w base (.slice (some ⟨g, 0, none⟩) n cap) xs) (i : Nat) (hi : i < xs.length) (s : Sl) :
    OwnS (((w.setCell ⟨g, i * 3, none⟩ (.bool s.1)).setCell ⟨g, i * 3 + 1, none⟩ (.int .i64 s.2.1)).setCell ⟨g, i * 3 + 2, none⟩ (.int .i64 s.2.2)) base (.slice (some ⟨g, 0, none⟩) n cap) (xs.set i s) ∧
      w.grownBy (((w.setCell ⟨g, i * 3, none⟩ (.bool s.1)).setCell ⟨g, i * 3 + 1, none⟩ (.int .i64 s.2.1)).setCell ⟨g, i * 3 + 2, none⟩ (.int .i64 s.2.2)) (some g) := by
  obtain ⟨o1, g1⟩ := h.put0 i hi s.1
  obtain ⟨o2, g2⟩ := o1.put1 i (by simpa using hi) s.2.1
  obtain ⟨o3, g3⟩ := o2.put2 i (by simpa using hi) s.2.2
  rw [List.set_set, List.set_set, getD_set _ _ _ _ _ (by simpa using hi), if_pos rfl, getD_set _ _ _ _ _ hi, if_pos rfl] at o3
  exact ⟨o3, grown_tr (grown_tr g1 g2) g3⟩
/-- Slots of the call's own, as a thing to hold. -/
def TSls (v : Value) (xs : List Sl) : Tg := fun lo hi w => OwnS w lo v xs ∧ ∀ k, v.ownBlock = some k → k < hi
theorem TSls.st (v : Value) (xs : List Sl) : (TSls v xs).st := fun lo hi a b w w' h hc hd => ⟨rowsChg h.1 h.2 hc hd, h.2⟩
theorem Hand.wideS {W w : World} {L : List Tg} {v : Value} {xs : List Sl} (A : Hand W w L) (i : Nat) (hi : L[i]? = some (TSls v xs)) : OwnS w W.heap.size v xs := by
  obtain ⟨lo, hi', ⟨h, _⟩, hlo, _⟩ := A.open i hi
  exact rowsMono h hlo
theorem infoSl : (Try.prog.info? 81).map (fun i => (i.zero, i.size, i.bytes)) = some (some (.agg #[.bool false, .int .i64 0, .int .i64 0]), 3, 24) := by kernel_rfl
theorem slInfo : (Try.prog.info? 81).map (·.size) = some 3 := by kernel_rfl
theorem res_sl {fn : Func} {x : Tmp} (hf : fn.results = #[.cell x 81]) (tmps : Array Value) (w : World) (g : Nat) (a b c : Value) (fr : Nat × Nat) (hp : tmps.getD x undef = .pointer (some ⟨g, 0, none⟩))
    (hg : w.heap[g]? = some (.cells #[a, b, c] 81 fr)) : (results fn tmps).run Try.prog w = .ok (.agg #[a, b, c]) w :=
  results_cell_row hf tmps w g _ _ fr _ hp hg Try.underlying81 rfl slInfo

set_option linter.unusedSimpArgs false in
set_option maxRecDepth 100000 in
set_option maxHeartbeats 1600000 in
theorem toSlot_calls (u : Bool) (k z : Int) (w : World) :
    Calls Try.prog 95 #[.agg #[.bool u, .int .i64 k, .int .i64 z]] w fun e w' => e = .returned (.agg #[.bool u, .int .i64 k, .int .i64 z]) ∧ Below w.heap.size w w' := by
  have A0 := hide (Hand.threeN w #[.bool u, .int .i64 k, .int .i64 z] #[.bool u, .int .i64 k, .int .i64 z] #[.bool u, .int .i64 k, .int .i64 z] 107 81 81)
  go_enter Try.func95, Try.ntmps95
  go_wp2
  exact bodyPost_ret (res_sl rfl _ _ (w.heap.size + 1) _ _ _ (0, 0) rfl (A0.out.atBox 1 rfl)) rfl ⟨rfl, A0.out.below⟩

/-- 'make([]Slot, n)'. -/
theorem wpList_make_sls {w : World} {ops : Array Oper} {rest : List Oper} {o : Oper} {a : Act} {Q : Exit → Act → World → Prop} (hg : o.guard = none) (l c : Operand) (hop : o.op = Op.makeSlice 26 l c)
    (L C : Int) (n : Nat) (hl : a.eval l = .int .i64 L) (hc : a.eval c = .int .i64 C) (hL : L = (n : Int)) (hC : C = (n : Int)) (hn : n ≤ 1048576)
    (h : ∀ w', OwnS w' w.heap.size (.slice (some ⟨w.heap.size, 0, none⟩) n n) (List.replicate n sl0) → w.grownBy w' none → wpList Try.prog ops Q rest (a.put o.dst (.slice (some ⟨w.heap.size, 0, none⟩) n n)) w') : wpList Try.prog ops Q (o :: rest) a w := by
  obtain ⟨i0, hi, hz0, hz1, hz2⟩ := info_parts infoSl
  refine wpList_make_full w hg l c _ hop w.heap.size 81 i0 (.agg #[.bool false, .int .i64 0, .int .i64 0]) 3 Try.underlying26 hi hz0 hz1 _ _ L C n hl hc hL hC (by rw [hz2]; omega) (by unfold maxLen; omega) (Nat.le_refl _) ?_
  intro w' ho hg'
  have e : (madeCells (Value.agg #[.bool false, .int .i64 0, .int .i64 0]).cells (n * 3)).toList = slC (List.replicate n sl0) := by
    refine List.ext_getElem? fun j => ?_
    have hlen := slC_len (List.replicate n sl0)
    rw [List.length_replicate] at hlen
    by_cases hj : j < n * 3
    · have e2 : (Value.agg #[.bool false, .int .i64 0, .int .i64 0]).cells.size = 3 := rfl
      rw [Array.getElem?_toList]
      simp only [madeCells, Array.getElem?_map, e2, Array.getElem?_range, if_pos hj, Option.map_some]
      have h3 : j % 3 = 0 ∨ j % 3 = 1 ∨ j % 3 = 2 := by omega
      rcases h3 with h0 | h0 | h0
      · obtain ⟨i, rfl⟩ : ∃ i, j = i * 3 := ⟨j / 3, by omega⟩
        rw [slC_0 _ i (by simp; omega), h0]
        simp [List.getD_eq_getElem?_getD, show i < n from by omega]
        rfl
      · obtain ⟨i, rfl⟩ : ∃ i, j = i * 3 + 1 := ⟨j / 3, by omega⟩
        rw [slC_1 _ i (by simp; omega), h0]
        simp [List.getD_eq_getElem?_getD, show i < n from by omega]
        rfl
      · obtain ⟨i, rfl⟩ : ∃ i, j = i * 3 + 2 := ⟨j / 3, by omega⟩
        rw [slC_2 _ i (by simp; omega), h0]
        simp [List.getD_eq_getElem?_getD, show i < n from by omega]
        rfl
    · rw [List.getElem?_eq_none (by simp [madeCells]; omega), List.getElem?_eq_none (by omega)]
  rw [e] at ho
  exact h w' (by unfold OwnS; rw [List.length_replicate]; exact ho) hg'

/-- What is copied so far. -/
def cpS (m : List Sl) (k : Nat) : List Sl := m.take k ++ List.replicate (m.length - k) sl0
theorem cpS_len (m : List Sl) (k : Nat) (h : k ≤ m.length) : (cpS m k).length = m.length := by simp [cpS]; omega
theorem cpS_step (m : List Sl) (k : Nat) (h : k < m.length) : (cpS m k).set k (m.getD k sl0) = cpS m (k + 1) := by
  have e1 : (m.take k).length = k := by simp; omega
  unfold cpS
  rw [List.set_append_right _ _ (by omega), e1, Nat.sub_self]
  obtain ⟨n, hn⟩ : ∃ n, m.length - k = n + 1 := ⟨m.length - k - 1, by omega⟩
  have hn2 : m.length - (k + 1) = n := by omega
  rw [hn, hn2, List.replicate_succ, List.set_cons_zero, List.take_succ_eq_append_getElem h, List.append_assoc]
  simp only [List.getD_eq_getElem?_getD, List.getElem?_eq_getElem h, Option.getD_some, List.singleton_append]
theorem cpS_zero (m : List Sl) : cpS m 0 = List.replicate m.length sl0 := by simp [cpS]
theorem cpS_end (m : List Sl) : cpS m m.length = m := by simp [cpS]

set_option linter.unusedSimpArgs false in
set_option maxRecDepth 100000 in
set_option maxHeartbeats 1600000 in
theorem toSlotS_calls (v : Value) (m : List Sl) (w : World) (h : RdS w v m) (hn : m.length ≤ 1048576) :
    Calls Try.prog 60 #[v] w fun e w' => ∃ g, e = .returned (.slice (some ⟨g, 0, none⟩) m.length m.length) ∧ TSls (.slice (some ⟨g, 0, none⟩) m.length m.length) m w.heap.size w'.heap.size w' ∧ Below w.heap.size w w' := by
  have R := hide h
  obtain ⟨a, cap, rfl, h1, h2, h3⟩ := h
  clear h3 h2 h1
  go_enter Try.func60, Try.ntmps60
  go_wp2_with (at_make; refine wpList_make_sls rfl _ _ rfl _ _ m.length rfl rfl (by omega) (by omega) hn ?_)
  intro w0 hm0 hg0
  have M0 := hide hm0
  have G0 := hide hg0
  clear hm0 hg0
  go_wp2
  go_loopw [4] (fun vi wr => ∃ (k : Nat), k ≤ m.length ∧ vi = .int .i64 k ∧ OwnS wr w.heap.size (.slice (some ⟨w.heap.size, 0, none⟩) m.length m.length) (cpS m k) ∧ Below w.heap.size w wr) (fun vi _ => m.length - (intOf vi).toNat)
  case atStart => exact ⟨0, Nat.zero_le _, rfl, by rw [cpS_zero]; exact M0.out, (Below.refl _ _).grown G0.out (Nat.le_refl _) (fun k h => by cases h)⟩
  case round =>
    obtain ⟨k, hk, rfl, hm, hb⟩ := hrel
    have M := hide hm
    have B := hide hb
    clear hm hb M0 G0
    by_cases hlt : k < m.length
    · obtain ⟨b, off, u, ky, z, rfl, hx, _, c0, c1, c2⟩ := (R.out.below B.out).at k hlt
      have HX := hide hx
      clear hx
      have hlt' : (k : Int) < (m.length : Int) := by omega
      go_wp2_with fail
      refine (toSlot_calls u ky z _).mono ?_
      rintro e w1 ⟨rfl, hb1⟩
      have M1 : Hid (OwnS w1 w.heap.size (.slice (some ⟨w.heap.size, 0, none⟩) m.length m.length) (cpS m k)) := rowsBelow M.out hb1
      obtain ⟨⟨d0, d1, d2⟩, f0, f1, f2⟩ := M1.out.cells k (by rw [cpS_len m k hk]; exact hlt)
      have P := M1.out.put3 k (by rw [cpS_len m k hk]; exact hlt) (u, ky, z)
      have e1 : (cpS m k).set k (u, ky, z) = cpS m (k + 1) := by rw [← HX.out]; exact cpS_step m k hlt
      rw [e1] at P
      have Q4 := hide P.1
      have B1 := hide hb1
      clear hb1 P e1 M1 M
      go_wp2
      go_roundw
      case rel =>
        refine ⟨k + 1, by omega, by go_num, ?_, ?_⟩
        · simpa using Q4.out
        · exact ((((B.out.trans (B1.out.mono B.out.size)).setCell (Nat.le_refl _) _).setCell (Nat.le_refl _) _).setCell (Nat.le_refl _) _)
      case measure => simp [intOf]; omega
    · obtain rfl : k = m.length := by omega
      go_wp2
      go_ret
      have := M.out
      rw [cpS_end] at this
      exact ⟨_, rfl, ⟨this, this.top⟩, B.out⟩

set_option maxRecDepth 100000 in
set_option maxHeartbeats 800000 in
theorem szSlotS_calls (v : Value) (m : List Sl) (l : Int) (w : World) (h : RdS w v m) (hl0 : 0 ≤ l) (hl : l ≤ 1048576) :
    Calls Try.prog 53 #[v, .int .i64 l] w fun e w' => (∃ r : Int, e = .returned (.int .i64 r) ∧ (r < 0 ∨ (0 ≤ r ∧ r ≤ 1048576 ∧ m.length ≤ 1048576))) ∧ w = w' := by
  obtain ⟨a, cap, rfl, h1, h2, h3⟩ := h
  have hm : m.length ≤ maxLen := by omega
  unfold maxLen at hm
  clear h3 h2 h1
  by_cases hn : (m.length : Int) ≤ l
  case neg =>
    have hn' : l - (m.length : Int) < 0 := by omega
    go_enter Try.func53, Try.ntmps53
    go_wp2
    go_ret
    exact ⟨⟨-1, rfl, .inl (by decide)⟩, rfl⟩
  have hn' : ¬ l - (m.length : Int) < 0 := by omega
  go_enter Try.func53, Try.ntmps53
  go_wp2
  go_ret
  exact ⟨⟨_, rfl, .inr ⟨by omega, by omega, by omega⟩⟩, rfl⟩

set_option maxRecDepth 100000 in
set_option maxHeartbeats 800000 in
theorem eqSlot_same (u : Bool) (k z : Int) (w : World) :
    Calls Try.prog 108 #[.agg #[.bool u, .int .i64 k, .int .i64 z], .agg #[.bool u, .int .i64 k, .int .i64 z]] w fun e w' => e = .returned (.bool true) ∧ Below w.heap.size w w' := by
  have A0 := hide (Hand.twoN w #[.bool u, .int .i64 k, .int .i64 z] #[.bool u, .int .i64 k, .int .i64 z] 81 81)
  go_enter Try.func108, Try.ntmps108
  go_wp2
  go_ret
  exact ⟨rfl, A0.out.below⟩

set_option maxRecDepth 100000 in
set_option maxHeartbeats 1600000 in
theorem eqSlotS_same (v1 v2 : Value) (m : List Sl) (w : World) (h1 : RdS w v1 m) (h2 : RdS w v2 m) :
    Calls Try.prog 65 #[v1, v2] w fun e w' => e = .returned (.bool true) ∧ Below w.heap.size w w' := by
  have R1 := hide h1
  have R2 := hide h2
  obtain ⟨a1, k1, rfl, _, m1, _⟩ := h1
  obtain ⟨a2, k2, rfl, _, _, _⟩ := h2
  have hm : m.length ≤ maxLen := by omega
  unfold maxLen at hm
  clear m1
  go_enter Try.func65, Try.ntmps65
  go_wp2
  go_loopw [5] (fun vi wr => ∃ (k : Nat), k ≤ m.length ∧ vi = .int .i64 k ∧ Below w.heap.size w wr) (fun vi _ => m.length - (intOf vi).toNat)
  case atStart => exact ⟨0, Nat.zero_le _, rfl, Below.refl _ _⟩
  case round =>
    obtain ⟨k, hk, rfl, hb⟩ := hrel
    have B := hide hb
    clear hb
    by_cases hlt : k < m.length
    · obtain ⟨b, off, u, ky, z, rfl, hx, _, c0, c1, c2⟩ := (R1.out.below B.out).at k hlt
      obtain ⟨b', off', u', ky', z', rfl, hx', _, d0, d1, d2⟩ := (R2.out.below B.out).at k hlt
      rw [hx] at hx'
      obtain ⟨rfl, rfl, rfl⟩ : u = u' ∧ ky = ky' ∧ z = z' := by simpa using hx'
      have hlt' : (k : Int) < (m.length : Int) := by omega
      have F : Hid (∀ w', Below wr.heap.size wr w' → (w'.cell? ⟨b, off + k * 3, none⟩ = some (.bool u) ∧ w'.cell? ⟨b, off + k * 3 + 1, none⟩ = some (.int .i64 ky) ∧ w'.cell? ⟨b, off + k * 3 + 2, none⟩ = some (.int .i64 z)) ∧ (w'.cell? ⟨b', off' + k * 3, none⟩ = some (.bool u) ∧ w'.cell? ⟨b', off' + k * 3 + 1, none⟩ = some (.int .i64 ky) ∧ w'.cell? ⟨b', off' + k * 3 + 2, none⟩ = some (.int .i64 z))) := by
        intro w' hb
        exact ⟨⟨cell_below c0 hb, cell_below c1 hb, cell_below c2 hb⟩, cell_below d0 hb, cell_below d1 hb, cell_below d2 hb⟩
      clear hx hx' c0 c1 c2 d0 d1 d2
      go_wp2
      go_region_held3 (fun w' => (w'.cell? ⟨b, off + k * 3, none⟩ = some (.bool u) ∧ w'.cell? ⟨b, off + k * 3 + 1, none⟩ = some (.int .i64 ky) ∧ w'.cell? ⟨b, off + k * 3 + 2, none⟩ = some (.int .i64 z)) ∧ (w'.cell? ⟨b', off' + k * 3, none⟩ = some (.bool u) ∧ w'.cell? ⟨b', off' + k * 3 + 1, none⟩ = some (.int .i64 ky) ∧ w'.cell? ⟨b', off' + k * 3 + 2, none⟩ = some (.int .i64 z))) (first | exact F.out _ (Below.refl _ _).drew | exact F.out _ B1.out)
        ((go_at_call 108; refine (eqSlot_same u ky z _).mono ?_; rintro e' wr7 ⟨rfl, b7⟩; have B1 := hide ((Below.refl wr.heap.size wr).drew.trans b7); clear b7))
      go_wp2
      go_roundw
      case rel => exact ⟨k + 1, by omega, by go_num, B.out.trans (B1.out.mono B.out.size)⟩
      case measure => simp [intOf]; omega
    · obtain rfl : k = m.length := by omega
      go_wp2
      go_ret
      exact ⟨rfl, B.out⟩

/-- The mark of a slot. -/
def mkSl (k : Int) : Sl := ((k % 3 == 0), k + 1, k + 1 + 1)
def mkS (k : Int) (n : Nat) : List Sl := (List.range n).map fun i : Nat => mkSl (k + 3 * (i : Int))
theorem mkS_len (k : Int) (n : Nat) : (mkS k n).length = n := by simp [mkS]
theorem mkS_get (k : Int) (n i : Nat) (h : i < n) : (mkS k n).getD i sl0 = mkSl (k + 3 * i) := by simp [mkS, h]
/-- What is marked so far. -/
def mkSTo (k : Int) (m : List Sl) (i : Nat) : List Sl := mkS k i ++ m.drop i
theorem mkSTo_len (k : Int) (m : List Sl) (i : Nat) (h : i ≤ m.length) : (mkSTo k m i).length = m.length := by simp [mkSTo, mkS]; omega
theorem mkSTo_step (k : Int) (m : List Sl) (i : Nat) (h : i < m.length) : (mkSTo k m i).set i (mkSl (k + 3 * i)) = mkSTo k m (i + 1) := by
  unfold mkSTo
  rw [List.set_append_right _ _ (by simp [mkS]), mkS_len, Nat.sub_self, List.drop_eq_getElem_cons h, List.set_cons_zero]
  simp [mkS, List.range_succ]
theorem mkSTo_end (k : Int) (m : List Sl) : mkSTo k m m.length = mkS k m.length := by simp [mkSTo]

set_option linter.unusedSimpArgs false in
set_option maxRecDepth 100000 in
set_option maxHeartbeats 1600000 in
theorem markSlotS_calls (v : Value) (k : Int) (m : List Sl) (base : Nat) (w : World) (h : OwnS w base v m) (hz : m.length ≤ 1048576) (hk0 : 0 ≤ k) (hk : k ≤ 1099511627) :
    Calls Try.prog 66 #[v, .int .i64 k] w fun e w' => e = .returned (.int .i64 (k + 3 * m.length)) ∧ OwnS w' base v (mkS k m.length) ∧ w.grownBy w' v.ownBlock := by
  by_cases h0 : m = []
  · subst h0
    have H := hide h
    obtain ⟨a, cap, rfl⟩ := h.slice
    clear h
    go_enter Try.func66, Try.ntmps66
    go_wp2
    refine wp_loop_rounds 1 ?_
    rw [rounds_succ]
    go_wp2
    go_ret
    exact ⟨by simp, H.out, World.grownBy.refl _ _⟩
  have hpos : 0 < m.length := by
    rcases Nat.eq_zero_or_pos m.length with h1 | h1
    · exact absurd (List.eq_nil_of_length_eq_zero h1) h0
    · exact h1
  obtain ⟨g, cap, rfl, hlg, hgs, hnc, hcm⟩ := h.form hpos
  have H := hide h
  clear h h0
  go_enter Try.func66, Try.ntmps66
  go_wp2
  go_loopw [1, 5] (fun vk vi wr => ∃ (i : Nat), i ≤ m.length ∧ vi = .int .i64 i ∧ vk = .int .i64 (k + 3 * i) ∧ OwnS wr base (.slice (some ⟨g, 0, none⟩) m.length cap) (mkSTo k m i) ∧ w.grownBy wr (some g)) (fun _ vi _ => m.length - (intOf vi).toNat)
  case atStart => exact ⟨0, Nat.zero_le _, rfl, by go_num, by simpa [mkSTo, mkS] using H.out, World.grownBy.refl _ _⟩
  case round =>
    obtain ⟨i, hi', rfl, rfl, hm, hc⟩ := hrel
    have M := hide hm
    have C := hide hc
    clear hm hc H
    by_cases hlt : i < m.length
    · have hlt' : (i : Int) < (m.length : Int) := by omega
      have hlen := hide (mkSTo_len k m i hi')
      obtain ⟨⟨d0, d1, d2⟩, f0, f1, f2⟩ := M.out.cells i (by rw [hlen.out]; exact hlt)
      have P := M.out.put3 i (by rw [hlen.out]; exact hlt) (mkSl (k + 3 * i))
      rw [mkSTo_step k m i hlt] at P
      have P1 := hide P.1
      have P2 := hide (grown_tr C.out P.2)
      clear P M C
      obtain ⟨x0, hx0⟩ : ∃ x, x = ((mkSTo k m i).getD i sl0).1 := ⟨_, rfl⟩
      obtain ⟨x1, hx1⟩ : ∃ x, x = ((mkSTo k m i).getD i sl0).2.1 := ⟨_, rfl⟩
      obtain ⟨x2, hx2⟩ : ∃ x, x = ((mkSTo k m i).getD i sl0).2.2 := ⟨_, rfl⟩
      rw [← hx0] at d0
      rw [← hx1] at d1
      rw [← hx2] at d2
      clear hx0 hx1 hx2
      obtain ⟨q, hq⟩ : ∃ q, q = k + 3 * (i : Int) := ⟨_, rfl⟩
      have Q := hide hq
      have q0 : 0 ≤ q := by omega
      have q1 : q ≤ 1103000000 := by omega
      rw [← hq] at P1 P2 ⊢
      clear hq
      go_wp2
      go_roundw
      case rel =>
        refine ⟨i + 1, by omega, by go_num, ?_, P1.out, P2.out⟩
        have := Q.out
        go_num
      case measure => simp [intOf]; omega
    · obtain rfl : i = m.length := by omega
      go_wp2
      go_ret
      have := M.out
      rw [mkSTo_end] at this
      refine ⟨rfl, ?_, C.out⟩
      show World.ownsRow _ _ _ _ _ (mkS k m.length).length _
      rw [mkS_len]
      have h2 : OwnS _ _ _ _ := this
      unfold OwnS at h2
      rwa [mkS_len] at h2

set_option maxRecDepth 100000 in
set_option maxHeartbeats 1600000 in
theorem heldSlotS_calls (v : Value) (k : Int) (n : Nat) (w : World) (h : RdS w v (mkS k n)) (hz : n ≤ 1048576) (hk0 : 0 ≤ k) (hk : k ≤ 1099511627) :
    Calls Try.prog 67 #[v, .int .i64 k] w fun e w' => e = .returned (.int .i64 (k + 3 * n)) ∧ w = w' := by
  have R := hide h
  obtain ⟨a, cap, rfl, h1, h2, h3⟩ := h
  rw [mkS_len]
  clear h1 h2 h3
  go_enter Try.func67, Try.ntmps67
  go_wp2
  go_loop [1, 5] (fun vk vi => ∃ (i : Nat), i ≤ n ∧ vi = .int .i64 i ∧ vk = .int .i64 (k + 3 * i)) (fun _ vi => n - (intOf vi).toNat)
  case atStart => exact ⟨0, Nat.zero_le _, rfl, by go_num⟩
  case round =>
    obtain ⟨i, hi', rfl, rfl⟩ := hrel
    by_cases hlt : i < n
    · have hlt' : (i : Int) < (n : Int) := by omega
      obtain ⟨b, off, u, ky, z, rfl, hx, _, c0, c1, c2⟩ := R.out.at i (by rw [mkS_len]; exact hlt)
      rw [mkS_get k n i hlt] at hx
      obtain ⟨q, hq⟩ : ∃ q, q = k + 3 * (i : Int) := ⟨_, rfl⟩
      have Q := hide hq
      have q0 : 0 ≤ q := by omega
      have q1 : q ≤ 1103000000 := by omega
      rw [← hq] at hx ⊢
      unfold mkSl at hx
      obtain ⟨rfl, rfl, rfl⟩ : u = (q % 3 == 0) ∧ ky = q + 1 ∧ z = q + 1 + 1 := by
        simp only [Prod.mk.injEq] at hx
        exact ⟨hx.1.symm, hx.2.1.symm, hx.2.2.symm⟩
      clear hx hq
      go_wp2
      go_round
      case rel => exact ⟨i + 1, by omega, by go_num, by have := Q.out; go_num⟩
      case measure => simp [intOf]; omega
    · obtain rfl : i = n := by omega
      go_wp2
      go_ret
      exact ⟨rfl, rfl⟩
end Go.Proofs.Ytehjfjplajimfaa

/-
  Held rooms as values (slices of a call of its own: two whole numbers each), and what the laws do with them: copy, measure, compare, mark, look for the marks. Each contract says what it asks.
-/
import Derived.Test.YtjffjoednmlkiaaPlayRoomsB8
import Derived.Test.YtjffjoednmlkiaaPlayRoomsB9
import Derived.Laws.StructEq
namespace Go.Proofs.Ytjffjoednmlkiaa
open Go.RowKit
set_option linter.unusedVariables false

/-- A room that somebody holds: its place, its order. -/
abbrev Hl := Int × Int
def hl0 : Hl := (0, 0)
/-- The cells of held rooms. -/
def hlC : List Hl → List Value
  | [] => []
  | s :: xs => .int .i64 s.1 :: .int .i64 s.2 :: hlC xs
theorem hlC_len : ∀ (xs : List Hl), (hlC xs).length = xs.length * 2
  | [] => rfl
  | s :: xs => by simp [hlC, hlC_len xs]; omega
theorem hlC_0 : ∀ (xs : List Hl) (i : Nat), i < xs.length → (hlC xs)[i * 2]? = some (.int .i64 (xs.getD i hl0).1)
  | [], i, h => by simp at h
  | s :: xs, 0, h => by simp [hlC]
  | s :: xs, i + 1, h => by
    have := hlC_0 xs i (by simpa using h)
    rw [show (i + 1) * 2 = i * 2 + 1 + 1 from by omega]
    simpa [hlC] using this
theorem hlC_1 : ∀ (xs : List Hl) (i : Nat), i < xs.length → (hlC xs)[i * 2 + 1]? = some (.int .i64 (xs.getD i hl0).2)
  | [], i, h => by simp at h
  | s :: xs, 0, h => by simp [hlC]
  | s :: xs, i + 1, h => by
    have := hlC_1 xs i (by simpa using h)
    rw [show (i + 1) * 2 + 1 = i * 2 + 1 + 1 + 1 from by omega]
    simpa [hlC] using this
theorem hlC_set0 : ∀ (xs : List Hl) (i : Nat) (z : Int), i < xs.length → (hlC xs).set (i * 2) (.int .i64 z) = hlC (xs.set i (z, (xs.getD i hl0).2))
  | [], i, z, h => by simp at h
  | s :: xs, 0, z, h => by simp [hlC]
  | s :: xs, i + 1, z, h => by
    have := hlC_set0 xs i z (by simpa using h)
    rw [show (i + 1) * 2 = i * 2 + 1 + 1 from by omega]
    simpa [hlC] using this
theorem hlC_set1 : ∀ (xs : List Hl) (i : Nat) (z : Int), i < xs.length → (hlC xs).set (i * 2 + 1) (.int .i64 z) = hlC (xs.set i ((xs.getD i hl0).1, z))
  | [], i, z, h => by simp at h
  | s :: xs, 0, z, h => by simp [hlC]
  | s :: xs, i + 1, z, h => by
    have := hlC_set1 xs i z (by simpa using h)
    rw [show (i + 1) * 2 + 1 = i * 2 + 1 + 1 + 1 from by omega]
    simpa [hlC] using this
theorem hlC_app : ∀ (xs ys : List Hl), hlC (xs ++ ys) = hlC xs ++ hlC ys
  | [], ys => rfl
  | s :: xs, ys => by simp [hlC, hlC_app xs ys]
theorem hlC_one : ∀ (xs : List Hl), ∀ u ∈ hlC xs, u.oneCell' = true
  | [], u, h => by simp [hlC] at h
  | s :: xs, u, h => by
    simp only [hlC, List.mem_cons] at h
    rcases h with rfl | rfl | h
    · rfl
    · rfl
    · exact hlC_one xs u h

/-- The value v is a slice that reads as these held rooms. -/
def RdH (w : World) (v : Value) (xs : List Hl) : Prop :=
  ∃ a cap, v = .slice a xs.length cap ∧ xs.length ≤ cap ∧ (cap ≤ maxLen ∧ (a = none → cap = 0)) ∧
    (xs = [] ∨ ∃ b off, a = some ⟨b, off, none⟩ ∧ b < w.heap.size ∧ ∀ i, i < xs.length →
      w.cell? ⟨b, off + i * 2, none⟩ = some (.int .i64 (xs.getD i hl0).1) ∧ w.cell? ⟨b, off + i * 2 + 1, none⟩ = some (.int .i64 (xs.getD i hl0).2))
/-- The value v is a slice of the call's own that reads as these held rooms. -/
abbrev OwnH (w : World) (base : Nat) (v : Value) (xs : List Hl) : Prop := w.ownsRow base 136 2 v xs.length (hlC xs)
theorem RdH.below {w w' : World} {v : Value} {xs : List Hl} (h : RdH w v xs) (hb : Below w.heap.size w w') : RdH w' v xs := by
  obtain ⟨a, cap, rfl, h1, h2, h3⟩ := h
  refine ⟨a, cap, rfl, h1, h2, ?_⟩
  rcases h3 with h3 | ⟨b, off, rfl, hlt, hc⟩
  · exact .inl h3
  · refine .inr ⟨b, off, rfl, Nat.lt_of_lt_of_le hlt hb.size, fun i hi => ?_⟩
    obtain ⟨c0, c1⟩ := hc i hi
    refine ⟨?_, ?_⟩
    · rw [hb.cell hlt]; exact c0
    · rw [hb.cell hlt]; exact c1
theorem RdH.at {w : World} {a : Option Addr} {n cap : Nat} {xs : List Hl} (h : RdH w (.slice a n cap) xs) (i : Nat) (hi : i < xs.length) :
    ∃ b off k z, a = some ⟨b, off, none⟩ ∧ xs.getD i hl0 = (k, z) ∧ b < w.heap.size ∧ w.cell? ⟨b, off + i * 2, none⟩ = some (.int .i64 k) ∧ w.cell? ⟨b, off + i * 2 + 1, none⟩ = some (.int .i64 z) := by
  obtain ⟨a', cap', e, h1, h2, h3⟩ := h
  simp only [Value.slice.injEq] at e
  obtain ⟨rfl, _, rfl⟩ := e
  rcases h3 with rfl | ⟨b, off, rfl, hlt, hc⟩
  · simp at hi
  · obtain ⟨c0, c1⟩ := hc i hi
    exact ⟨b, off, _, _, rfl, rfl, hlt, c0, c1⟩
theorem RdH.sl {w : World} {v : Value} {xs : List Hl} (h : RdH w v xs) : ∃ a cap, v = .slice a xs.length cap ∧ xs.length ≤ cap ∧ cap ≤ maxLen := by
  obtain ⟨a, cap, rfl, h1, h2, h3⟩ := h
  exact ⟨a, cap, rfl, h1, h2.1⟩
theorem rdH_nil (w : World) : RdH w (.slice none 0 0) [] := ⟨none, 0, rfl, Nat.le_refl _, ⟨Nat.zero_le _, fun _ => rfl⟩, .inl rfl⟩
theorem OwnH.rd {w : World} {base : Nat} {v : Value} {xs : List Hl} (h : OwnH w base v xs) : RdH w v xs := by
  rcases h.2 with ⟨rfl, hn⟩ | ⟨g, cap, cur, rfl, hb, hg, hc, hm, hs, ht⟩
  · have : xs = [] := List.eq_nil_of_length_eq_zero hn
    subst this
    exact rdH_nil w
  · refine ⟨_, cap, rfl, hc, ⟨hm, fun h => by cases h⟩, .inr ⟨g, 0, rfl, (Array.getElem?_eq_some_iff.1 hg).1, fun i hi => ⟨?_, ?_⟩⟩⟩
    · rw [Nat.zero_add, World.ownsRow.cellAt h (i * 2) (by omega)]
      exact hlC_0 xs i hi
    · rw [Nat.zero_add, World.ownsRow.cellAt h (i * 2 + 1) (by omega)]
      exact hlC_1 xs i hi
theorem OwnH.slice {w : World} {base : Nat} {v : Value} {xs : List Hl} (h : OwnH w base v xs) : ∃ a cap, v = .slice a xs.length cap := by
  obtain ⟨a, cap, e, _⟩ := h.rd.sl
  exact ⟨a, cap, e⟩
theorem OwnH.form {w : World} {base : Nat} {v : Value} {xs : List Hl} (h : OwnH w base v xs) (h0 : 0 < xs.length) : ∃ g cap, v = .slice (some ⟨g, 0, none⟩) xs.length cap ∧ base ≤ g ∧ g < w.heap.size ∧ xs.length ≤ cap ∧ cap ≤ maxLen := by
  rcases h.2 with ⟨_, h'⟩ | ⟨g, cap, cur, rfl, hb, hg, hc, hm, _⟩
  · omega
  · exact ⟨g, cap, rfl, hb, (Array.getElem?_eq_some_iff.1 hg).1, hc, hm⟩
theorem OwnH.lenEq {w : World} {base g n cap : Nat} {xs : List Hl} (h : OwnH w base (.slice (some ⟨g, 0, none⟩) n cap) xs) : n = xs.length := by
  rcases h.2 with ⟨h', _⟩ | ⟨g', cap', cur, h', _⟩
  · simp at h'
  · simp at h'; exact h'.2.1
theorem OwnH.top {w : World} {base : Nat} {v : Value} {xs : List Hl} (h : OwnH w base v xs) : ∀ k, v.ownBlock = some k → k < w.heap.size := fun k hk => (World.ownsRow.lt h k hk).2
theorem OwnH.low {w : World} {base : Nat} {v : Value} {xs : List Hl} (h : OwnH w base v xs) : ∀ k, v.ownBlock = some k → base ≤ k := fun k hk => (World.ownsRow.lt h k hk).1
/-- What a held room's cells are, and that they may be written. -/
theorem OwnH.cells {w : World} {base g n cap : Nat} {xs : List Hl} (h : OwnH w base (.slice (some ⟨g, 0, none⟩) n cap) xs) (i : Nat) (hi : i < xs.length) :
    (w.cell? ⟨g, i * 2, none⟩ = some (.int .i64 (xs.getD i hl0).1) ∧ w.cell? ⟨g, i * 2 + 1, none⟩ = some (.int .i64 (xs.getD i hl0).2)) ∧
      w.frozen? ⟨g, i * 2, none⟩ = false ∧ w.frozen? ⟨g, i * 2 + 1, none⟩ = false := by
  obtain rfl := h.lenEq
  refine ⟨⟨?_, ?_⟩, World.ownsRow.frozenAt h _, World.ownsRow.frozenAt h _⟩
  · rw [World.ownsRow.cellAt h (i * 2) (by omega)]; exact hlC_0 xs i hi
  · rw [World.ownsRow.cellAt h (i * 2 + 1) (by omega)]; exact hlC_1 xs i hi
theorem OwnH.put0 {w : World} {base g n cap : Nat} {xs : List Hl} (h : OwnH w base (.slice (some ⟨g, 0, none⟩) n cap) xs) (i : Nat) (hi : i < xs.length) (z : Int) :
    OwnH (w.setCell ⟨g, i * 2, none⟩ (.int .i64 z)) base (.slice (some ⟨g, 0, none⟩) n cap) (xs.set i (z, (xs.getD i hl0).2)) ∧ w.grownBy (w.setCell ⟨g, i * 2, none⟩ (.int .i64 z)) (some g) := by
  obtain rfl := h.lenEq
  have st := World.ownsRow.stored h (i * 2) (.int .i64 z)
  rw [hlC_set0 xs i z hi] at st
  exact ⟨by unfold OwnH; rw [List.length_set]; exact st.1, st.2⟩
theorem OwnH.put1 {w : World} {base g n cap : Nat} {xs : List Hl} (h : OwnH w base (.slice (some ⟨g, 0, none⟩) n cap) xs) (i : Nat) (hi : i < xs.length) (z : Int) :
    OwnH (w.setCell ⟨g, i * 2 + 1, none⟩ (.int .i64 z)) base (.slice (some ⟨g, 0, none⟩) n cap) (xs.set i ((xs.getD i hl0).1, z)) ∧ w.grownBy (w.setCell ⟨g, i * 2 + 1, none⟩ (.int .i64 z)) (some g) := by
  obtain rfl := h.lenEq
  have st := World.ownsRow.stored h (i * 2 + 1) (.int .i64 z)
  rw [hlC_set1 xs i z hi] at st
  exact ⟨by unfold OwnH; rw [List.length_set]; exact st.1, st.2⟩
/-- A whole held room is written. -/
theorem OwnH.put2 {w : World} {base g n cap : Nat} {xs : List Hl} (h : OwnH w base (.slice (some ⟨g, 0, none⟩) n cap) xs) (i : Nat) (hi : i < xs.length) (s : Hl) :
    OwnH ((w.setCell ⟨g, i * 2, none⟩ (.int .i64 s.1)).setCell ⟨g, i * 2 + 1, none⟩ (.int .i64 s.2)) base (.slice (some ⟨g, 0, none⟩) n cap) (xs.set i s) ∧
      w.grownBy ((w.setCell ⟨g, i * 2, none⟩ (.int .i64 s.1)).setCell ⟨g, i * 2 + 1, none⟩ (.int .i64 s.2)) (some g) := by
  obtain ⟨o1, g1⟩ := h.put0 i hi s.1
  obtain ⟨o2, g2⟩ := o1.put1 i (by simpa using hi) s.2
  rw [List.set_set, getD_set _ _ _ _ _ hi, if_pos rfl] at o2
  exact ⟨o2, grown_tr g1 g2⟩
/-- Held rooms of the call's own, as a thing to hold. -/
def THls (v : Value) (xs : List Hl) : Tg := fun lo hi w => OwnH w lo v xs ∧ ∀ k, v.ownBlock = some k → k < hi
theorem THls.st (v : Value) (xs : List Hl) : (THls v xs).st := fun lo hi a b w w' h hc hd => ⟨rowsChg h.1 h.2 hc hd, h.2⟩
theorem Hand.wideH {W w : World} {L : List Tg} {v : Value} {xs : List Hl} (A : Hand W w L) (i : Nat) (hi : L[i]? = some (THls v xs)) : OwnH w W.heap.size v xs := by
  obtain ⟨lo, hi', ⟨h, _⟩, hlo, _⟩ := A.open i hi
  exact rowsMono h hlo
theorem infoHl : (Try.prog.info? 136).map (fun i => (i.zero, i.size, i.bytes)) = some (some (.agg #[.int .i64 0, .int .i64 0]), 2, 16) := by kernel_rfl
theorem hlInfo : (Try.prog.info? 136).map (·.size) = some 2 := by kernel_rfl
theorem res_hl {fn : Func} {x : Tmp} (hf : fn.results = #[.cell x 136]) (tmps : Array Value) (w : World) (g : Nat) (a b : Value) (fr : Nat × Nat) (hp : tmps.getD x undef = .pointer (some ⟨g, 0, none⟩))
    (hg : w.heap[g]? = some (.cells #[a, b] 136 fr)) : (results fn tmps).run Try.prog w = .ok (.agg #[a, b]) w :=
  results_cell_row hf tmps w g _ _ fr _ hp hg Try.underlying136 rfl hlInfo

set_option linter.unusedSimpArgs false in
set_option maxRecDepth 100000 in
set_option maxHeartbeats 1600000 in
theorem toHeld_calls (k z : Int) (w : World) :
    Calls Try.prog 114 #[.agg #[.int .i64 k, .int .i64 z]] w fun e w' => e = .returned (.agg #[.int .i64 k, .int .i64 z]) ∧ Below w.heap.size w w' := by
  have A0 := hide (Hand.threeN w #[.int .i64 k, .int .i64 z] #[.int .i64 k, .int .i64 z] #[.int .i64 k, .int .i64 z] 139 136 136)
  go_enter Try.func114, Try.ntmps114
  go_wp2
  exact bodyPost_ret (res_hl rfl _ _ (w.heap.size + 1) _ _ (0, 0) rfl (A0.out.atBox 1 rfl)) rfl ⟨rfl, A0.out.below⟩

/-- 'make([]Held, n)'. -/
theorem wpList_make_hls {w : World} {ops : Array Oper} {rest : List Oper} {o : Oper} {a : Act} {Q : Exit → Act → World → Prop} (hg : o.guard = none) (l c : Operand) (hop : o.op = Op.makeSlice 27 l c)
    (L C : Int) (n : Nat) (hl : a.eval l = .int .i64 L) (hc : a.eval c = .int .i64 C) (hL : L = (n : Int)) (hC : C = (n : Int)) (hn : n ≤ 1048576)
    (h : ∀ w', OwnH w' w.heap.size (.slice (some ⟨w.heap.size, 0, none⟩) n n) (List.replicate n hl0) → w.grownBy w' none → wpList Try.prog ops Q rest (a.put o.dst (.slice (some ⟨w.heap.size, 0, none⟩) n n)) w') : wpList Try.prog ops Q (o :: rest) a w := by
  obtain ⟨i0, hi, hz0, hz1, hz2⟩ := info_parts infoHl
  refine wpList_make_full w hg l c _ hop w.heap.size 136 i0 (.agg #[.int .i64 0, .int .i64 0]) 2 Try.underlying27 hi hz0 hz1 _ _ L C n hl hc hL hC (by rw [hz2]; omega) (by unfold maxLen; omega) (Nat.le_refl _) ?_
  intro w' ho hg'
  have e : (madeCells (Value.agg #[.int .i64 0, .int .i64 0]).cells (n * 2)).toList = hlC (List.replicate n hl0) := by
    refine List.ext_getElem? fun j => ?_
    have hlen := hlC_len (List.replicate n hl0)
    rw [List.length_replicate] at hlen
    by_cases hj : j < n * 2
    · have e2 : (Value.agg #[.int .i64 0, .int .i64 0]).cells.size = 2 := rfl
      rw [Array.getElem?_toList]
      simp only [madeCells, Array.getElem?_map, e2, Array.getElem?_range, if_pos hj, Option.map_some]
      have h3 : j % 2 = 0 ∨ j % 2 = 1 := by omega
      rcases h3 with h0 | h0
      · obtain ⟨i, rfl⟩ : ∃ i, j = i * 2 := ⟨j / 2, by omega⟩
        rw [hlC_0 _ i (by simp; omega), h0]
        simp [List.getD_eq_getElem?_getD, show i < n from by omega]
        rfl
      · obtain ⟨i, rfl⟩ : ∃ i, j = i * 2 + 1 := ⟨j / 2, by omega⟩
        rw [hlC_1 _ i (by simp; omega), h0]
        simp [List.getD_eq_getElem?_getD, show i < n from by omega]
        rfl
    · rw [List.getElem?_eq_none (by simp [madeCells]; omega), List.getElem?_eq_none (by omega)]
  rw [e] at ho
  exact h w' (by unfold OwnH; rw [List.length_replicate]; exact ho) hg'

/-- What is copied so far. -/
def cpH (m : List Hl) (k : Nat) : List Hl := m.take k ++ List.replicate (m.length - k) hl0
theorem cpH_len (m : List Hl) (k : Nat) (h : k ≤ m.length) : (cpH m k).length = m.length := by simp [cpH]; omega
theorem cpH_step (m : List Hl) (k : Nat) (h : k < m.length) : (cpH m k).set k (m.getD k hl0) = cpH m (k + 1) := by
  have e1 : (m.take k).length = k := by simp; omega
  unfold cpH
  rw [List.set_append_right _ _ (by omega), e1, Nat.sub_self]
  obtain ⟨n, hn⟩ : ∃ n, m.length - k = n + 1 := ⟨m.length - k - 1, by omega⟩
  have hn2 : m.length - (k + 1) = n := by omega
  rw [hn, hn2, List.replicate_succ, List.set_cons_zero, List.take_succ_eq_append_getElem h, List.append_assoc]
  simp only [List.getD_eq_getElem?_getD, List.getElem?_eq_getElem h, Option.getD_some, List.singleton_append]
theorem cpH_zero (m : List Hl) : cpH m 0 = List.replicate m.length hl0 := by simp [cpH]
theorem cpH_end (m : List Hl) : cpH m m.length = m := by simp [cpH]

set_option linter.unusedSimpArgs false in
set_option maxRecDepth 100000 in
set_option maxHeartbeats 1600000 in
theorem toHeldS_calls (v : Value) (m : List Hl) (w : World) (h : RdH w v m) (hn : m.length ≤ 1048576) :
    Calls Try.prog 56 #[v] w fun e w' => ∃ g, e = .returned (.slice (some ⟨g, 0, none⟩) m.length m.length) ∧ THls (.slice (some ⟨g, 0, none⟩) m.length m.length) m w.heap.size w'.heap.size w' ∧ Below w.heap.size w w' := by
  have R := hide h
  obtain ⟨a, cap, rfl, h1, h2, h3⟩ := h
  clear h3 h2 h1
  go_enter Try.func56, Try.ntmps56
  go_wp2_with (at_make; refine wpList_make_hls rfl _ _ rfl _ _ m.length rfl rfl (by omega) (by omega) hn ?_)
  intro w0 hm0 hg0
  have M0 := hide hm0
  have G0 := hide hg0
  clear hm0 hg0
  go_wp2
  go_loopw [4] (fun vi wr => ∃ (k : Nat), k ≤ m.length ∧ vi = .int .i64 k ∧ OwnH wr w.heap.size (.slice (some ⟨w.heap.size, 0, none⟩) m.length m.length) (cpH m k) ∧ Below w.heap.size w wr) (fun vi _ => m.length - (intOf vi).toNat)
  case atStart => exact ⟨0, Nat.zero_le _, rfl, by rw [cpH_zero]; exact M0.out, (Below.refl _ _).grown G0.out (Nat.le_refl _) (fun k h => by cases h)⟩
  case round =>
    obtain ⟨k, hk, rfl, hm, hb⟩ := hrel
    have M := hide hm
    have B := hide hb
    clear hm hb M0 G0
    by_cases hlt : k < m.length
    · obtain ⟨b, off, ky, z, rfl, hx, _, c0, c1⟩ := (R.out.below B.out).at k hlt
      have HX := hide hx
      clear hx
      have hlt' : (k : Int) < (m.length : Int) := by omega
      go_wp2_with fail
      refine (toHeld_calls ky z _).mono ?_
      rintro e w1 ⟨rfl, hb1⟩
      have M1 : Hid (OwnH w1 w.heap.size (.slice (some ⟨w.heap.size, 0, none⟩) m.length m.length) (cpH m k)) := rowsBelow M.out hb1
      obtain ⟨⟨d0, d1⟩, f0, f1⟩ := M1.out.cells k (by rw [cpH_len m k hk]; exact hlt)
      have P := M1.out.put2 k (by rw [cpH_len m k hk]; exact hlt) (ky, z)
      have e1 : (cpH m k).set k (ky, z) = cpH m (k + 1) := by rw [← HX.out]; exact cpH_step m k hlt
      rw [e1] at P
      have Q4 := hide P.1
      have B1 := hide hb1
      clear hb1 P e1 M1 M
      go_wp2
      go_roundw
      case rel =>
        refine ⟨k + 1, by omega, by go_num, ?_, ?_⟩
        · simpa using Q4.out
        · exact (((B.out.trans (B1.out.mono B.out.size)).setCell (Nat.le_refl _) _).setCell (Nat.le_refl _) _)
      case measure => simp [intOf]; omega
    · obtain rfl : k = m.length := by omega
      go_wp2
      go_ret
      have := M.out
      rw [cpH_end] at this
      exact ⟨_, rfl, ⟨this, this.top⟩, B.out⟩

set_option maxRecDepth 100000 in
set_option maxHeartbeats 800000 in
theorem szHeldS_calls (v : Value) (m : List Hl) (l : Int) (w : World) (h : RdH w v m) (hl0 : 0 ≤ l) (hl : l ≤ 1048576) :
    Calls Try.prog 51 #[v, .int .i64 l] w fun e w' => (∃ r : Int, e = .returned (.int .i64 r) ∧ (r < 0 ∨ (0 ≤ r ∧ r ≤ 1048576 ∧ m.length ≤ 1048576))) ∧ w = w' := by
  obtain ⟨a, cap, rfl, h1, h2, h3⟩ := h
  have hm : m.length ≤ maxLen := by omega
  unfold maxLen at hm
  clear h3 h2 h1
  by_cases hn : (m.length : Int) ≤ l
  case neg =>
    have hn' : l - (m.length : Int) < 0 := by omega
    go_enter Try.func51, Try.ntmps51
    go_wp2
    go_ret
    exact ⟨⟨-1, rfl, .inl (by decide)⟩, rfl⟩
  have hn' : ¬ l - (m.length : Int) < 0 := by omega
  go_enter Try.func51, Try.ntmps51
  go_wp2
  go_ret
  exact ⟨⟨_, rfl, .inr ⟨by omega, by omega, by omega⟩⟩, rfl⟩

set_option maxRecDepth 100000 in
set_option maxHeartbeats 800000 in
theorem eqHeld_same (k z : Int) (w : World) :
    Calls Try.prog 120 #[.agg #[.int .i64 k, .int .i64 z], .agg #[.int .i64 k, .int .i64 z]] w fun e w' => e = .returned (.bool true) ∧ Below w.heap.size w w' := by
  have A0 := hide (Hand.twoN w #[.int .i64 k, .int .i64 z] #[.int .i64 k, .int .i64 z] 136 136)
  go_enter Try.func120, Try.ntmps120
  go_wp2
  go_ret
  exact ⟨rfl, A0.out.below⟩

set_option maxRecDepth 100000 in
set_option maxHeartbeats 1600000 in
theorem eqHeldS_same (v1 v2 : Value) (m : List Hl) (w : World) (h1 : RdH w v1 m) (h2 : RdH w v2 m) :
    Calls Try.prog 62 #[v1, v2] w fun e w' => e = .returned (.bool true) ∧ Below w.heap.size w w' := by
  have R1 := hide h1
  have R2 := hide h2
  obtain ⟨a1, k1, rfl, _, m1, _⟩ := h1
  obtain ⟨a2, k2, rfl, _, _, _⟩ := h2
  have hm : m.length ≤ maxLen := by omega
  unfold maxLen at hm
  clear m1
  go_enter Try.func62, Try.ntmps62
  go_wp2
  go_loopw [5] (fun vi wr => ∃ (k : Nat), k ≤ m.length ∧ vi = .int .i64 k ∧ Below w.heap.size w wr) (fun vi _ => m.length - (intOf vi).toNat)
  case atStart => exact ⟨0, Nat.zero_le _, rfl, Below.refl _ _⟩
  case round =>
    obtain ⟨k, hk, rfl, hb⟩ := hrel
    have B := hide hb
    clear hb
    by_cases hlt : k < m.length
    · obtain ⟨b, off, ky, z, rfl, hx, _, c0, c1⟩ := (R1.out.below B.out).at k hlt
      obtain ⟨b', off', ky', z', rfl, hx', _, d0, d1⟩ := (R2.out.below B.out).at k hlt
      rw [hx] at hx'
      obtain ⟨rfl, rfl⟩ : ky = ky' ∧ z = z' := by simpa using hx'
      have hlt' : (k : Int) < (m.length : Int) := by omega
      have F : Hid (∀ w', Below wr.heap.size wr w' → (w'.cell? ⟨b, off + k * 2, none⟩ = some (.int .i64 ky) ∧ w'.cell? ⟨b, off + k * 2 + 1, none⟩ = some (.int .i64 z)) ∧ (w'.cell? ⟨b', off' + k * 2, none⟩ = some (.int .i64 ky) ∧ w'.cell? ⟨b', off' + k * 2 + 1, none⟩ = some (.int .i64 z))) := by
        intro w' hb
        exact ⟨⟨cell_below c0 hb, cell_below c1 hb⟩, cell_below d0 hb, cell_below d1 hb⟩
      clear hx hx' c0 c1 d0 d1
      go_wp2
      go_region_held3 (fun w' => (w'.cell? ⟨b, off + k * 2, none⟩ = some (.int .i64 ky) ∧ w'.cell? ⟨b, off + k * 2 + 1, none⟩ = some (.int .i64 z)) ∧ (w'.cell? ⟨b', off' + k * 2, none⟩ = some (.int .i64 ky) ∧ w'.cell? ⟨b', off' + k * 2 + 1, none⟩ = some (.int .i64 z))) (first | exact F.out _ (Below.refl _ _).drew | exact F.out _ B1.out)
        ((go_at_call 120; refine (eqHeld_same ky z _).mono ?_; rintro e' wr7 ⟨rfl, b7⟩; have B1 := hide ((Below.refl wr.heap.size wr).drew.trans b7); clear b7))
      go_wp2
      go_roundw
      case rel => exact ⟨k + 1, by omega, by go_num, B.out.trans (B1.out.mono B.out.size)⟩
      case measure => simp [intOf]; omega
    · obtain rfl : k = m.length := by omega
      go_wp2
      go_ret
      exact ⟨rfl, B.out⟩

/-- The mark of a held room. -/
def mkHl (k : Int) : Hl := (k, k + 1)
def mkH (k : Int) (n : Nat) : List Hl := (List.range n).map fun i : Nat => mkHl (k + 2 * (i : Int))
theorem mkH_len (k : Int) (n : Nat) : (mkH k n).length = n := by simp [mkH]
theorem mkH_get (k : Int) (n i : Nat) (h : i < n) : (mkH k n).getD i hl0 = mkHl (k + 2 * i) := by simp [mkH, h]
/-- What is marked so far. -/
def mkHTo (k : Int) (m : List Hl) (i : Nat) : List Hl := mkH k i ++ m.drop i
theorem mkHTo_len (k : Int) (m : List Hl) (i : Nat) (h : i ≤ m.length) : (mkHTo k m i).length = m.length := by simp [mkHTo, mkH]; omega
theorem mkHTo_step (k : Int) (m : List Hl) (i : Nat) (h : i < m.length) : (mkHTo k m i).set i (mkHl (k + 2 * i)) = mkHTo k m (i + 1) := by
  unfold mkHTo
  rw [List.set_append_right _ _ (by simp [mkH]), mkH_len, Nat.sub_self, List.drop_eq_getElem_cons h, List.set_cons_zero]
  simp [mkH, List.range_succ]
theorem mkHTo_end (k : Int) (m : List Hl) : mkHTo k m m.length = mkH k m.length := by simp [mkHTo]

set_option linter.unusedSimpArgs false in
set_option maxRecDepth 100000 in
set_option maxHeartbeats 1600000 in
theorem markHeldS_calls (v : Value) (k : Int) (m : List Hl) (base : Nat) (w : World) (h : OwnH w base v m) (hz : m.length ≤ 1048576) (hk0 : 0 ≤ k) (hk : k ≤ 1099511627) :
    Calls Try.prog 64 #[v, .int .i64 k] w fun e w' => e = .returned (.int .i64 (k + 2 * m.length)) ∧ OwnH w' base v (mkH k m.length) ∧ w.grownBy w' v.ownBlock := by
  by_cases h0 : m = []
  · subst h0
    have H := hide h
    obtain ⟨a, cap, rfl⟩ := h.slice
    clear h
    go_enter Try.func64, Try.ntmps64
    go_wp2
    refine wp_loop_rounds 1 ?_
    rw [rounds_succ]
    go_wp2
    go_ret
    exact ⟨by simp, H.out, World.grownBy.refl _ _⟩
  have hpos : 0 < m.length := by
    rcases Nat.eq_zero_or_pos m.length with h1 | h1
    · exact absurd (List.eq_nil_of_length_eq_zero h1) h0
    · exact h1
  obtain ⟨g, cap, rfl, hlg, hgs, hnc, hcm⟩ := h.form hpos
  have H := hide h
  clear h h0
  go_enter Try.func64, Try.ntmps64
  go_wp2
  go_loopw [1, 5] (fun vk vi wr => ∃ (i : Nat), i ≤ m.length ∧ vi = .int .i64 i ∧ vk = .int .i64 (k + 2 * i) ∧ OwnH wr base (.slice (some ⟨g, 0, none⟩) m.length cap) (mkHTo k m i) ∧ w.grownBy wr (some g)) (fun _ vi _ => m.length - (intOf vi).toNat)
  case atStart => exact ⟨0, Nat.zero_le _, rfl, by go_num, by simpa [mkHTo, mkH] using H.out, World.grownBy.refl _ _⟩
  case round =>
    obtain ⟨i, hi', rfl, rfl, hm, hc⟩ := hrel
    have M := hide hm
    have C := hide hc
    clear hm hc H
    by_cases hlt : i < m.length
    · have hlt' : (i : Int) < (m.length : Int) := by omega
      have hlen := hide (mkHTo_len k m i hi')
      obtain ⟨⟨d0, d1⟩, f0, f1⟩ := M.out.cells i (by rw [hlen.out]; exact hlt)
      have P := M.out.put2 i (by rw [hlen.out]; exact hlt) (mkHl (k + 2 * i))
      rw [mkHTo_step k m i hlt] at P
      have P1 := hide P.1
      have P2 := hide (grown_tr C.out P.2)
      clear P M C
      obtain ⟨x0, hx0⟩ : ∃ x, x = ((mkHTo k m i).getD i hl0).1 := ⟨_, rfl⟩
      obtain ⟨x1, hx1⟩ : ∃ x, x = ((mkHTo k m i).getD i hl0).2 := ⟨_, rfl⟩
      rw [← hx0] at d0
      rw [← hx1] at d1
      clear hx0 hx1
      obtain ⟨q, hq⟩ : ∃ q, q = k + 2 * (i : Int) := ⟨_, rfl⟩
      have Q := hide hq
      have q0 : 0 ≤ q := by omega
      have q1 : q ≤ 1103000000 := by omega
      rw [← hq] at P1 P2 ⊢
      clear hq
      go_wp2
      go_roundw
      case rel =>
        refine ⟨i + 1, by omega, by go_num, ?_, P1.out, P2.out⟩
        have := Q.out
        go_num
      case measure => simp [intOf]; omega
    · obtain rfl : i = m.length := by omega
      go_wp2
      go_ret
      have := M.out
      rw [mkHTo_end] at this
      refine ⟨rfl, ?_, C.out⟩
      show World.ownsRow _ _ _ _ _ (mkH k m.length).length _
      rw [mkH_len]
      have h2 : OwnH _ _ _ _ := this
      unfold OwnH at h2
      rwa [mkH_len] at h2

set_option maxRecDepth 100000 in
set_option maxHeartbeats 1600000 in
theorem heldHeldS_calls (v : Value) (k : Int) (n : Nat) (w : World) (h : RdH w v (mkH k n)) (hz : n ≤ 1048576) (hk0 : 0 ≤ k) (hk : k ≤ 1099511627) :
    Calls Try.prog 66 #[v, .int .i64 k] w fun e w' => e = .returned (.int .i64 (k + 2 * n)) ∧ w = w' := by
  have R := hide h
  obtain ⟨a, cap, rfl, h1, h2, h3⟩ := h
  rw [mkH_len]
  clear h1 h2 h3
  go_enter Try.func66, Try.ntmps66
  go_wp2
  go_loop [1, 5] (fun vk vi => ∃ (i : Nat), i ≤ n ∧ vi = .int .i64 i ∧ vk = .int .i64 (k + 2 * i)) (fun _ vi => n - (intOf vi).toNat)
  case atStart => exact ⟨0, Nat.zero_le _, rfl, by go_num⟩
  case round =>
    obtain ⟨i, hi', rfl, rfl⟩ := hrel
    by_cases hlt : i < n
    · have hlt' : (i : Int) < (n : Int) := by omega
      obtain ⟨b, off, ky, z, rfl, hx, _, c0, c1⟩ := R.out.at i (by rw [mkH_len]; exact hlt)
      rw [mkH_get k n i hlt] at hx
      obtain ⟨q, hq⟩ : ∃ q, q = k + 2 * (i : Int) := ⟨_, rfl⟩
      have Q := hide hq
      have q0 : 0 ≤ q := by omega
      have q1 : q ≤ 1103000000 := by omega
      rw [← hq] at hx ⊢
      unfold mkHl at hx
      obtain ⟨rfl, rfl⟩ : ky = q ∧ z = q + 1 := by
        simp only [Prod.mk.injEq] at hx
        exact ⟨hx.1.symm, hx.2.symm⟩
      clear hx hq
      go_wp2
      go_round
      case rel => exact ⟨i + 1, by omega, by go_num, by have := Q.out; go_num⟩
      case measure => simp [intOf]; omega
    · obtain rfl : i = n := by omega
      go_wp2
      go_ret
      exact ⟨rfl, rfl⟩
end Go.Proofs.Ytjffjoednmlkiaa

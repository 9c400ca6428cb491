/-
  Slices of Booleans: what is read, what is owned, and what the laws' own small functions do with them (copy, compare, measure, mark, look whether the marks are held), call by call. Each contract says what it asks.
-/
import Derived.Test.YtpgmocogffolaaaTxm
import Derived.Test.YtpgmocogffolaaaMat
namespace Go.Proofs.Ytpgmocogffolaaa
open Go.RowKit
set_option linter.unusedVariables false

theorem infoBol : (Try.prog.info? 4).map (fun i => (i.zero, i.size, i.bytes)) = some (some (.bool false), 1, 1) := by kernel_rfl
theorem infoBolSize : (Try.prog.info? 4).map (·.size) = some 1 := by kernel_rfl
/-- The value v is a slice that reads as these Booleans, in this world. -/
def RdZ (w : World) (v : Value) (xs : List Bool) : Prop :=
  ∃ a cap, v = .slice a xs.length cap ∧ xs.length ≤ cap ∧ (cap ≤ maxLen ∧ (a = none → cap = 0)) ∧ (xs = [] ∨ ∃ b off, a = some ⟨b, off, none⟩ ∧ b < w.heap.size ∧ ∀ i, i < xs.length → w.cell? ⟨b, off + i, none⟩ = some (.bool (xs.getD i false)))
/-- The value v is a slice of the call's own (its block is base or later) that reads as these Booleans. -/
abbrev OwnZ (w : World) (base : Nat) (v : Value) (xs : List Bool) : Prop := w.ownsRow base 4 1 v xs.length (xs.map Value.bool)

theorem RdZ.below {w w' : World} {v : Value} {xs : List Bool} (h : RdZ w v xs) (hb : Below w.heap.size w w') : RdZ w' v xs := by
  obtain ⟨a, cap, rfl, h1, h2, h3⟩ := h
  refine ⟨a, cap, rfl, h1, h2, ?_⟩
  rcases h3 with h3 | ⟨b, off, rfl, hlt, hc⟩
  · exact .inl h3
  · exact .inr ⟨b, off, rfl, Nat.lt_of_lt_of_le hlt hb.size, fun i hi => (hb.cell (p := ⟨b, off + i, none⟩) hlt).trans (hc i hi)⟩
theorem OwnZ.rd {w : World} {base : Nat} {v : Value} {xs : List Bool} (h : OwnZ w base v xs) : RdZ w v xs := by
  rcases h.2 with ⟨rfl, hn⟩ | ⟨g, cap, cur, rfl, hb, hg, hc, hm, hs, ht⟩
  · have : xs = [] := List.eq_nil_of_length_eq_zero hn
    subst this
    exact ⟨none, 0, rfl, Nat.le_refl _, ⟨Nat.zero_le _, fun _ => rfl⟩, .inl rfl⟩
  · refine ⟨_, cap, rfl, hc, ⟨hm, fun h => by cases h⟩, .inr ⟨g, 0, rfl, (Array.getElem?_eq_some_iff.1 hg).1, fun i hi => ?_⟩⟩
    have := World.ownsRow.cellAt h i (by omega)
    rw [Nat.zero_add, this]
    simp [hi]
theorem rdZ_nil (w : World) : RdZ w (.slice none 0 0) [] := ⟨none, 0, rfl, Nat.le_refl _, ⟨Nat.zero_le _, fun _ => rfl⟩, .inl rfl⟩
theorem bols_oneCell (zs : List Bool) : ∀ u ∈ zs.map Value.bool, u.oneCell' = true := by
  intro u hu
  obtain ⟨b, _, rfl⟩ := List.mem_map.1 hu
  rfl
/-- 'make([]bool, n)': n times false, of the call's own, in the next block. -/
theorem wpList_make_bols {w : World} {ops : Array Oper} {rest : List Oper} {o : Oper} {a : Act} {Q : Exit → Act → World → Prop} (hg : o.guard = none) (l c : Operand) (hop : o.op = Op.makeSlice 23 l c)
    (base : Nat) (L C : Int) (n : Nat) (hl : a.eval l = .int .i64 L) (hc : a.eval c = .int .i64 C) (hL : L = (n : Int)) (hC : C = (n : Int)) (hn : n ≤ 1073741824) (hb : base ≤ w.heap.size)
    (h : ∀ w', OwnZ w' base (.slice (some ⟨w.heap.size, 0, none⟩) n n) (List.replicate n false) → w.grownBy w' none → wpList Try.prog ops Q rest (a.put o.dst (.slice (some ⟨w.heap.size, 0, none⟩) n n)) w') : wpList Try.prog ops Q (o :: rest) a w := by
  obtain ⟨i0, hi, hz0, hz1, hz2⟩ := info_parts infoBol
  refine wpList_make_full w hg l c _ hop base 4 i0 (.bool false) 1 Try.underlying23 hi hz0 hz1 _ _ L C n hl hc hL hC (by rw [hz2]; omega) (by unfold maxLen; omega) hb ?_
  intro w' ho hg'
  refine h w' ?_ hg'
  show World.ownsRow _ _ _ _ _ (List.replicate n false).length _
  rw [List.length_replicate, List.map_replicate]
  have e : (madeCells (Value.bool false).cells (n * 1)).toList = List.replicate n (Value.bool false) := by
    rw [Nat.mul_one]; exact toList_madeCells_one _ n
  rw [e] at ho
  exact ho

/-- What is copied so far. -/
def cpZ (xs : List Bool) (k : Nat) : List Bool := xs.take k ++ List.replicate (xs.length - k) false
theorem cpZ_length (xs : List Bool) (k : Nat) (h : k ≤ xs.length) : (cpZ xs k).length = xs.length := by simp [cpZ]; omega
theorem cpZ_step (xs : List Bool) (k : Nat) (h : k < xs.length) : (cpZ xs k).set k (xs.getD k false) = cpZ xs (k + 1) := by
  have e1 : (xs.take k).length = k := by simp; omega
  unfold cpZ
  rw [List.set_append_right _ _ (by omega), e1, Nat.sub_self]
  obtain ⟨m, hm⟩ : ∃ m, xs.length - k = m + 1 := ⟨xs.length - k - 1, by omega⟩
  have hm2 : xs.length - (k + 1) = m := by omega
  rw [hm, hm2, List.replicate_succ, List.set_cons_zero, List.take_succ_eq_append_getElem h, List.append_assoc]
  simp only [List.getD_eq_getElem?_getD, List.getElem?_eq_getElem h, Option.getD_some, List.singleton_append]
theorem cpZ_end (xs : List Bool) : cpZ xs xs.length = xs := by simp [cpZ]
theorem cpZ_zero (xs : List Bool) : cpZ xs 0 = List.replicate xs.length false := by simp [cpZ]

set_option maxRecDepth 100000 in
set_option maxHeartbeats 400000 in
theorem toBoolS_calls (v : Value) (xs : List Bool) (w : World) (h : RdZ w v xs) (hn : xs.length ≤ 1048576) :
    Calls Try.prog 67 #[v] w fun e w' => ∃ v', e = .returned v' ∧ OwnZ w' w.heap.size v' xs ∧ Below w.heap.size w w' := by
  obtain ⟨a, cap, rfl, h1, h2, h3⟩ := h
  have H3 := hide h3
  clear h3
  go_enter Try.func67, Try.ntmps67
  go_wp2_with (at_make; refine wpList_make_bols rfl _ _ rfl w.heap.size _ _ xs.length rfl rfl (by omega) (by omega) (by omega) (Nat.le_refl _) ?_)
  intro w0 hown0 hgrow0
  have E0 := hide hown0
  have G0 := hide hgrow0
  clear hown0 hgrow0
  go_wp2
  go_loopw [4] (fun vi wr => ∃ k : Nat, k ≤ xs.length ∧ vi = .int .i64 k ∧ wr.ownsRow w.heap.size 4 1 (.slice (some ⟨w.heap.size, 0, none⟩) xs.length xs.length) xs.length ((cpZ xs k).map Value.bool) ∧ Below w.heap.size w wr) (fun vi _ => xs.length - (intOf vi).toNat)
  case atStart =>
    refine ⟨0, Nat.zero_le _, rfl, ?_, (Below.refl _ _).grown G0.out (Nat.le_refl _) (fun k h => by cases h)⟩
    rw [cpZ_zero]
    have := E0.out
    unfold OwnZ at this
    rwa [List.length_replicate] at this
  case round =>
    obtain ⟨k, hk, rfl, hown, hb⟩ := hrel
    by_cases hlt : k < xs.length
    · rcases H3.out with h3 | ⟨b, off, rfl, hbs, hc⟩
      · subst h3; simp at hlt
      · have hc1 : wr.cell? ⟨b, off + k, none⟩ = some (.bool (xs.getD k false)) := (hb.cell (by exact hbs)).trans (hc k hlt)
        have hc2 : wr.frozen? ⟨w.heap.size, k, none⟩ = false := hown.frozenAt k
        obtain ⟨old, hc3⟩ : ∃ old, wr.cell? ⟨w.heap.size, k, none⟩ = some old := by
          rw [hown.cellAt k (by omega)]
          have := cpZ_length xs k hk
          exact ⟨_, List.getElem?_eq_getElem (by simp; omega)⟩
        have hst := hown.stored k (.bool (xs.getD k false))
        rw [← List.map_set, cpZ_step xs k hlt] at hst
        have K := hide hst
        clear hst hc
        generalize xs.getD k false = z at hc1 K
        go_wp2
        go_roundw
        case rel =>
          refine ⟨k + 1, by omega, by go_num, K.out.1, hb.setCell (Nat.le_refl _) _⟩
        case measure => simp [intOf]; omega
    · obtain rfl : k = xs.length := by omega
      go_wp2
      go_ret
      rw [cpZ_end] at hown
      exact ⟨_, rfl, hown, hb⟩

set_option maxRecDepth 100000 in
set_option maxHeartbeats 400000 in
theorem eqBoolS_same (v1 v2 : Value) (xs : List Bool) (w : World) (h1 : RdZ w v1 xs) (h2 : RdZ w v2 xs) :
    Calls Try.prog 70 #[v1, v2] w fun e w' => e = .returned (.bool true) ∧ Below w.heap.size w w' := by
  obtain ⟨a1, c1, rfl, _, m1, k1⟩ := h1
  obtain ⟨a2, c2, rfl, _, _, k2⟩ := h2
  have hm : xs.length ≤ maxLen := by omega
  unfold maxLen at hm
  have K := hide k1
  have L := hide k2
  clear k1 k2 m1
  go_enter Try.func70, Try.ntmps70
  go_wp2
  go_loopw [5] (fun vi wr => ∃ k : Nat, k ≤ xs.length ∧ vi = .int .i64 k ∧ Below w.heap.size w wr) (fun vi _ => xs.length - (intOf vi).toNat)
  case atStart => exact ⟨0, Nat.zero_le _, rfl, Below.refl _ _⟩
  case round =>
    obtain ⟨k, hk, rfl, hb⟩ := hrel
    by_cases hlt : k < xs.length
    · rcases K.out with h3 | ⟨b, off, rfl, hbs, hc⟩
      · subst h3; simp at hlt
      rcases L.out with h3 | ⟨b', off', rfl, hbs', hc'⟩
      · subst h3; simp at hlt
      have e1 : wr.cell? ⟨b, off + k, none⟩ = some (.bool (xs.getD k false)) := (hb.cell (by exact hbs)).trans (hc k hlt)
      have e2 : wr.cell? ⟨b', off' + k, none⟩ = some (.bool (xs.getD k false)) := (hb.cell (by exact hbs')).trans (hc' k hlt)
      have hlt' : (k : Int) < (xs.length : Int) := by omega
      clear hc hc'
      generalize xs.getD k false = z at e1 e2
      go_wp2
      go_quiet (fail)
      go_wp2
      go_roundw
      case rel => exact ⟨k + 1, by omega, by go_num, below_drewN hb _⟩
      case measure => simp [intOf]; omega
    · obtain rfl : k = xs.length := by omega
      go_wp2
      go_ret
      exact ⟨rfl, hb⟩

set_option maxRecDepth 100000 in
set_option maxHeartbeats 400000 in
theorem szBoolS_calls (v : Value) (xs : List Bool) (l : Int) (w : World) (h : RdZ w v xs) (hl0 : 0 ≤ l) (hl : l ≤ 1048576) :
    Calls Try.prog 64 #[v, .int .i64 l] w fun e w' => (∃ r : Int, e = .returned (.int .i64 r) ∧ (r < 0 ∨ (0 ≤ r ∧ r ≤ 1048576 ∧ xs.length ≤ 1048576))) ∧ w = w' := by
  obtain ⟨a, cap, rfl, h1, h2, h3⟩ := h
  have hm : xs.length ≤ maxLen := by omega
  unfold maxLen at hm
  clear h3 h2 h1
  by_cases hn : (xs.length : Int) ≤ l
  case neg =>
    have hn' : l - (xs.length : Int) < 0 := by omega
    go_enter Try.func64, Try.ntmps64
    go_wp2
    go_ret
    exact ⟨⟨-1, rfl, .inl (by decide)⟩, rfl⟩
  have hn' : ¬ l - (xs.length : Int) < 0 := by omega
  go_enter Try.func64, Try.ntmps64
  go_wp2
  go_ret
  exact ⟨⟨_, rfl, .inr ⟨by omega, by omega, by omega⟩⟩, rfl⟩

/-- The mark of a number. -/
def mz (k : Int) : Bool := (k % 3 == 0)
/-- The marks k, k + 1, .. -/
def marksZ (k : Int) (n : Nat) : List Bool := (List.range n).map fun i : Nat => mz (k + (i : Int))
theorem marksZ_length (k : Int) (n : Nat) : (marksZ k n).length = n := by simp [marksZ]
theorem marksZ_getD (k : Int) (n i : Nat) (h : i < n) : (marksZ k n).getD i false = mz (k + i) := by simp [marksZ, h]
/-- What is marked so far. -/
def mkZ (k : Int) (xs : List Bool) (i : Nat) : List Bool := marksZ k i ++ xs.drop i
theorem mkZ_length (k : Int) (xs : List Bool) (i : Nat) (h : i ≤ xs.length) : (mkZ k xs i).length = xs.length := by simp [mkZ, marksZ]; omega
theorem mkZ_step (k : Int) (xs : List Bool) (i : Nat) (h : i < xs.length) : (mkZ k xs i).set i (mz (k + i)) = mkZ k xs (i + 1) := by
  unfold mkZ
  rw [List.set_append_right _ _ (by simp [marksZ]), marksZ_length, Nat.sub_self, List.drop_eq_getElem_cons h, List.set_cons_zero]
  simp [marksZ, List.range_succ]
theorem mkZ_end (k : Int) (xs : List Bool) : mkZ k xs xs.length = marksZ k xs.length := by simp [mkZ]

set_option maxRecDepth 100000 in
set_option maxHeartbeats 400000 in
theorem markBoolS_calls (v : Value) (xs : List Bool) (k : Int) (base : Nat) (w : World) (h : OwnZ w base v xs) (hk0 : 0 ≤ k) (hk : k ≤ 1099511627776) (hn : xs.length ≤ 1048576) :
    Calls Try.prog 71 #[v, .int .i64 k] w fun e w' => e = .returned (.int .i64 (k + xs.length)) ∧ OwnZ w' base v (marksZ k xs.length) ∧ w.grownBy w' v.ownBlock := by
  rcases h.2 with ⟨rfl, hz⟩ | ⟨g, cap, cur, rfl, hb, hg, hc, hm, hs, ht⟩
  · have : xs = [] := List.eq_nil_of_length_eq_zero hz
    subst this
    go_enter Try.func71, Try.ntmps71
    go_wp2
    refine wp_loop_rounds 1 ?_
    rw [rounds_succ]
    go_wp2
    go_ret
    exact ⟨by simp, World.ownsRow_nil _ _ _ _, World.grownBy.refl _ _⟩
  · have H := hide h
    clear h ht
    go_enter Try.func71, Try.ntmps71
    go_wp2
    go_loopw [1, 5] (fun vk vi wr => ∃ i : Nat, i ≤ xs.length ∧ vi = .int .i64 i ∧ vk = .int .i64 (k + i) ∧ wr.ownsRow base 4 1 (.slice (some ⟨g, 0, none⟩) xs.length cap) xs.length ((mkZ k xs i).map Value.bool) ∧ w.grownBy wr (some g)) (fun _ vi _ => xs.length - (intOf vi).toNat)
    case atStart => exact ⟨0, Nat.zero_le _, rfl, by go_num, by rw [show mkZ k xs 0 = xs from by simp [mkZ, marksZ]]; exact H.out, World.grownBy.refl _ _⟩
    case round =>
      obtain ⟨i, hi, rfl, rfl, hown, hgr⟩ := hrel
      by_cases hlt : i < xs.length
      · have hc2 : wr.frozen? ⟨g, i, none⟩ = false := hown.frozenAt i
        obtain ⟨old, hc3⟩ : ∃ old, wr.cell? ⟨g, i, none⟩ = some old := by
          rw [hown.cellAt i (by omega)]
          have := mkZ_length k xs i hi
          exact ⟨_, List.getElem?_eq_getElem (by simp; omega)⟩
        have hst := hown.stored i (.bool (mz (k + i)))
        rw [← List.map_set, mkZ_step k xs i hlt] at hst
        have K := hide hst
        clear hst
        go_wp2
        go_roundw
        case rel =>
          refine ⟨i + 1, by omega, by go_num, by go_num, K.out.1, ?_⟩
          have := K.out.2
          exact ⟨this.os.trans hgr.os, this.tape.trans hgr.tape, this.output.trans hgr.output, Nat.le_trans hgr.size this.size, fun j hj hne => (this.block j (Nat.lt_of_lt_of_le hj hgr.size) hne).trans (hgr.block j hj hne)⟩
        case measure => simp [intOf]; omega
      · obtain rfl : i = xs.length := by omega
        go_wp2
        go_ret
        rw [mkZ_end] at hown
        refine ⟨rfl, ?_, hgr⟩
        have e : (marksZ k xs.length).length = xs.length := marksZ_length _ _
        show World.ownsRow _ _ _ _ _ (marksZ k xs.length).length _
        rw [e]
        exact hown

set_option maxRecDepth 100000 in
set_option maxHeartbeats 400000 in
theorem heldBoolS_calls (v : Value) (n : Nat) (k : Int) (w : World) (h : RdZ w v (marksZ k n)) (hk0 : 0 ≤ k) (hk : k ≤ 1099511627776) (hn : n ≤ 1048576) :
    Calls Try.prog 127 #[v, .int .i64 k] w fun e w' => e = .returned (.int .i64 (k + n)) ∧ w = w' := by
  obtain ⟨a, cap, rfl, h1, h2, h3⟩ := h
  rw [marksZ_length]
  have H := hide h3
  clear h3
  go_enter Try.func127, Try.ntmps127
  go_wp2
  go_loop [1, 5] (fun vk vi => ∃ i : Nat, i ≤ n ∧ vi = .int .i64 i ∧ vk = .int .i64 (k + i)) (fun _ vi => n - (intOf vi).toNat)
  case atStart => exact ⟨0, Nat.zero_le _, rfl, by go_num⟩
  case round =>
    obtain ⟨i, hi, rfl, rfl⟩ := hrel
    by_cases hlt : i < n
    · rcases H.out with h3 | ⟨b, off, rfl, hbs, hc⟩
      · have := congrArg List.length h3
        rw [marksZ_length] at this
        simp at this; omega
      have hc1 := hc i (by rw [marksZ_length]; exact hlt)
      rw [marksZ_getD k n i hlt] at hc1
      unfold mz at hc1
      clear hc
      go_wp2
      go_round
      case rel => exact ⟨i + 1, by omega, by go_num, by go_num⟩
      case measure => simp [intOf]; omega
    · obtain rfl : i = n := by omega
      go_wp2
      go_ret
      exact ⟨rfl, rfl⟩
end Go.Proofs.Ytpgmocogffolaaa

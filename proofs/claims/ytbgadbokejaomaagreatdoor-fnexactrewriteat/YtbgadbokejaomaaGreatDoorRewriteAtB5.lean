/-
  Slices of integers: what is read, what is owned, and what the laws' own small functions do with them (copy, compare, mark, look whether the marks are held), call by call. Each contract says what it asks.
-/
import Derived.Test.YtbgadbokejaomaaGreatDoorChecked
import Derived.WalkKit
import Derived.WalkLawsBesides
import Derived.WalkSpells
import Derived.BigQuiet
import Derived.Laws.OwnMore
import Derived.OneCell
import Derived.Laws.CopyOwn
import Derived.Laws.AppendOwnNone
import Derived.Test.YtbgadbokejaomaaGreatDoorRewriteAtB2
namespace Go.Proofs.YtbgadbokejaomaaGreatDoor
open Go.RowKit

theorem infoInt : (Tryz.prog.info? 3).map (fun i => (i.zero, i.size, i.bytes)) = some (some (.int .i64 0), 1, 8) := by kernel_rfl

/-- The value v is a slice that reads as these integers, in this world. -/
def Rd (w : World) (v : Value) (xs : List Int) : Prop :=
  ∃ a cap, v = .slice a xs.length cap ∧ xs.length ≤ cap ∧ (cap ≤ maxLen ∧ (a = none → cap = 0)) ∧ (xs = [] ∨ ∃ b off, a = some ⟨b, off, none⟩ ∧ b < w.heap.size ∧ ∀ i, i < xs.length → w.cell? ⟨b, off + i, none⟩ = some (.int .i64 (xs.getD i 0)))
/-- The value v is a slice of the call's own (its block is base or later) that reads as these integers. -/
abbrev Own (w : World) (base : Nat) (v : Value) (xs : List Int) : Prop := w.ownsRow base 3 1 v xs.length (xs.map (Value.int .i64))

theorem Rd.below {w w' : World} {v : Value} {xs : List Int} (h : Rd w v xs) (hb : Below w.heap.size w w') : Rd w' v xs := by
  obtain ⟨a, cap, rfl, h1, h2, h3⟩ := h
  refine ⟨a, cap, rfl, h1, h2, ?_⟩
  rcases h3 with h3 | ⟨b, off, rfl, hlt, hc⟩
  · exact .inl h3
  · exact .inr ⟨b, off, rfl, Nat.lt_of_lt_of_le hlt hb.size, fun i hi => (hb.cell (p := ⟨b, off + i, none⟩) hlt).trans (hc i hi)⟩
theorem Own.rd {w : World} {base : Nat} {v : Value} {xs : List Int} (h : Own w base v xs) : Rd w v xs := by
  rcases h.2 with ⟨rfl, hn⟩ | ⟨g, cap, cur, rfl, hb, hg, hc, hm, hs, ht⟩
  · have : xs = [] := List.eq_nil_of_length_eq_zero hn
    subst this
    exact ⟨none, 0, rfl, Nat.le_refl _, ⟨Nat.zero_le _, fun _ => rfl⟩, .inl rfl⟩
  · refine ⟨_, cap, rfl, hc, ⟨hm, fun h => by cases h⟩, .inr ⟨g, 0, rfl, (Array.getElem?_eq_some_iff.1 hg).1, fun i hi => ?_⟩⟩
    have := World.ownsRow.cellAt h i (by omega)
    rw [Nat.zero_add, this]
    simp [hi]
theorem Own.below {w w' : World} {base : Nat} {v : Value} {xs : List Int} (h : Own w base v xs) (hb : Below w.heap.size w w') : Own w' base v xs := by
  refine ⟨h.1, ?_⟩
  rcases h.2 with hn | ⟨g, cap, cur, rfl, hb', hg, rest⟩
  · exact .inl hn
  · exact .inr ⟨g, cap, cur, rfl, hb', by rw [hb.block g (Array.getElem?_eq_some_iff.1 hg).1]; exact hg, rest⟩
theorem Own.mono {w : World} {base base' : Nat} {v : Value} {xs : List Int} (h : Own w base v xs) (hb : base' ≤ base) : Own w base' v xs := by
  refine ⟨h.1, ?_⟩
  rcases h.2 with hn | ⟨g, cap, cur, rfl, hb', rest⟩
  · exact .inl hn
  · exact .inr ⟨g, cap, cur, rfl, Nat.le_trans hb hb', rest⟩
theorem below_drewN' {w : World} (n : Nat) : Below w.heap.size w (w.drewN n) := below_drewN (Below.refl _ _) n

/-- 'append(out, p...)', out the call's own, p whatever reads as these integers (nil too). -/
theorem wpList_append_rd {w : World} {ops : Array Oper} {rest : List Oper} {o : Oper} {a : Act} {Q : Exit → Act → World → Prop} (hgd : o.guard = none) (s x : Operand)
    (ho : o.op = .call { callee := .builtin .append, args := #[s, x], argTypes := #[27, 27] })
    (base : Nat) (v : Value) (n : Nat) (xs zs : List Int) (hs : a.eval s = v) (hown : w.ownsRow base 3 1 v n (xs.map (Value.int .i64))) (u : Value) (hx : a.eval x = u) (hr : Rd w u zs)
    (hm : n + zs.length ≤ 1073741824) (hbase : base ≤ w.heap.size)
    (h : ∀ v' w', Own w' base v' (xs ++ zs) → w.grownBy w' v.ownBlock → wpList Tryz.prog ops Q rest (a.put o.dst v') w') : wpList Tryz.prog ops Q (o :: rest) a w := by
  obtain ⟨i0, hi, hz0, hz1, hz2⟩ := info_parts infoInt
  have hxn : xs.length = n := by have := hown.1; simpa using this
  obtain ⟨ad, cap, rfl, h1, ⟨h2, h2'⟩, h3⟩ := hr
  cases ad with
  | none =>
    have hz : zs = [] := by
      rcases h3 with h3 | ⟨b, off, hb, _⟩
      · exact h3
      · cases hb
    subst hz
    obtain rfl := h2' rfl
    refine wpList_append_own_none hgd s x _ ho base _ i0 1 Tryz.underlying27 hi v n _ hs hown hx ?_
    refine h v w ?_ (World.grownBy.refl _ _)
    rw [List.append_nil]
    show World.ownsRow _ _ _ _ _ xs.length _
    rw [hxn]
    exact hown
  | some ad =>
    refine wpList_append_own (w := w) hgd s x _ ho base _ i0 (.int .i64 0) 1 8 Tryz.underlying27 hi hz0 hz1 hz2 rfl (by decide) v n _ hs hown ad zs.length cap (zs.map (Value.int .i64)) hx (by simp) ?_ (ints_oneCell _ _) (by unfold maxLen; omega) (by omega) hbase ?_
    · intro j y hj
      have hjl : j < zs.length := by simpa using (List.getElem?_eq_some_iff.1 hj).1
      rcases h3 with h3 | ⟨b, off, hb, _, hc⟩
      · subst h3; simp at hjl
      obtain rfl := Option.some.inj hb
      have hadd : (⟨b, off, none⟩ : Addr).add j = ⟨b, off + j, none⟩ := by unfold Addr.add; split <;> simp_all
      rw [hadd, hc j hjl]
      rw [List.getElem?_map, List.getElem?_eq_getElem hjl] at hj
      simp only [Option.map_some, Option.some.injEq] at hj
      rw [← hj, List.getD_eq_getElem?_getD, List.getElem?_eq_getElem hjl, Option.getD_some]
    · intro v' w' ho' hg' _
      refine h v' w' ?_ hg'
      show World.ownsRow _ _ _ _ _ (xs ++ zs).length _
      rw [List.map_append, List.length_append, hxn]
      exact ho'
theorem infoSize : (Tryz.prog.info? 3).map (·.size) = some 1 := by kernel_rfl
theorem own_full {w : World} {base g n : Nat} {xs : List Value} (h : w.ownsRow base 3 1 (.slice (some ⟨g, 0, none⟩) n n) n xs) : w.heap[g]? = some (.cells xs.toArray 3 (0, 0)) := by
  rcases h.2 with ⟨h', _⟩ | ⟨g', cap', cur, h', _, hg, _, _, hs, ht⟩
  · simp at h'
  · simp only [Value.slice.injEq, Option.some.injEq, Addr.mk.injEq, and_true, true_and] at h'
    obtain ⟨rfl, rfl⟩ := h'
    rw [hg, ← ht, List.take_of_length_le (by rw [Array.length_toList, hs]; exact Nat.le_refl _)]
theorem own_of_block {w : World} {base g : Nat} {zs : List Int} (h : w.heap[g]? = some (.cells (zs.map (Value.int .i64)).toArray 3 (0, 0))) (hb : base ≤ g) (hm : zs.length ≤ maxLen) :
    Own w base (.slice (some ⟨g, 0, none⟩) zs.length zs.length) zs :=
  ⟨by simp, .inr ⟨g, zs.length, _, rfl, hb, h, Nat.le_refl _, hm, by simp, List.take_of_length_le (by simp)⟩⟩
/-- 'copy(out, p)', out a row of n that the call has just made, p of n or more that begin with these integers: out holds them. -/
theorem wpList_copy_fresh {w : World} {ops : Array Oper} {rest : List Oper} {o : Oper} {a : Act} {Q : Exit → Act → World → Prop} (hgd : o.guard = none) (d s : Operand)
    (ho : o.op = .call { callee := .builtin .copy, args := #[d, s], argTypes := #[27, 27] })
    (base g n : Nat) (ws' : List Int) (hd : a.eval d = .slice (some ⟨g, 0, none⟩) n n) (hown' : Own w base (.slice (some ⟨g, 0, none⟩) n n) ws')
    (u : Value) (hs : a.eval s = u) (zs : List Int) (hr : Rd w u zs) (hnz : n ≤ zs.length) (hbase : base ≤ g) (hm : n ≤ maxLen) (B : Nat) (w0 : World) (hb : Below B w0 w) (hB : B ≤ g)
    (h : ∀ w', Own w' base (.slice (some ⟨g, 0, none⟩) n n) (zs.take n) → Below B w0 w' → w.grownBy w' (some g) → wpList Tryz.prog ops Q rest (a.put o.dst (goInt n)) w') : wpList Tryz.prog ops Q (o :: rest) a w := by
  have hwn : ws'.length = n := by
    rcases hown'.2 with ⟨h', _⟩ | ⟨g', cap', cur, h', _⟩
    · simp at h'
    · simp at h'; exact h'.2.1.symm
  obtain ⟨ws, hws⟩ : ∃ ws, ws = ws'.map (Value.int .i64) := ⟨_, rfl⟩
  have hown : w.ownsRow base 3 1 (.slice (some ⟨g, 0, none⟩) n n) n ws := by
    rw [hws]
    unfold Own at hown'
    rwa [hwn] at hown'
  obtain ⟨ad, cap, rfl, h1, ⟨h2, h2'⟩, h3⟩ := hr
  have hl : (zs.take n).length = n := by rw [List.length_take]; omega
  have hl2 : ((zs.take n).map (Value.int .i64)).length = n := by rw [List.length_map, hl]
  have hg := own_full hown
  have hwl : ws.length = n := by have := hown.1; simpa using this
  have hlt : g < w.heap.size := (Array.getElem?_eq_some_iff.1 hg).1
  by_cases h0 : n = 0
  · subst h0
    refine wpList_copy_nothing (w := w) hgd d s 27 27 ho 3 Tryz.underlying27 infoSize (some ⟨g, 0, none⟩) ad 0 0 zs.length cap hd hs (by simp) ?_
    refine h w ?_ hb (World.grownBy.refl _ _)
    have hw0 : ws = [] := List.eq_nil_of_length_eq_zero hwl
    subst hw0
    rw [List.take_zero]
    exact hown
  · rcases h3 with h3 | ⟨b, off, rfl, _, hc⟩
    · subst h3; simp at hnz; exact absurd hnz h0
    refine wpList_copy_own (w := w) hgd d s 27 27 ho 3 Tryz.underlying27 infoSize g 0 n n ⟨b, off, none⟩ zs.length cap hd hs ws.toArray 3 hg ((zs.take n).map (Value.int .i64)) (by rw [hl2]; exact (Nat.min_eq_right hnz).symm) ?_ (by rw [hl2, List.size_toArray]; omega) (ints_oneCell _ _) ?_
    · intro j y hj
      have hjl : j < n := by have := (List.getElem?_eq_some_iff.1 hj).1; omega
      have hjz : j < zs.length := by omega
      have hadd : (⟨b, off, none⟩ : Addr).add j = ⟨b, off + j, none⟩ := by unfold Addr.add; split <;> simp_all
      rw [hadd, hc j hjz]
      rw [List.getElem?_map, List.getElem?_take, if_pos hjl, List.getElem?_eq_getElem hjz] at hj
      simp only [Option.map_some, Option.some.injEq] at hj
      rw [← hj, List.getD_eq_getElem?_getD, List.getElem?_eq_getElem hjz, Option.getD_some]
    · have e : (ws.toArray.toList.take 0 ++ ((zs.take n).map (Value.int .i64) ++ ws.toArray.toList.drop (0 + ((zs.take n).map (Value.int .i64)).length))).toArray = ((zs.take n).map (Value.int .i64)).toArray := by
        rw [hl2, List.take_zero, List.nil_append, List.drop_eq_nil_of_le (by simp; omega), List.append_nil]
      rw [e, hl2]
      refine h _ ?_ (below_setRow hb hB _) ⟨rfl, rfl, rfl, by simp [World.setRow], fun k _ hk => setRow_other w g k _ (fun e => hk (by simp [e]))⟩
      have := own_of_block (base := base) (setRow_heap w g _ ((zs.take n).map (Value.int .i64)).toArray 3 _ hg) hbase (by rw [hl]; exact hm)
      rw [hl] at this
      exact this
/-- 'make([]int, n)': n noughts of the call's own, in the next block. -/
theorem wpList_make_ints {w : World} {ops : Array Oper} {rest : List Oper} {o : Oper} {a : Act} {Q : Exit → Act → World → Prop} (hg : o.guard = none) (l c : Operand) (hop : o.op = Op.makeSlice 27 l c)
    (base : Nat) (L C : Int) (n : Nat) (hl : a.eval l = .int .i64 L) (hc : a.eval c = .int .i64 C) (hL : L = (n : Int)) (hC : C = (n : Int)) (hn : n ≤ 1073741824) (hb : base ≤ w.heap.size)
    (h : ∀ w', Own w' base (.slice (some ⟨w.heap.size, 0, none⟩) n n) (List.replicate n 0) → w.grownBy w' none → wpList Tryz.prog ops Q rest (a.put o.dst (.slice (some ⟨w.heap.size, 0, none⟩) n n)) w') : wpList Tryz.prog ops Q (o :: rest) a w := by
  obtain ⟨i0, hi, hz0, hz1, hz2⟩ := info_parts infoInt
  refine wpList_make_full w hg l c _ hop base 3 i0 (.int .i64 0) 1 Tryz.underlying27 hi hz0 hz1 _ _ L C n hl hc hL hC (by rw [hz2]; omega) (by unfold maxLen; omega) hb ?_
  intro w' ho hg'
  refine h w' ?_ hg'
  show World.ownsRow _ _ _ _ _ (List.replicate n (0 : Int)).length _
  rw [List.length_replicate, List.map_replicate]
  have e : (madeCells (Value.int .i64 0).cells (n * 1)).toList = List.replicate n (Value.int .i64 0) := by
    rw [Nat.mul_one]; exact toList_madeCells_one _ n
  rw [e] at ho
  exact ho

/-- What is copied so far. -/
def cpTo (xs : List Int) (k : Nat) : List Int := xs.take k ++ List.replicate (xs.length - k) 0
theorem cpTo_length (xs : List Int) (k : Nat) (h : k ≤ xs.length) : (cpTo xs k).length = xs.length := by simp [cpTo]; omega
theorem cpTo_step (xs : List Int) (k : Nat) (h : k < xs.length) : (cpTo xs k).set k (xs.getD k 0) = cpTo xs (k + 1) := by
  have e1 : (xs.take k).length = k := by simp; omega
  unfold cpTo
  rw [List.set_append_right _ _ (by omega), e1, Nat.sub_self]
  obtain ⟨m, hm⟩ : ∃ m, xs.length - k = m + 1 := ⟨xs.length - k - 1, by omega⟩
  have hm2 : xs.length - (k + 1) = m := by omega
  rw [hm, hm2, List.replicate_succ, List.set_cons_zero, List.take_succ_eq_append_getElem h, List.append_assoc]
  simp only [List.getD_eq_getElem?_getD, List.getElem?_eq_getElem h, Option.getD_some, List.singleton_append]
theorem cpTo_end (xs : List Int) : cpTo xs xs.length = xs := by simp [cpTo]
theorem cpTo_zero (xs : List Int) : cpTo xs 0 = List.replicate xs.length 0 := by simp [cpTo]

set_option maxRecDepth 100000 in
set_option maxHeartbeats 400000 in
theorem toIntS_calls (v : Value) (xs : List Int) (w : World) (h : Rd w v xs) (hn : xs.length ≤ 1048576) :
    Calls Tryz.prog 69 #[v] w fun e w' => ∃ v', e = .returned v' ∧ Own w' w.heap.size v' xs ∧ Below w.heap.size w w' := by
  obtain ⟨a, cap, rfl, h1, h2, h3⟩ := h
  obtain ⟨i0, hi, hz0, hz1, hz2⟩ := info_parts infoInt
  have H3 := hide h3
  clear h3
  go_enter Tryz.func69, Tryz.ntmps69
  go_wp2_with (at_make; refine wpList_make_full _ rfl _ _ 27 rfl w.heap.size 3 i0 (.int .i64 0) 1 Tryz.underlying27 hi hz0 hz1 _ _ _ _ xs.length rfl rfl (by omega) (by omega) ?b2 ?b3 (Nat.le_refl _) ?_)
  case b2 => rw [hz2]; omega
  case b3 => unfold maxLen; omega
  intro w0 hown0 hgrow0
  go_wp2
  go_loopw [4] (fun vi wr => ∃ k : Nat, k ≤ xs.length ∧ vi = .int .i64 k ∧ wr.ownsRow w.heap.size 3 1 (.slice (some ⟨w.heap.size, 0, none⟩) xs.length xs.length) xs.length ((cpTo xs k).map (Value.int .i64)) ∧ Below w.heap.size w wr) (fun vi _ => xs.length - (intOf vi).toNat)
  case atStart =>
    refine ⟨0, Nat.zero_le _, rfl, ?_, (Below.refl _ _).grown hgrow0 (Nat.le_refl _) (fun k h => by cases h)⟩
    rw [cpTo_zero]
    simpa [toList_madeCells_one, Value.cells] using hown0
  case round =>
    obtain ⟨k, hk, rfl, hown, hb⟩ := hrel
    by_cases hlt : k < xs.length
    · rcases H3.out with h3 | ⟨b, off, rfl, hbs, hc⟩
      · subst h3; simp at hlt
      · have hc1 : wr.cell? ⟨b, off + k, none⟩ = some (.int .i64 (xs.getD k 0)) := (hb.cell (by exact hbs)).trans (hc k hlt)
        have hc2 : wr.frozen? ⟨w.heap.size, k, none⟩ = false := hown.frozenAt k
        obtain ⟨old, hc3⟩ : ∃ old, wr.cell? ⟨w.heap.size, k, none⟩ = some old := by
          rw [hown.cellAt k (by omega)]
          have := cpTo_length xs k hk
          exact ⟨_, List.getElem?_eq_getElem (by simp; omega)⟩
        have hst := hown.stored k (.int .i64 (xs.getD k 0))
        have K := hide hst
        clear hst hc
        go_wp2
        go_roundw
        case rel =>
          refine ⟨k + 1, by omega, by go_num, ?_, ?_⟩
          · have := K.out.1
            rw [← List.map_set, cpTo_step xs k hlt] at this
            simpa [hlt] using this
          · exact hb.setCell (Nat.le_refl _) _
        case measure => simp [intOf]; omega
    · obtain rfl : k = xs.length := by omega
      go_wp2
      go_ret
      rw [cpTo_end] at hown
      exact ⟨_, rfl, hown, hb⟩

set_option maxRecDepth 100000 in
set_option maxHeartbeats 400000 in
theorem eqIntS_same (v1 v2 : Value) (xs : List Int) (w : World) (h1 : Rd w v1 xs) (h2 : Rd w v2 xs) :
    Calls Tryz.prog 28 #[v1, v2] w fun e w' => e = .returned (.bool true) ∧ Below w.heap.size w w' := by
  obtain ⟨a1, c1, rfl, _, m1, k1⟩ := h1
  obtain ⟨a2, c2, rfl, _, _, k2⟩ := h2
  have hm : xs.length ≤ maxLen := by omega
  unfold maxLen at hm
  have K := hide k1
  have L := hide k2
  clear k1 k2 m1
  go_enter Tryz.func28, Tryz.ntmps28
  go_wp2
  go_loopw [5] (fun vi wr => ∃ k : Nat, k ≤ xs.length ∧ vi = .int .i64 k ∧ Below w.heap.size w wr) (fun vi _ => xs.length - (intOf vi).toNat)
  case atStart => exact ⟨0, Nat.zero_le _, rfl, Below.refl _ _⟩
  case round =>
    obtain ⟨k, hk, rfl, hb⟩ := hrel
    by_cases hlt : k < xs.length
    · rcases K.out with h3 | ⟨b, off, rfl, hbs, hc⟩
      · subst h3; simp at hlt
      rcases L.out with h3 | ⟨b', off', rfl, hbs', hc'⟩
      · subst h3; simp at hlt
      have e1 : wr.cell? ⟨b, off + k, none⟩ = some (.int .i64 (xs.getD k 0)) := (hb.cell (by exact hbs)).trans (hc k hlt)
      have e2 : wr.cell? ⟨b', off' + k, none⟩ = some (.int .i64 (xs.getD k 0)) := (hb.cell (by exact hbs')).trans (hc' k hlt)
      have hlt' : (k : Int) < (xs.length : Int) := by omega
      clear hc hc'
      go_wp2
      go_quiet (fail)
      go_wp2
      go_roundw
      case rel => exact ⟨k + 1, by omega, by go_num, below_drewN hb _⟩
      case measure => simp [intOf]; omega
    · obtain rfl : k = xs.length := by omega
      go_wp2
      go_ret
      exact ⟨rfl, hb⟩

/-- The marks k, k + 1, .. -/
def marks (k : Int) (n : Nat) : List Int := (List.range n).map fun i : Nat => k + (i : Int)
theorem marks_length (k : Int) (n : Nat) : (marks k n).length = n := by simp [marks]
theorem marks_getD (k : Int) (n i : Nat) (h : i < n) : (marks k n).getD i 0 = k + i := by simp [marks, h]
/-- What is marked so far. -/
def mkTo (k : Int) (xs : List Int) (i : Nat) : List Int := marks k i ++ xs.drop i
theorem mkTo_length (k : Int) (xs : List Int) (i : Nat) (h : i ≤ xs.length) : (mkTo k xs i).length = xs.length := by simp [mkTo, marks]; omega
theorem mkTo_step (k : Int) (xs : List Int) (i : Nat) (h : i < xs.length) : (mkTo k xs i).set i (k + i) = mkTo k xs (i + 1) := by
  unfold mkTo
  rw [List.set_append_right _ _ (by simp [marks]), marks_length, Nat.sub_self, List.drop_eq_getElem_cons h, List.set_cons_zero]
  simp [marks, List.range_succ]
theorem mkTo_end (k : Int) (xs : List Int) : mkTo k xs xs.length = marks k xs.length := by simp [mkTo]

set_option maxRecDepth 100000 in
set_option maxHeartbeats 400000 in
theorem markIntS_calls (v : Value) (xs : List Int) (k : Int) (base : Nat) (w : World) (h : Own w base v xs) (hk0 : 0 ≤ k) (hk : k ≤ 1099511627776) (hn : xs.length ≤ 1099511627776) :
    Calls Tryz.prog 29 #[v, .int .i64 k] w fun e w' => e = .returned (.int .i64 (k + xs.length)) ∧ Own w' base v (marks k xs.length) ∧ w.grownBy w' v.ownBlock := by
  rcases h.2 with ⟨rfl, hz⟩ | ⟨g, cap, cur, rfl, hb, hg, hc, hm, hs, ht⟩
  · have : xs = [] := List.eq_nil_of_length_eq_zero hz
    subst this
    go_enter Tryz.func29, Tryz.ntmps29
    go_wp2
    refine wp_loop_rounds 1 ?_
    rw [rounds_succ]
    go_wp2
    go_ret
    exact ⟨by simp, World.ownsRow_nil _ _ _ _, World.grownBy.refl _ _⟩
  · have H := hide h
    clear h ht
    go_enter Tryz.func29, Tryz.ntmps29
    go_wp2
    go_loopw [1, 5] (fun vk vi wr => ∃ i : Nat, i ≤ xs.length ∧ vi = .int .i64 i ∧ vk = .int .i64 (k + i) ∧ wr.ownsRow base 3 1 (.slice (some ⟨g, 0, none⟩) xs.length cap) xs.length ((mkTo k xs i).map (Value.int .i64)) ∧ w.grownBy wr (some g)) (fun _ vi _ => xs.length - (intOf vi).toNat)
    case atStart => exact ⟨0, Nat.zero_le _, rfl, by go_num, by rw [show mkTo k xs 0 = xs from by simp [mkTo, marks]]; exact H.out, World.grownBy.refl _ _⟩
    case round =>
      obtain ⟨i, hi, rfl, rfl, hown, hgr⟩ := hrel
      by_cases hlt : i < xs.length
      · have hc2 : wr.frozen? ⟨g, i, none⟩ = false := hown.frozenAt i
        obtain ⟨old, hc3⟩ : ∃ old, wr.cell? ⟨g, i, none⟩ = some old := by
          rw [hown.cellAt i (by omega)]
          have := mkTo_length k xs i hi
          exact ⟨_, List.getElem?_eq_getElem (by simp; omega)⟩
        have hst := hown.stored i (.int .i64 (k + i))
        have K := hide hst
        clear hst
        go_wp2
        go_roundw
        case rel =>
          refine ⟨i + 1, by omega, by go_num, by go_num, ?_, ?_⟩
          · have := K.out.1
            rw [← List.map_set, mkTo_step k xs i hlt] at this
            exact this
          · have := K.out.2
            exact ⟨this.os.trans hgr.os, this.tape.trans hgr.tape, this.output.trans hgr.output, Nat.le_trans hgr.size this.size, fun j hj hne => (this.block j (Nat.lt_of_lt_of_le hj hgr.size) hne).trans (hgr.block j hj hne)⟩
        case measure => simp [intOf]; omega
      · obtain rfl : i = xs.length := by omega
        go_wp2
        go_ret
        rw [mkTo_end] at hown
        refine ⟨rfl, ?_, hgr⟩
        have e : (marks k xs.length).length = xs.length := marks_length _ _
        show World.ownsRow _ _ _ _ _ (marks k xs.length).length _
        rw [e]
        exact hown

set_option maxRecDepth 100000 in
set_option maxHeartbeats 400000 in
theorem heldIntS_calls (v : Value) (n : Nat) (k : Int) (w : World) (h : Rd w v (marks k n)) (hk0 : 0 ≤ k) (hk : k ≤ 1099511627776) (hn : n ≤ 1099511627776) :
    Calls Tryz.prog 30 #[v, .int .i64 k] w fun e w' => e = .returned (.int .i64 (k + n)) ∧ w = w' := by
  obtain ⟨a, cap, rfl, h1, h2, h3⟩ := h
  rw [marks_length]
  have H := hide h3
  clear h3
  go_enter Tryz.func30, Tryz.ntmps30
  go_wp2
  go_loop [1, 5] (fun vk vi => ∃ i : Nat, i ≤ n ∧ vi = .int .i64 i ∧ vk = .int .i64 (k + i)) (fun _ vi => n - (intOf vi).toNat)
  case atStart => exact ⟨0, Nat.zero_le _, rfl, by go_num⟩
  case round =>
    obtain ⟨i, hi, rfl, rfl⟩ := hrel
    by_cases hlt : i < n
    · rcases H.out with h3 | ⟨b, off, rfl, hbs, hc⟩
      · have := congrArg List.length h3
        rw [marks_length] at this
        simp at this; omega
      have hc1 := hc i (by rw [marks_length]; exact hlt)
      rw [marks_getD k n i hlt] at hc1
      clear hc
      go_wp2
      go_round
      case rel => exact ⟨i + 1, by omega, by go_num, by go_num⟩
      case measure => simp [intOf]; omega
    · obtain rfl : i = n := by omega
      go_wp2
      go_ret
      exact ⟨rfl, rfl⟩
end Go.Proofs.YtbgadbokejaomaaGreatDoor

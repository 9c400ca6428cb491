/-
  Slices of texts: what is read, what is owned, and what the laws' own small functions do with them (copy, compare, measure, mark, look whether the marks are held), call by call. Each contract says what it asks. Slices of texts marked, and whether the marks are held, call by call. Each contract says what it asks.
-/
import Derived.Test.YtbgadbokejaomaaGreatDoorRewriteAtB3
import Derived.Laws.AppendOwnNone
import Derived.Deep.RegionHeld3
namespace Go.Proofs.YtbgadbokejaomaaGreatDoor
open Go.RowKit
set_option linter.unusedVariables false

theorem infoStr : (Tryz.prog.info? 9).map (fun i => (i.zero, i.size, i.bytes)) = some (some (.string ⟨#[]⟩), 1, 16) := by kernel_rfl
/-- The value v is a slice that reads as these texts, in this world. -/
def RdT (w : World) (v : Value) (xs : List ByteArray) : Prop :=
  ∃ a cap, v = .slice a xs.length cap ∧ xs.length ≤ cap ∧ (cap ≤ maxLen ∧ (a = none → cap = 0)) ∧ (∀ s ∈ xs, s.size ≤ maxLen) ∧ (xs = [] ∨ ∃ b off, a = some ⟨b, off, none⟩ ∧ b < w.heap.size ∧ ∀ i, i < xs.length → w.cell? ⟨b, off + i, none⟩ = some (.string (xs.getD i ⟨#[]⟩)))
/-- The value v is a slice of the call's own (its block is base or later) that reads as these texts. -/
abbrev OwnT (w : World) (base : Nat) (v : Value) (xs : List ByteArray) : Prop := w.ownsRow base 9 1 v xs.length (xs.map Value.string)

theorem RdT.below {w w' : World} {v : Value} {xs : List ByteArray} (h : RdT w v xs) (hb : Below w.heap.size w w') : RdT w' v xs := by
  obtain ⟨a, cap, rfl, h1, h2, h4, h3⟩ := h
  refine ⟨a, cap, rfl, h1, h2, h4, ?_⟩
  rcases h3 with h3 | ⟨b, off, rfl, hlt, hc⟩
  · exact .inl h3
  · exact .inr ⟨b, off, rfl, Nat.lt_of_lt_of_le hlt hb.size, fun i hi => (hb.cell (p := ⟨b, off + i, none⟩) hlt).trans (hc i hi)⟩
theorem OwnT.rd {w : World} {base : Nat} {v : Value} {xs : List ByteArray} (h : OwnT w base v xs) (hsz : ∀ s ∈ xs, s.size ≤ maxLen) : RdT w v xs := by
  rcases h.2 with ⟨rfl, hn⟩ | ⟨g, cap, cur, rfl, hb, hg, hc, hm, hs, ht⟩
  · have : xs = [] := List.eq_nil_of_length_eq_zero hn
    subst this
    exact ⟨none, 0, rfl, Nat.le_refl _, ⟨Nat.zero_le _, fun _ => rfl⟩, hsz, .inl rfl⟩
  · refine ⟨_, cap, rfl, hc, ⟨hm, fun h => by cases h⟩, hsz, .inr ⟨g, 0, rfl, (Array.getElem?_eq_some_iff.1 hg).1, fun i hi => ?_⟩⟩
    have := World.ownsRow.cellAt h i (by omega)
    rw [Nat.zero_add, this]
    simp [hi]
theorem OwnT.below {w w' : World} {base : Nat} {v : Value} {xs : List ByteArray} (h : OwnT w base v xs) (hb : Below w.heap.size w w') : OwnT w' base v xs := by
  refine ⟨h.1, ?_⟩
  rcases h.2 with hn | ⟨g, cap, cur, rfl, hb', hg, rest⟩
  · exact .inl hn
  · exact .inr ⟨g, cap, cur, rfl, hb', by rw [hb.block g (Array.getElem?_eq_some_iff.1 hg).1]; exact hg, rest⟩
theorem OwnT.mono {w : World} {base base' : Nat} {v : Value} {xs : List ByteArray} (h : OwnT w base v xs) (hb : base' ≤ base) : OwnT w base' v xs := by
  refine ⟨h.1, ?_⟩
  rcases h.2 with hn | ⟨g, cap, cur, rfl, hb', rest⟩
  · exact .inl hn
  · exact .inr ⟨g, cap, cur, rfl, Nat.le_trans hb hb', rest⟩
/-- A row of another is as it was behind a call that writes into a row of its own, base or later. -/
theorem RdT.grown {w w' : World} {v : Value} {xs : List ByteArray} {g : Option Nat} (h : RdT w v xs) (hg : w.grownBy w' g) (hne : ∀ a n c b off, v = .slice a n c → a = some ⟨b, off, none⟩ → g ≠ some b) : RdT w' v xs := by
  obtain ⟨a, cap, rfl, h1, h2, h4, h3⟩ := h
  refine ⟨a, cap, rfl, h1, h2, h4, ?_⟩
  rcases h3 with h3 | ⟨b, off, rfl, hlt, hc⟩
  · exact .inl h3
  · refine .inr ⟨b, off, rfl, Nat.lt_of_lt_of_le hlt hg.size, fun i hi => ?_⟩
    have e := hg.block b hlt (fun e => hne _ _ _ b off rfl rfl e.symm)
    rw [← hc i hi]
    unfold World.cell?
    rw [e]
theorem rdT_nil (w : World) : RdT w (.slice none 0 0) [] := ⟨none, 0, rfl, Nat.le_refl _, ⟨Nat.zero_le _, fun _ => rfl⟩, by simp, .inl rfl⟩
theorem rdT_open {w : World} {x : Addr} {len cap : Nat} {ss : List ByteArray} (hl : len ≤ cap) (hm : cap ≤ maxLen) (hz : ss.length = cap)
    (hcell : ∀ i, i < ss.length → w.cell? (x.add i) = some (.string (ss.getD i ByteArray.empty))) (hwz : ∀ s ∈ ss, s.size ≤ maxLen) : RdT w (.slice (some x) len cap) (ss.take len) := by
  obtain ⟨b, off, sp⟩ := x
  have el : (ss.take len).length = len := by rw [List.length_take]; omega
  refine ⟨_, cap, by rw [el], by rw [el]; exact hl, ⟨hm, fun h => by cases h⟩, fun s hs => hwz s (List.mem_of_mem_take hs), ?_⟩
  by_cases h0 : len = 0
  · left
    subst h0
    rfl
  · right
    have h00 := hcell 0 (by omega)
    obtain rfl : sp = none := by simpa [Addr.add] using World.cell?_spot h00
    refine ⟨b, off, rfl, ?_, ?_⟩
    · have : w.cell? ⟨b, off, none⟩ = some (.string (ss.getD 0 ByteArray.empty)) := by simpa [Addr.add] using h00
      unfold World.cell? at this
      cases hh : w.heap[b]? with
      | none => simp [hh] at this
      | some o => exact (Array.getElem?_eq_some_iff.1 hh).1
    · intro i hi
      rw [el] at hi
      have := hcell i (by omega)
      have hadd : (⟨b, off, none⟩ : Addr).add i = ⟨b, off + i, none⟩ := by unfold Addr.add; split <;> simp_all
      rw [hadd] at this
      rw [this]
      have hiz : i < ss.length := by omega
      simp only [List.getD_eq_getElem?_getD, List.getElem?_take, if_pos hi, List.getElem?_eq_getElem hiz, Option.getD_some]
theorem strs_oneCell (zs : List ByteArray) : ∀ u ∈ zs.map Value.string, u.oneCell' = true := by
  intro u hu
  obtain ⟨b, _, rfl⟩ := List.mem_map.1 hu
  rfl

/-- 'append(out, p...)', out the call's own, p a row of the next block but one: one text. -/
theorem wpList_append_text1 {w : World} {ops : Array Oper} {rest : List Oper} {o : Oper} {a : Act} {Q : Exit → Act → World → Prop} (hgd : o.guard = none) (s x : Operand)
    (ho : o.op = .call { callee := .builtin .append, args := #[s, x], argTypes := #[22, 22] })
    (base : Nat) (v : Value) (n : Nat) (xs : List ByteArray) (z : ByteArray) (hs : a.eval s = v) (hown : w.ownsRow base 9 1 v n (xs.map Value.string)) (g : Nat) (hx : a.eval x = .slice (some ⟨g, 0, none⟩) 1 1) (hr : w.cell? ⟨g, 0, none⟩ = some (.string z))
    (hm : n + 1 ≤ 1073741824) (hbase : base ≤ w.heap.size)
    (h : ∀ v' w', OwnT w' base v' (xs ++ [z]) → w.grownBy w' v.ownBlock → wpList Tryz.prog ops Q rest (a.put o.dst v') w') : wpList Tryz.prog ops Q (o :: rest) a w := by
  obtain ⟨i0, hi, hz0, hz1, hz2⟩ := info_parts infoStr
  have hxn : xs.length = n := by have := hown.1; simpa using this
  refine wpList_append_own (w := w) hgd s x _ ho base _ i0 (.string ⟨#[]⟩) 1 16 Tryz.underlying22 hi hz0 hz1 hz2 rfl (by decide) v n _ hs hown ⟨g, 0, none⟩ 1 1 ([z].map Value.string) hx (by simp) ?_ (strs_oneCell _) (by unfold maxLen; omega) (by omega) hbase ?_
  · intro j y hj
    have hjl : j = 0 := by have := (List.getElem?_eq_some_iff.1 hj).1; simp at this; exact this
    subst hjl
    have hadd : (⟨g, 0, none⟩ : Addr).add 0 = ⟨g, 0, none⟩ := by unfold Addr.add; split <;> simp_all
    rw [hadd, hr]
    simpa using hj
  · intro v' w' ho' hg' _
    refine h v' w' ?_ hg'
    show World.ownsRow _ _ _ _ _ (xs ++ [z]).length _
    rw [List.map_append, List.length_append, hxn]
    exact ho'
/-- 'make([]string, n)': n empty texts of the call's own, in the next block. -/
theorem wpList_make_texts {w : World} {ops : Array Oper} {rest : List Oper} {o : Oper} {a : Act} {Q : Exit → Act → World → Prop} (hg : o.guard = none) (l c : Operand) (hop : o.op = Op.makeSlice 22 l c)
    (base : Nat) (L C : Int) (n : Nat) (hl : a.eval l = .int .i64 L) (hc : a.eval c = .int .i64 C) (hL : L = (n : Int)) (hC : C = (n : Int)) (hn : n ≤ 1073741824) (hb : base ≤ w.heap.size)
    (h : ∀ w', OwnT w' base (.slice (some ⟨w.heap.size, 0, none⟩) n n) (List.replicate n ⟨#[]⟩) → w.grownBy w' none → wpList Tryz.prog ops Q rest (a.put o.dst (.slice (some ⟨w.heap.size, 0, none⟩) n n)) w') : wpList Tryz.prog ops Q (o :: rest) a w := by
  obtain ⟨i0, hi, hz0, hz1, hz2⟩ := info_parts infoStr
  refine wpList_make_full w hg l c _ hop base 9 i0 (.string ⟨#[]⟩) 1 Tryz.underlying22 hi hz0 hz1 _ _ L C n hl hc hL hC (by rw [hz2]; omega) (by unfold maxLen; omega) hb ?_
  intro w' ho hg'
  refine h w' ?_ hg'
  show World.ownsRow _ _ _ _ _ (List.replicate n (⟨#[]⟩ : ByteArray)).length _
  rw [List.length_replicate, List.map_replicate]
  have e : (madeCells (Value.string ⟨#[]⟩).cells (n * 1)).toList = List.replicate n (Value.string ⟨#[]⟩) := by
    rw [Nat.mul_one]; exact toList_madeCells_one _ n
  rw [e] at ho
  exact ho

/-- What is copied so far. -/
def cpT (xs : List ByteArray) (k : Nat) : List ByteArray := xs.take k ++ List.replicate (xs.length - k) ⟨#[]⟩
theorem cpT_length (xs : List ByteArray) (k : Nat) (h : k ≤ xs.length) : (cpT xs k).length = xs.length := by simp [cpT]; omega
theorem cpT_step (xs : List ByteArray) (k : Nat) (h : k < xs.length) : (cpT xs k).set k (xs.getD k ⟨#[]⟩) = cpT xs (k + 1) := by
  have e1 : (xs.take k).length = k := by simp; omega
  unfold cpT
  rw [List.set_append_right _ _ (by omega), e1, Nat.sub_self]
  obtain ⟨m, hm⟩ : ∃ m, xs.length - k = m + 1 := ⟨xs.length - k - 1, by omega⟩
  have hm2 : xs.length - (k + 1) = m := by omega
  rw [hm, hm2, List.replicate_succ, List.set_cons_zero, List.take_succ_eq_append_getElem h, List.append_assoc]
  simp only [List.getD_eq_getElem?_getD, List.getElem?_eq_getElem h, Option.getD_some, List.singleton_append]
theorem cpT_end (xs : List ByteArray) : cpT xs xs.length = xs := by simp [cpT]
theorem cpT_zero (xs : List ByteArray) : cpT xs 0 = List.replicate xs.length ⟨#[]⟩ := by simp [cpT]

set_option maxRecDepth 100000 in
set_option maxHeartbeats 400000 in
theorem toStringS_calls (v : Value) (xs : List ByteArray) (w : World) (h : RdT w v xs) (hn : xs.length ≤ 1048576) :
    Calls Tryz.prog 15 #[v] w fun e w' => ∃ v', e = .returned v' ∧ OwnT w' w.heap.size v' xs ∧ Below w.heap.size w w' := by
  obtain ⟨a, cap, rfl, h1, h2, h4, h3⟩ := h
  have H3 := hide h3
  clear h3 h4
  go_enter Tryz.func15, Tryz.ntmps15
  go_wp2_with (at_make; refine wpList_make_texts rfl _ _ rfl w.heap.size _ _ xs.length rfl rfl (by omega) (by omega) (by omega) (Nat.le_refl _) ?_)
  intro w0 hown0 hgrow0
  have E0 := hide hown0
  have G0 := hide hgrow0
  clear hown0 hgrow0
  go_wp2
  go_loopw [4] (fun vi wr => ∃ k : Nat, k ≤ xs.length ∧ vi = .int .i64 k ∧ wr.ownsRow w.heap.size 9 1 (.slice (some ⟨w.heap.size, 0, none⟩) xs.length xs.length) xs.length ((cpT xs k).map Value.string) ∧ Below w.heap.size w wr) (fun vi _ => xs.length - (intOf vi).toNat)
  case atStart =>
    refine ⟨0, Nat.zero_le _, rfl, ?_, (Below.refl _ _).grown G0.out (Nat.le_refl _) (fun k h => by cases h)⟩
    rw [cpT_zero]
    have := E0.out
    unfold OwnT at this
    rwa [List.length_replicate] at this
  case round =>
    obtain ⟨k, hk, rfl, hown, hb⟩ := hrel
    by_cases hlt : k < xs.length
    · rcases H3.out with h3 | ⟨b, off, rfl, hbs, hc⟩
      · subst h3; simp at hlt
      · have hc1 : wr.cell? ⟨b, off + k, none⟩ = some (.string (xs.getD k ⟨#[]⟩)) := (hb.cell (by exact hbs)).trans (hc k hlt)
        have hc2 : wr.frozen? ⟨w.heap.size, k, none⟩ = false := hown.frozenAt k
        obtain ⟨old, hc3⟩ : ∃ old, wr.cell? ⟨w.heap.size, k, none⟩ = some old := by
          rw [hown.cellAt k (by omega)]
          have := cpT_length xs k hk
          exact ⟨_, List.getElem?_eq_getElem (by simp; omega)⟩
        have hst := hown.stored k (.string (xs.getD k ⟨#[]⟩))
        have K := hide hst
        clear hst hc
        go_wp2
        go_roundw
        case rel =>
          refine ⟨k + 1, by omega, by go_num, ?_, ?_⟩
          · have := K.out.1
            rw [← List.map_set, cpT_step xs k hlt] at this
            simpa [hlt] using this
          · exact hb.setCell (Nat.le_refl _) _
        case measure => simp [intOf]; omega
    · obtain rfl : k = xs.length := by omega
      go_wp2
      go_ret
      rw [cpT_end] at hown
      exact ⟨_, rfl, hown, hb⟩

set_option maxRecDepth 100000 in
set_option maxHeartbeats 400000 in
theorem eqStringS_same (v1 v2 : Value) (xs : List ByteArray) (w : World) (h1 : RdT w v1 xs) (h2 : RdT w v2 xs) :
    Calls Tryz.prog 18 #[v1, v2] w fun e w' => e = .returned (.bool true) ∧ Below w.heap.size w w' := by
  obtain ⟨a1, c1, rfl, _, m1, _, k1⟩ := h1
  obtain ⟨a2, c2, rfl, _, _, _, k2⟩ := h2
  have hm : xs.length ≤ maxLen := by omega
  unfold maxLen at hm
  have K := hide k1
  have L := hide k2
  clear k1 k2 m1
  go_enter Tryz.func18, Tryz.ntmps18
  go_wp2
  go_loopw [5] (fun vi wr => ∃ k : Nat, k ≤ xs.length ∧ vi = .int .i64 k ∧ Below w.heap.size w wr) (fun vi _ => xs.length - (intOf vi).toNat)
  case atStart => exact ⟨0, Nat.zero_le _, rfl, Below.refl _ _⟩
  case round =>
    obtain ⟨k, hk, rfl, hb⟩ := hrel
    by_cases hlt : k < xs.length
    · rcases K.out with h3 | ⟨b, off, rfl, hbs, hc⟩
      · subst h3; simp at hlt
      rcases L.out with h3 | ⟨b', off', rfl, hbs', hc'⟩
      · subst h3; simp at hlt
      have e1 : wr.cell? ⟨b, off + k, none⟩ = some (.string (xs.getD k ⟨#[]⟩)) := (hb.cell (by exact hbs)).trans (hc k hlt)
      have e2 : wr.cell? ⟨b', off' + k, none⟩ = some (.string (xs.getD k ⟨#[]⟩)) := (hb.cell (by exact hbs')).trans (hc' k hlt)
      have hlt' : (k : Int) < (xs.length : Int) := by omega
      clear hc hc'
      generalize xs.getD k ⟨#[]⟩ = z at e1 e2
      go_wp2
      go_quiet (fail)
      go_wp2
      go_roundw
      case rel => exact ⟨k + 1, by omega, by go_num, below_drewN hb _⟩
      case measure => simp [intOf]; omega
    · obtain rfl : k = xs.length := by omega
      go_wp2
      go_ret
      exact ⟨rfl, hb⟩

/-- A number's digits, as bytes, so many of them at most. -/
def decF : Nat → Nat → List Nat
  | 0, _ => []
  | f + 1, k => if k = 0 then [] else decF f (k / 10) ++ [48 + k % 10]
theorem decF_same : ∀ (f g k : Nat), k < f → k < g → decF f k = decF g k
  | 0, _, _, h, _ => by omega
  | _, 0, _, _, h => by omega
  | f + 1, g + 1, k, h1, h2 => by
    unfold decF
    by_cases h : k = 0
    · rw [if_pos h, if_pos h]
    · rw [if_neg h, if_neg h, decF_same f g (k / 10) (by omega) (by omega)]
/-- A number's digits, as bytes. -/
def decL (k : Nat) : List Nat := decF (k + 1) k
theorem decL_zero : decL 0 = [] := rfl
theorem decL_pos (k : Nat) (h : 0 < k) : decL k = decL (k / 10) ++ [48 + k % 10] := by
  unfold decL
  rw [decF_same (k / 10 + 1) k (k / 10) (by omega) (by omega)]
  show (if k = 0 then [] else decF k (k / 10) ++ [48 + k % 10]) = _
  rw [if_neg (by omega)]
theorem decL_length (k : Nat) : (decL k).length ≤ k := by
  induction k using Nat.strongRecOn with
  | ind k ih =>
    by_cases h : k = 0
    · subst h; rw [decL_zero]; exact Nat.le_refl _
    · rw [decL_pos k (by omega), List.length_append]
      have := ih (k / 10) (by omega)
      simp
      omega
/-- The mark of a number. -/
def mt (k : Nat) : ByteArray := ofN (109 :: decL k)
theorem mt_size (k : Nat) : (mt k).size ≤ k + 1 := by
  unfold mt
  rw [ofN_size, List.length_cons]
  have := decL_length k
  omega
theorem byte_text (d : Nat) (hd : d < 256) (W : World) : (convert 56 9 (.slice (some ⟨W.heap.size, 0, none⟩) 1 1)).run Tryz.prog (W.alloc (.cells #[.int .u8 (d : Int)] 5)) = .ok (.string (ofN [d])) (W.alloc (.cells #[.int .u8 (d : Int)] 5)) := by
  have hz : ZRow (W.alloc (.cells #[.int .u8 (d : Int)] 5)) W.heap.size [d] := heap_alloc_new W _
  have := hz.conv (n := 1) (cap := 1) (by simpa using hd) (Nat.le_refl _)
  exact this

set_option maxRecDepth 100000 in
set_option maxHeartbeats 400000 in
theorem markText_calls (K : Nat) (w : World) (h0 : 0 < K) (hK : K ≤ 1099511627776) :
    Calls Tryz.prog 64 #[.int .i64 K] w fun e w' => e = .returned (.string (mt K)) ∧ Below w.heap.size w w' := by
  have hlen := decL_length K
  obtain ⟨T, hT⟩ : ∃ T, T = decL K := ⟨_, rfl⟩
  rw [← hT] at hlen
  have HT := hide hT
  unfold mt
  rw [← hT]
  clear hT
  have h0' : ¬ (K : Int) ≤ 0 := by omega
  go_enter Tryz.func64, Tryz.ntmps64
  go_wp2
  go_loopw [0, 3] (fun vk vo wr => ∃ (k : Nat) (l : List Nat), vk = .int .i64 k ∧ vo = .string (ofN l) ∧ k ≤ K ∧ T = decL k ++ l ∧ Below w.heap.size w wr) (fun vk _ _ => (intOf vk).toNat)
  case atStart => exact ⟨K, [], rfl, rfl, Nat.le_refl _, by rw [List.append_nil]; exact HT.out, Below.refl _ _⟩
  case round =>
    obtain ⟨k, l, rfl, rfl, hk, hl, hb⟩ := hrel
    have hll : l.length ≤ K := by
      have := congrArg List.length hl
      rw [List.length_append] at this
      omega
    have HLL := hide hl
    have HB := hide hb
    clear hl hb
    by_cases hk0 : 0 < k
    · have hk0' : (0 : Int) < (k : Int) := by omega
      have hcv := byte_text (48 + k % 10) (by omega) wr
      have ecast : (((48 + k % 10 : Nat) : Int)) = 48 + (k : Int) % 10 := by omega
      rw [ecast] at hcv
      have hadd := fun W : World => run_string_add_sum (P := Tryz.prog) (w := W) (ofN [48 + k % 10]) (ofN l) (by rw [ofN_size, ofN_size]; simp; omega)
      clear ecast
      go_wp2
      refine ⟨⟨k / 10, (48 + k % 10) :: l, int_eq (by omega), ?_, by omega, ?_, HB.out.alloc HB.out.size _⟩, by simp [intOf]; omega⟩
      · rw [ofN_append]
        rfl
      · rw [HLL.out, decL_pos k hk0, List.append_assoc]
        rfl
    · obtain rfl : k = 0 := by omega
      have e0 : T = l := by have := HLL.out; rw [decL_zero] at this; exact this
      have hadd := fun W : World => run_string_add_sum (P := Tryz.prog) (w := W) (⟨#[109]⟩ : ByteArray) (ofN l) (by rw [ofN_size]; show 1 + l.length ≤ _; omega)
      have E0 := hide e0
      clear e0
      go_wp2
      go_ret
      refine ⟨?_, HB.out⟩
      have e1 : (⟨#[109]⟩ : ByteArray) = ofN [109] := rfl
      rw [e1, ofN_append, E0.out]
      rfl
end Go.Proofs.YtbgadbokejaomaaGreatDoor

namespace Go.Proofs.YtbgadbokejaomaaGreatDoor
open Go.RowKit
set_option linter.unusedVariables false

/-- The marks k, k + 1, .. -/
def marksT (k n : Nat) : List ByteArray := (List.range n).map fun i : Nat => mt (k + i)
theorem marksT_length (k n : Nat) : (marksT k n).length = n := by simp [marksT]
theorem marksT_getD (k n i : Nat) (h : i < n) : (marksT k n).getD i ⟨#[]⟩ = mt (k + i) := by simp [marksT, h]
/-- What is marked so far. -/
def mkT (k : Nat) (xs : List ByteArray) (i : Nat) : List ByteArray := marksT k i ++ xs.drop i
theorem mkT_length (k : Nat) (xs : List ByteArray) (i : Nat) (h : i ≤ xs.length) : (mkT k xs i).length = xs.length := by simp [mkT, marksT]; omega
theorem mkT_step (k : Nat) (xs : List ByteArray) (i : Nat) (h : i < xs.length) : (mkT k xs i).set i (mt (k + i)) = mkT k xs (i + 1) := by
  unfold mkT
  rw [List.set_append_right _ _ (by simp [marksT]), marksT_length, Nat.sub_self, List.drop_eq_getElem_cons h, List.set_cons_zero]
  simp [marksT, List.range_succ]
theorem mkT_end (k : Nat) (xs : List ByteArray) : mkT k xs xs.length = marksT k xs.length := by simp [mkT]
theorem below_grow {w w' : World} (h : Below w.heap.size w w') (g : Option Nat) : w.grownBy w' g := ⟨h.os, h.tape, h.output, h.size, fun j hj _ => h.block j hj⟩
theorem marksT_small (k n : Nat) (h : k + n ≤ 1099511627776) : ∀ s ∈ marksT k n, s.size ≤ maxLen := by
  intro s hs
  simp only [marksT, List.mem_map, List.mem_range] at hs
  obtain ⟨i, hi, rfl⟩ := hs
  have := mt_size (k + i)
  unfold maxLen
  omega

set_option maxRecDepth 100000 in
set_option maxHeartbeats 400000 in
theorem markStringS_calls (v : Value) (xs : List ByteArray) (k : Nat) (base : Nat) (w : World) (h : OwnT w base v xs) (hk0 : 0 < k) (hk : k ≤ 1000000000) (hn : xs.length ≤ 1048576) :
    Calls Tryz.prog 19 #[v, .int .i64 k] w fun e w' => e = .returned (.int .i64 ((k + xs.length : Nat) : Int)) ∧ OwnT w' base v (marksT k xs.length) ∧ w.grownBy w' v.ownBlock := by
  rcases h.2 with ⟨rfl, hz⟩ | ⟨g, cap, cur, rfl, hb, hg, hc, hm, hs, ht⟩
  · have : xs = [] := List.eq_nil_of_length_eq_zero hz
    subst this
    go_enter Tryz.func19, Tryz.ntmps19
    go_wp2
    refine wp_loop_rounds 1 ?_
    rw [rounds_succ]
    go_wp2
    go_ret
    exact ⟨by simp, World.ownsRow_nil _ _ _ _, World.grownBy.refl _ _⟩
  · have H := hide h
    clear h ht
    go_enter Tryz.func19, Tryz.ntmps19
    go_wp2
    go_loopw [1, 5] (fun vk vi wr => ∃ i : Nat, i ≤ xs.length ∧ vi = .int .i64 i ∧ vk = .int .i64 ((k + i : Nat) : Int) ∧ wr.ownsRow base 9 1 (.slice (some ⟨g, 0, none⟩) xs.length cap) xs.length ((mkT k xs i).map Value.string) ∧ w.grownBy wr (some g)) (fun _ vi _ => xs.length - (intOf vi).toNat)
    case atStart => exact ⟨0, Nat.zero_le _, rfl, by go_num, by rw [show mkT k xs 0 = xs from by simp [mkT, marksT]]; exact H.out, World.grownBy.refl _ _⟩
    case round =>
      obtain ⟨i, hi, rfl, rfl, hown, hgr⟩ := hrel
      by_cases hlt : i < xs.length
      · have O := hide hown
        have G := hide hgr
        have hlt' : (i : Int) < (xs.length : Int) := by omega
        clear hown hgr
        obtain ⟨j, hj⟩ : ∃ j, j = k + i := ⟨_, rfl⟩
        have HJ := hide hj
        have hj1 : 0 < j := by omega
        have hj2 : j ≤ 1001048576 := by omega
        rw [← hj]
        clear hj
        go_wp2_with fail
        refine (markText_calls j _ hj1 (by omega)).mono ?_
        rintro e w1 ⟨rfl, b1⟩
        have o1 : w1.ownsRow base 9 1 (.slice (some ⟨g, 0, none⟩) xs.length cap) xs.length ((mkT k xs i).map Value.string) := by
          have hO : OwnT wr base (.slice (some ⟨g, 0, none⟩) xs.length cap) (mkT k xs i) := by
            show World.ownsRow _ _ _ _ _ (mkT k xs i).length _
            rw [mkT_length k xs i hi]
            exact O.out
          have := hO.below b1
          unfold OwnT at this
          rwa [mkT_length k xs i hi] at this
        have G1 := hide (grown_trans G.out (below_grow b1 (some g)))
        have hc2 : w1.frozen? ⟨g, i, none⟩ = false := o1.frozenAt i
        obtain ⟨old, hc3⟩ : ∃ old, w1.cell? ⟨g, i, none⟩ = some old := by
          rw [o1.cellAt i (by omega)]
          have := mkT_length k xs i hi
          exact ⟨_, List.getElem?_eq_getElem (by simp; omega)⟩
        have hst := o1.stored i (.string (mt j))
        have K := hide hst
        clear hst o1 b1
        go_wp2
        go_roundw
        case rel =>
          refine ⟨i + 1, by omega, by go_num, int_eq (by have := HJ.out; omega), ?_, ?_⟩
          · have := K.out.1
            rw [← List.map_set, HJ.out, mkT_step k xs i hlt] at this
            rw [HJ.out]
            exact this
          · exact grown_trans G1.out (by simpa using K.out.2)
        case measure => simp [intOf]; omega
      · obtain rfl : i = xs.length := by omega
        go_wp2
        go_ret
        rw [mkT_end] at hown
        refine ⟨rfl, ?_, hgr⟩
        have e : (marksT k xs.length).length = xs.length := marksT_length _ _
        show World.ownsRow _ _ _ _ _ (marksT k xs.length).length _
        rw [e]
        exact hown

set_option maxRecDepth 100000 in
set_option maxHeartbeats 400000 in
theorem heldStringS_calls (v : Value) (n k : Nat) (w : World) (h : RdT w v (marksT k n)) (hk0 : 0 < k) (hk : k ≤ 1000000000) (hn : n ≤ 1048576) :
    Calls Tryz.prog 103 #[v, .int .i64 k] w fun e w' => e = .returned (.int .i64 ((k + n : Nat) : Int)) ∧ Below w.heap.size w w' := by
  obtain ⟨a, cap, rfl, h1, h2, h4, h3⟩ := h
  rw [marksT_length]
  have H := hide h3
  clear h3 h4 h2 h1
  go_enter Tryz.func103, Tryz.ntmps103
  go_wp2
  go_loopw [1, 5] (fun vk vi wr => ∃ i : Nat, i ≤ n ∧ vi = .int .i64 i ∧ vk = .int .i64 ((k + i : Nat) : Int) ∧ Below w.heap.size w wr) (fun _ vi _ => n - (intOf vi).toNat)
  case atStart => exact ⟨0, Nat.zero_le _, rfl, by go_num, Below.refl _ _⟩
  case round =>
    obtain ⟨i, hi, rfl, rfl, hb⟩ := hrel
    by_cases hlt : i < n
    · rcases H.out with h3 | ⟨b, off, rfl, hbs, hc⟩
      · have := congrArg List.length h3
        rw [marksT_length] at this
        simp at this; omega
      have hc1 := hc i (by rw [marksT_length]; exact hlt)
      rw [marksT_getD k n i hlt] at hc1
      have F : Hid (∀ w', Below wr.heap.size wr w' → w'.cell? ⟨b, off + i, none⟩ = some (.string (mt (k + i)))) :=
        fun w' hb' => (hb'.cell (p := ⟨b, off + i, none⟩) (Nat.lt_of_lt_of_le hbs hb.size)).trans ((hb.cell (p := ⟨b, off + i, none⟩) hbs).trans hc1)
      clear hc hc1
      have HB := hide hb
      clear hb
      have hlt' : (i : Int) < (n : Int) := by omega
      obtain ⟨j, hj⟩ : ∃ j, j = k + i := ⟨_, rfl⟩
      have HJ := hide hj
      have hj1 : 0 < j := by omega
      have hj2 : j ≤ 1001048576 := by omega
      rw [← hj] at F ⊢
      clear hj
      go_wp2
      go_region_held3 (fun w' => w'.cell? ⟨b, off + i, none⟩ = some (.string (mt j))) (first | exact F.out _ (Below.refl _ _).drew | exact F.out _ B1.out)
        ((go_at_call 64; refine (markText_calls j _ hj1 (by omega)).mono ?_; rintro e' w1 ⟨rfl, b1⟩; have B1 := hide ((Below.refl wr.heap.size wr).drew.trans b1); clear b1))
      go_wp2
      go_roundw
      case rel => exact ⟨i + 1, by omega, by go_num, int_eq (by have := HJ.out; omega), HB.out.trans (B1.out.mono HB.out.size)⟩
      case measure => simp [intOf]; omega
    · obtain rfl : i = n := by omega
      go_wp2
      go_ret
      exact ⟨rfl, hb⟩
end Go.Proofs.YtbgadbokejaomaaGreatDoor

/-
  Bits in sets: new ones, copies, bits put, the numbers of those that are set, a join, the bits of a key: the program's functions, call by call. Each contract says what it asks.
-/
import Derived.Test.YtehjfjplajimfaaFla
import Derived.Test.YtehjfjplajimfaaFlb
namespace Go.Proofs.Ytehjfjplajimfaa
open Go.RowKit
set_option linter.unusedVariables false

theorem RdZ.sl {w : World} {v : Value} {xs : List Bool} (h : RdZ w v xs) : ∃ a cap, v = .slice a xs.length cap ∧ xs.length ≤ 9223372036854775807 ∧ True := by
  obtain ⟨a, c, e, h⟩ := h.slv
  exact ⟨a, c, e, h, trivial⟩
theorem OwnZ.opn {w : World} {base : Nat} {v : Value} {xs : List Bool} (h : OwnZ w base v xs) (h0 : 0 < xs.length) : ∃ g cap, v = .slice (some ⟨g, 0, none⟩) xs.length cap ∧ base ≤ g ∧ g < w.heap.size := by
  rcases h.2 with ⟨rfl, hn⟩ | ⟨g, cap, cur, rfl, hb, hg, hc, hm, hs, ht⟩
  · omega
  · exact ⟨g, cap, rfl, hb, (Array.getElem?_eq_some_iff.1 hg).1⟩
theorem grown_below {w w1 w2 : World} {row : Option Nat} (b : Below w.heap.size w w1) (g : w1.grownBy w2 row) : w.grownBy w2 row :=
  ⟨g.os.trans b.os, g.tape.trans b.tape, g.output.trans b.output, Nat.le_trans b.size g.size, fun k hk hne => (g.block k (Nat.lt_of_lt_of_le hk b.size) hne).trans (b.block k hk)⟩
theorem below_grown1 {w w1 w2 : World} {base : Nat} {row : Option Nat} (b : Below w.heap.size w w1) (g : w1.grownBy w2 row) (hr : ∀ k, row = some k → w.heap.size ≤ k) : Below w.heap.size w w2 :=
  b.grown g (by exact b.size) hr
theorem infoBolS : (Try.prog.info? 4).map (·.size) = some 1 := by kernel_rfl
theorem bol_full {w : World} {base g n : Nat} {xs : List Value} (h : w.ownsRow base 4 1 (.slice (some ⟨g, 0, none⟩) n n) n xs) : w.heap[g]? = some (.cells xs.toArray 4 (0, 0)) := by
  rcases h.2 with ⟨h', _⟩ | ⟨g', cap', cur, h', _, hg, _, _, hs, ht⟩
  · simp at h'
  · simp only [Value.slice.injEq, Option.some.injEq, Addr.mk.injEq, and_true, true_and] at h'
    obtain ⟨rfl, rfl⟩ := h'
    rw [hg, ← ht, List.take_of_length_le (by rw [Array.length_toList, hs]; exact Nat.le_refl _)]
/-- 'copy(out, p)', out a row of n Booleans that the call has just made, p of n: out holds them. -/
theorem wpList_copy_bols {w : World} {ops : Array Oper} {rest : List Oper} {o : Oper} {a : Act} {Q : Exit → Act → World → Prop} (hgd : o.guard = none) (d s : Operand)
    (ho : o.op = .call { callee := .builtin .copy, args := #[d, s], argTypes := #[36, 36] })
    (base g : Nat) (ws zs : List Bool) (hd : a.eval d = .slice (some ⟨g, 0, none⟩) zs.length zs.length) (hown : w.ownsRow base 4 1 (.slice (some ⟨g, 0, none⟩) zs.length zs.length) zs.length (ws.map Value.bool))
    (u : Value) (hs : a.eval s = u) (hr : RdZ w u zs) (hbase : base ≤ g) (hm : zs.length ≤ 1048576) (h0 : 0 < zs.length)
    (h : ∀ w', OwnZ w' base (.slice (some ⟨g, 0, none⟩) zs.length zs.length) zs → w.grownBy w' (some g) → wpList Try.prog ops Q rest (a.put o.dst (goInt zs.length)) w') : wpList Try.prog ops Q (o :: rest) a w := by
  obtain ⟨ad, cap, rfl, h1, ⟨h2, h2'⟩, h3⟩ := hr
  have hg := bol_full hown
  have hwl : (ws.map Value.bool).length = zs.length := by have := hown.1; simpa using this
  rcases h3 with h3 | ⟨b, off, rfl, _, hc⟩
  · subst h3; simp at h0
  refine wpList_copy_own (w := w) hgd d s 36 36 ho 4 Try.underlying36 infoBolS g 0 zs.length zs.length ⟨b, off, none⟩ zs.length cap hd hs (ws.map Value.bool).toArray 4 hg (zs.map Value.bool) (by simp) ?_ (by rw [List.size_toArray, hwl]; simp) (bols_oneCell _) ?_
  · intro j y hj
    have hjz : j < zs.length := by simpa using (List.getElem?_eq_some_iff.1 hj).1
    have hadd : (⟨b, off, none⟩ : Addr).add j = ⟨b, off + j, none⟩ := by unfold Addr.add; split <;> simp_all
    rw [hadd, hc j hjz]
    rw [List.getElem?_map, List.getElem?_eq_getElem hjz] at hj
    simp only [Option.map_some, Option.some.injEq] at hj
    rw [← hj, List.getD_eq_getElem?_getD, List.getElem?_eq_getElem hjz, Option.getD_some]
  · have e : ((ws.map Value.bool).toArray.toList.take 0 ++ (zs.map Value.bool ++ (ws.map Value.bool).toArray.toList.drop (0 + (zs.map Value.bool).length))).toArray = (zs.map Value.bool).toArray := by
      rw [List.take_zero, List.nil_append, List.drop_eq_nil_of_le (by simpa using Nat.le_of_eq (by simpa using hwl)), List.append_nil]
    rw [e, List.length_map]
    refine h _ ?_ ⟨rfl, rfl, rfl, by simp [World.setRow], fun k _ hk => setRow_other w g k _ (fun e => hk (by simp [e]))⟩
    exact ⟨by simp, .inr ⟨g, zs.length, _, rfl, hbase, setRow_heap w g _ _ 4 _ hg, Nat.le_refl _, by unfold maxLen; omega, by simp, List.take_of_length_le (by simp)⟩⟩

set_option maxRecDepth 100000 in
set_option maxHeartbeats 800000 in
theorem copyBols_calls (v : Value) (xs : List Bool) (w : World) (h : RdZ w v xs) (h0 : 0 < xs.length) (hn : xs.length ≤ 1048576) :
    Calls Try.prog 111 #[v] w fun e w' => ∃ v', e = .returned v' ∧ OwnZ w' w.heap.size v' xs ∧ Below w.heap.size w w' := by
  have R := hide h
  obtain ⟨a, cap, rfl, mh, _⟩ := h.sl
  clear h
  go_enter Try.func111, Try.ntmps111
  go_wp2_with (at_make; refine wpList_make_bols rfl _ _ rfl w.heap.size _ _ xs.length rfl rfl (by omega) (by omega) (by omega) (Nat.le_refl _) ?_)
  intro w0 hown0 hgrow0
  have o0 : w0.ownsRow w.heap.size 4 1 (.slice (some ⟨w.heap.size, 0, none⟩) xs.length xs.length) xs.length ((List.replicate xs.length false).map Value.bool) := by
    have := hown0
    unfold OwnZ at this
    rwa [List.length_replicate] at this
  have b0 : Below w.heap.size w w0 := (Below.refl _ _).grown hgrow0 (Nat.le_refl _) (fun k h => by cases h)
  have E0 := hide o0
  have B0 := hide b0
  clear hown0 hgrow0 o0 b0
  go_wp2_with (refine wpList_copy_bols rfl (.tmp 7) (.tmp 8) rfl w.heap.size w.heap.size _ xs rfl E0.out _ rfl (R.out.below B0.out) (Nat.le_refl _) hn h0 ?_)
  intro w1 o1 g1
  have O1 := hide o1
  have B1 := hide (B0.out.grown g1 B0.out.size (fun k h => by cases h; exact Nat.le_refl _))
  clear o1 g1
  go_wp2
  go_ret
  exact ⟨_, rfl, O1.out, B1.out⟩


/-- 'append(out, p...)', out the call's own, p whatever reads as these Booleans (one at least). -/
theorem wpList_append_rz {w : World} {ops : Array Oper} {rest : List Oper} {o : Oper} {a : Act} {Q : Exit → Act → World → Prop} (hgd : o.guard = none) (s x : Operand)
    (ho : o.op = .call { callee := .builtin .append, args := #[s, x], argTypes := #[36, 36] })
    (base : Nat) (v : Value) (n : Nat) (xs zs : List Bool) (hs : a.eval s = v) (hown : w.ownsRow base 4 1 v n (xs.map Value.bool)) (u : Value) (hx : a.eval x = u) (hr : RdZ w u zs) (h0 : 0 < zs.length)
    (hm : n + zs.length ≤ 1073741824) (hbase : base ≤ w.heap.size)
    (h : ∀ v' w', OwnZ w' base v' (xs ++ zs) → w.grownBy w' v.ownBlock → wpList Try.prog ops Q rest (a.put o.dst v') w') : wpList Try.prog ops Q (o :: rest) a w := by
  obtain ⟨i0, hi, hz0, hz1, hz2⟩ := info_parts infoBol
  have hxn : xs.length = n := by have := hown.1; simpa using this
  obtain ⟨ad, cap, rfl, h1, ⟨h2, h2'⟩, h3⟩ := hr
  rcases h3 with h3 | ⟨b, off, rfl, _, hc⟩
  · subst h3; simp at h0
  refine wpList_append_own (w := w) hgd s x _ ho base _ i0 (.bool false) 1 1 Try.underlying36 hi hz0 hz1 hz2 rfl (by decide) v n _ hs hown ⟨b, off, none⟩ zs.length cap (zs.map Value.bool) hx (by simp) ?_ (bols_oneCell _) (by unfold maxLen; omega) (by omega) hbase ?_
  · intro j y hj
    have hjl : j < zs.length := by simpa using (List.getElem?_eq_some_iff.1 hj).1
    have hadd : (⟨b, off, none⟩ : Addr).add j = ⟨b, off + j, none⟩ := by unfold Addr.add; split <;> simp_all
    rw [hadd, hc j hjl]
    rw [List.getElem?_map, List.getElem?_eq_getElem hjl] at hj
    simp only [Option.map_some, Option.some.injEq] at hj
    rw [← hj, List.getD_eq_getElem?_getD, List.getElem?_eq_getElem hjl, Option.getD_some]
  · intro v' w' ho' hg' _
    refine h v' w' ?_ hg'
    show World.ownsRow _ _ _ _ _ (xs ++ zs).length _
    rw [List.map_append, List.length_append, hxn]
    exact ho'
/-- 'make(bitSet[int], n)': n times false, of the call's own, in the next block. -/
theorem wpList_make_bits {w : World} {ops : Array Oper} {rest : List Oper} {o : Oper} {a : Act} {Q : Exit → Act → World → Prop} (hg : o.guard = none) (l c : Operand) (hop : o.op = Op.makeSlice 88 l c)
    (base : Nat) (L C : Int) (n : Nat) (hl : a.eval l = .int .i64 L) (hc : a.eval c = .int .i64 C) (hL : L = (n : Int)) (hC : C = (n : Int)) (hn : n ≤ 1073741824) (hb : base ≤ w.heap.size)
    (h : ∀ w', OwnZ w' base (.slice (some ⟨w.heap.size, 0, none⟩) n n) (List.replicate n false) → w.grownBy w' none → wpList Try.prog ops Q rest (a.put o.dst (.slice (some ⟨w.heap.size, 0, none⟩) n n)) w') : wpList Try.prog ops Q (o :: rest) a w := by
  obtain ⟨i0, hi, hz0, hz1, hz2⟩ := info_parts infoBol
  refine wpList_make_full w hg l c _ hop base 4 i0 (.bool false) 1 Try.underlying88 hi hz0 hz1 _ _ L C n hl hc hL hC (by rw [hz2]; omega) (by unfold maxLen; omega) hb ?_
  intro w' ho hg'
  refine h w' ?_ hg'
  show World.ownsRow _ _ _ _ _ (List.replicate n false).length _
  rw [List.length_replicate, List.map_replicate]
  have e : (madeCells (Value.bool false).cells (n * 1)).toList = List.replicate n (Value.bool false) := by
    rw [Nat.mul_one]; exact toList_madeCells_one _ n
  rw [e] at ho
  exact ho

set_option maxRecDepth 100000 in
theorem newBitSet_calls (w : World) :
    Calls Try.prog 74 #[] w fun e w' => ∃ v', e = .returned v' ∧ OwnZ w' w.heap.size v' no64 ∧ Below w.heap.size w w' := by
  go_enter Try.func74, Try.ntmps74
  go_wp2_with (at_make; refine wpList_make_bits rfl _ _ rfl w.heap.size _ _ 64 rfl rfl (by omega) (by omega) (by omega) (Nat.le_refl _) ?_)
  intro w0 hown0 hgrow0
  have E0 := hide hown0
  have G0 := hide hgrow0
  clear hown0 hgrow0
  go_wp2
  go_ret
  exact ⟨_, rfl, E0.out, (Below.refl _ _).grown G0.out (Nat.le_refl _) (fun k h => by cases h)⟩

set_option maxRecDepth 100000 in
set_option maxHeartbeats 800000 in
theorem bitsIn_calls (v : Value) (xs : List Bool) (w : World) (h : RdZ w v xs) (h0 : 0 < xs.length) (hn : xs.length ≤ 1048576) :
    Calls Try.prog 84 #[.agg #[v]] w fun e w' => ∃ v', e = .returned v' ∧ OwnZ w' w.heap.size v' xs ∧ Below w.heap.size w w' := by
  have b0 := below_box w (.cells #[v] 46)
  have R1 := hide (h.below b0)
  have B0 := hide b0
  obtain ⟨a, c, rfl, _⟩ := h.slv
  clear b0 h
  go_enter Try.func84, Try.ntmps84
  go_wp2_with fail
  refine (copyBols_calls _ xs _ R1.out h0 hn).mono ?_
  rintro e w1 ⟨v1, rfl, o1, b1⟩
  have O1 := hide (ownsRow_mono o1 B0.out.size)
  have B1 := hide (B0.out.trans (b1.mono B0.out.size))
  clear o1 b1 B0
  go_wp2
  go_ret
  exact ⟨_, rfl, O1.out, B1.out⟩

set_option maxRecDepth 100000 in
set_option maxHeartbeats 800000 in
theorem put_calls (sv qv : Value) (bs : List Bool) (ns : List Int) (base : Nat) (w : World) (hs : OwnZ w base sv bs) (hq : ∀ w', w.grownBy w' sv.ownBlock → Rd w' qv ns) (hin : ∀ i, i < ns.length → 0 ≤ ns.getD i 0 ∧ ns.getD i 0 < (bs.length : Int)) (h0 : 0 < bs.length) (hn : bs.length ≤ 1048576) :
    Calls Try.prog 110 #[sv, qv] w fun e w' => e = .returned (.tuple #[]) ∧ OwnZ w' base sv (rchN bs ns) ∧ w.grownBy w' sv.ownBlock := by
  obtain ⟨g, cap, rfl, hg1, hg2⟩ := hs.opn h0
  have Q := hide hq
  have S : Hid (w.ownsRow base 4 1 (.slice (some ⟨g, 0, none⟩) bs.length cap) bs.length (bs.map Value.bool)) := hs
  have HI := hide hin
  obtain ⟨qa, qcap, rfl, hq1, hq2, _⟩ := hq w (World.grownBy.refl _ _)
  have hm := hq2.1
  unfold maxLen at hm
  clear hq hs hin hq2
  go_enter Try.func110, Try.ntmps110
  go_wp2
  go_loopw [8] (fun vi wr => ∃ k : Nat, k ≤ ns.length ∧ vi = .int .i64 k ∧ wr.ownsRow base 4 1 (.slice (some ⟨g, 0, none⟩) bs.length cap) bs.length ((rchN bs (ns.take k)).map Value.bool) ∧ w.grownBy wr (some g)) (fun vi _ => ns.length - (intOf vi).toNat)
  case atStart => exact ⟨0, Nat.zero_le _, rfl, by rw [List.take_zero]; exact S.out, World.grownBy.refl _ _⟩
  case round =>
    obtain ⟨k, hk, rfl, hown, hgr⟩ := hrel
    by_cases hlt : k < ns.length
    · have hlt' : (k : Int) < (ns.length : Int) := by omega
      obtain ⟨b, off, rfl, hc1⟩ := (Q.out wr hgr).cellAt k hlt
      obtain ⟨hx0, hx1⟩ := HI.out k hlt
      obtain ⟨x, hx⟩ : ∃ x : Nat, ns.getD k 0 = (x : Int) := ⟨(ns.getD k 0).toNat, by omega⟩
      have RS := rchN_succ bs ns k hlt
      rw [hx, Int.toNat_natCast] at RS
      rw [hx] at hc1 hx1
      clear hx hx0
      have hc2 : wr.frozen? ⟨g, x, none⟩ = false := hown.frozenAt x
      obtain ⟨old, hc3⟩ : ∃ old, wr.cell? ⟨g, x, none⟩ = some old := by
        rw [hown.cellAt x (by omega)]
        have := rchN_len (ns.take k) bs
        exact ⟨_, List.getElem?_eq_getElem (by simp; omega)⟩
      have hst := hown.stored x (.bool true)
      rw [← List.map_set, ← RS] at hst
      have K := hide hst
      have G := hide hgr
      clear hst hown hgr RS
      go_wp2
      go_roundw
      case rel =>
        refine ⟨k + 1, by omega, by go_num, K.out.1, ?_⟩
        have := K.out.2
        have hgr := G.out
        exact ⟨this.os.trans hgr.os, this.tape.trans hgr.tape, this.output.trans hgr.output, Nat.le_trans hgr.size this.size, fun j hj hne => (this.block j (Nat.lt_of_lt_of_le hj hgr.size) hne).trans (hgr.block j hj hne)⟩
      case measure => simp [intOf]; omega
    · obtain rfl : k = ns.length := by omega
      have O := hown
      rw [List.take_length] at O
      have O1 := hide O
      clear O hown
      go_wp2
      go_end0
      refine ⟨rfl, ?_, hgr⟩
      show World.ownsRow _ _ _ _ _ (rchN bs ns).length _
      rw [rchN_len]
      exact O1.out

theorem own_slice {w : World} {base : Nat} {v : Value} {xs : List Int} (h : Own w base v xs) (h0 : 0 < xs.length) : ∃ g cap, v = .slice (some ⟨g, 0, none⟩) xs.length cap := by
  rcases h.2 with ⟨rfl, hn⟩ | ⟨g, cap, cur, rfl, hb, hg, hc, hm, hs, ht⟩
  · omega
  · exact ⟨g, cap, rfl⟩
set_option maxRecDepth 100000 in
set_option maxHeartbeats 1600000 in
theorem rising_calls (v : Value) (bs : List Bool) (w : World) (h : RdZ w v bs) (hn : bs.length ≤ 1048576) :
    Calls Try.prog 81 #[v] w fun e w' => ∃ g cap, e = .returned (.slice (some ⟨g, 0, none⟩) (selF 0 bs).length cap) ∧ Own w' w.heap.size (.slice (some ⟨g, 0, none⟩) (selF 0 bs).length cap) (selF 0 bs) ∧ Below w.heap.size w w' := by
  have R := hide h
  obtain ⟨a, cap, rfl, _⟩ := h.slv
  clear h
  obtain ⟨P, hP⟩ : ∃ P : Nat → List Int, P = fun k => selF 0 (bs.take k) := ⟨_, rfl⟩
  have P0 : P 0 = [] := by rw [hP]; rfl
  have PE : P bs.length = selF 0 bs := by rw [hP]; show selF 0 (bs.take bs.length) = _; rw [List.take_length]
  have PT : Hid (∀ k, k < bs.length → bs.getD k false = true → P (k + 1) = P k ++ [(k : Int)]) := by
    intro k hk hb
    rw [hP]
    show selF 0 _ = selF 0 _ ++ _
    rw [selF_succ bs k hk, hb]
    rfl
  have PF : Hid (∀ k, k < bs.length → bs.getD k false = false → P (k + 1) = P k) := by
    intro k hk hb
    rw [hP]
    show selF 0 _ = selF 0 _
    rw [selF_succ bs k hk, hb]
    exact List.append_nil _
  have PL : Hid (∀ k, k ≤ bs.length → (P k).length ≤ k) := by
    intro k hk
    rw [hP]
    have := selF_len (bs.take k) 0
    rw [List.length_take] at this
    show (selF 0 (bs.take k)).length ≤ k
    omega
  rw [← PE]
  have HP0 := hide P0
  clear hP P0 PE
  go_enter Try.func81, Try.ntmps81
  go_wp2
  go_loopw [3, 9] (fun vo vk wr => ∃ k : Nat, k ≤ bs.length ∧ vk = .int .i64 k ∧ (∃ g cap, vo = .slice (some ⟨g, 0, none⟩) (P k).length cap) ∧ Own wr w.heap.size vo (P k) ∧ Below w.heap.size w wr) (fun _ vk _ => bs.length - (intOf vk).toNat)
  case atStart =>
    refine ⟨0, Nat.zero_le _, rfl, ⟨w.heap.size, 0, by rw [HP0.out]; rfl⟩, ?_, (Below.refl _ _).alloc (Nat.le_refl _) _⟩
    rw [HP0.out]
    exact World.ownsRow_lit w #[] 0 (Nat.le_refl _) (by decide) (by rfl)
  case round =>
    obtain ⟨k, hk, rfl, ⟨g, gc, rfl⟩, ho, hb⟩ := hrel
    have O := hide ho
    have B := hide hb
    have hl := PL.out k hk
    clear ho hb
    by_cases hlt : k < bs.length
    · have hlt' : (k : Int) < (bs.length : Int) := by omega
      obtain ⟨b, off, rfl, hc1⟩ := (R.out.below B.out).atv k hlt
      cases hx : bs.getD k false with
      | false =>
        rw [hx] at hc1
        have e := PF.out k hlt hx
        have O1 := O.out
        rw [← e] at O1
        have OO := hide O1
        have E := hide e
        clear hx e O1
        go_wp2
        go_roundw
        case rel => exact ⟨k + 1, by omega, by go_num, ⟨g, gc, by rw [E.out]⟩, by simpa only [E.out] using OO.out, B.out⟩
        case measure => simp [intOf]; omega
      | true =>
        rw [hx] at hc1
        have E := hide (PT.out k hlt hx)
        obtain ⟨l, hl2⟩ : ∃ l, l = P k := ⟨_, rfl⟩
        have O2 := hide O.out
        rw [← hl2] at O2 hl
        rw [← hl2] at E
        rw [← hl2]
        clear hx hl2
        go_wp2_with (at_builtin; refine wpList_append_rd rfl _ _ rfl w.heap.size _ l.length l [((k : Nat) : Int)] rfl (O2.out.below (below_box _ _)) _ rfl rd_singleR (by simp; omega) (by have := B.out.size; simp; omega) ?_)
        intro v' w3 ho3 hg3
        have hb3 : Below w.heap.size w w3 := (B.out.alloc (by have := B.out.size; simp; omega) _).grown hg3 (by have := B.out.size; simp; omega) (fun i hi => (O2.out.lt i hi).1)
        rw [← E.out] at ho3
        obtain ⟨g3, c3, rfl⟩ := own_slice ho3 (by rw [E.out]; simp)
        have O3 := hide ho3
        have B3 := hide hb3
        clear ho3 hg3 hb3
        go_wp2
        go_roundw
        case rel => exact ⟨k + 1, by omega, by go_num, ⟨g3, c3, rfl⟩, O3.out, B3.out⟩
        case measure => simp [intOf]; omega
    · obtain rfl : k = bs.length := by omega
      go_wp2
      go_ret
      exact ⟨_, _, rfl, O.out, B.out⟩

set_option maxRecDepth 100000 in
set_option maxHeartbeats 800000 in
theorem join_calls (v u : Value) (xs ys : List Bool) (base : Nat) (w : World) (hv : OwnZ w base v xs) (hu : RdZ w u ys) (h0 : 0 < xs.length) (hx : xs.length ≤ 1048576) (hl : ys.length ≤ xs.length) :
    Calls Try.prog 85 #[v, u] w fun e w' => e = .returned (.tuple #[]) ∧ OwnZ w' base v (rchN xs (selF 0 ys)) ∧ w.grownBy w' v.ownBlock := by
  obtain ⟨g, cap, rfl, hg1, hg2⟩ := hv.opn h0
  have V := hide hv
  have U := hide hu
  have IN : Hid (∀ i, i < (selF 0 ys).length → 0 ≤ (selF 0 ys).getD i 0 ∧ (selF 0 ys).getD i 0 < (xs.length : Int)) := by
    intro i hi
    have hm : (selF 0 ys).getD i 0 ∈ selF 0 ys := by rw [List.getD_eq_getElem?_getD, List.getElem?_eq_getElem hi, Option.getD_some]; exact List.getElem_mem hi
    have h1 := selF_ge ys 0 _ hm
    have h2 := selF_lt ys 0 _ hm
    omega
  clear hv hu
  have hy : ys.length ≤ 1048576 := by omega
  generalize hS : selF 0 ys = S at IN ⊢
  have HS := hide hS
  clear hS
  go_enter Try.func85, Try.ntmps85
  go_wp2_with fail
  refine (rising_calls _ ys _ U.out hy).mono ?_
  rw [HS.out]
  rintro e w1 ⟨g1, c1, rfl, o1, b1⟩
  have O1 := hide o1
  have B1 := hide b1
  have V1 := hide (ownsRow_below V.out b1)
  clear o1 b1
  go_wp2_with fail
  refine (put_calls _ _ xs S base _ V1.out (fun w' hg => (Own.rd (World.ownsRow.kept O1.out hg (by
    right
    intro e
    have := (O1.out.lt g1 rfl).1
    simp [Value.ownBlock] at e
    omega)))) IN.out h0 hx).mono ?_
  rintro e w2 ⟨rfl, o2, g2⟩
  have O2 := hide o2
  have G2 := hide (grown_below B1.out g2)
  clear o2 g2
  go_wp2
  go_end0
  exact ⟨rfl, O2.out, G2.out⟩
end Go.Proofs.Ytehjfjplajimfaa

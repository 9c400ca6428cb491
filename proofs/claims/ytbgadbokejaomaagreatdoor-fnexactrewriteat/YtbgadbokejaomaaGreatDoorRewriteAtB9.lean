/-
  Where something is held: the program's HeldIn and its model's, call by call. Each contract says what it asks. 'append' to a new, empty row, as one step of a statement that leaves its order open: rows of texts, rows of Booleans. No condition; no call is walked here.
-/
import Derived.Test.YtbgadbokejaomaaGreatDoorRewriteAtB8
import Derived.Deep.AppendLies
namespace Go.Proofs.YtbgadbokejaomaaGreatDoor
open Go.RowKit
set_option linter.unusedVariables false

/-- The places below k where something is held. -/
def hpl (H : List ByteArray) (k : Nat) : List Int := ((List.range k).filter fun i => decide (0 < (H.getD i ⟨#[]⟩).size)).map fun i : Nat => (i : Int)
theorem hpl_yes (H : List ByteArray) (k : Nat) (h : 0 < (H.getD k ⟨#[]⟩).size) : hpl H (k + 1) = hpl H k ++ [(k : Int)] := by
  unfold hpl
  rw [List.range_succ, List.filter_append, List.map_append, List.filter_cons_of_pos (p := fun i => decide (0 < (H.getD i ⟨#[]⟩).size)) (a := k) (decide_eq_true h), List.filter_nil]
  rfl
theorem hpl_no (H : List ByteArray) (k : Nat) (h : ¬ 0 < (H.getD k ⟨#[]⟩).size) : hpl H (k + 1) = hpl H k := by
  unfold hpl
  rw [List.range_succ, List.filter_append, List.map_append, List.filter_cons_of_neg (p := fun i => decide (0 < (H.getD i ⟨#[]⟩).size)) (a := k) (fun e => h (of_decide_eq_true e)), List.filter_nil]
  simp
theorem hpl_len (H : List ByteArray) (k : Nat) : (hpl H k).length ≤ k := by
  unfold hpl
  rw [List.length_map]
  exact Nat.le_trans (List.length_filter_le _ _) (by simp)
theorem hpl_mem (H : List ByteArray) (k : Nat) (x : Int) : x ∈ hpl H k ↔ ∃ i : Nat, x = (i : Int) ∧ i < k ∧ 0 < (H.getD i ⟨#[]⟩).size := by
  unfold hpl
  simp only [List.mem_map, List.mem_filter, List.mem_range, decide_eq_true_eq]
  constructor
  · rintro ⟨i, ⟨h1, h2⟩, rfl⟩
    exact ⟨i, rfl, h1, h2⟩
  · rintro ⟨i, rfl, h1, h2⟩
    exact ⟨i, ⟨h1, h2⟩, rfl⟩
theorem rd_one {w : World} {x : Int} : Rd (w.alloc (.cells #[.int .i64 x] 3)) (.slice (some ⟨w.heap.size, 0, none⟩) 1 1) [x] := by
  refine ⟨_, 1, rfl, by simp, ⟨by unfold maxLen; omega, fun h => by cases h⟩, .inr ⟨w.heap.size, 0, rfl, by simp, fun i hi => ?_⟩⟩
  have : i = 0 := by simpa using hi
  subst this
  rw [cell_of_row _ w.heap.size 0 _ _ _ (heap_alloc_new w _)]
  rfl
theorem own_ge' {w : World} {base : Nat} {v : Value} {xs : List Int} (h : Own w base v xs) : ∀ j, v.ownBlock = some j → base ≤ j := row_low h

set_option maxRecDepth 100000 in
set_option maxHeartbeats 800000 in
theorem heldPlaces_calls (p h b : Value) (H : List ByteArray) (w : World) (hh : RdT w h H) (hn : H.length ≤ 24) :
    Calls Tryz.prog 126 #[.agg #[p, h, b]] w fun e w' => ∃ v, e = .returned v ∧ Own w' w.heap.size v (hpl H H.length) ∧ Below w.heap.size w w' := by
  obtain ⟨W1, e1⟩ : ∃ W1, W1 = w.alloc (.cells #[p, h, b] 26) := ⟨_, rfl⟩
  have s1 : W1.heap.size = w.heap.size + 1 := by rw [e1]; simp
  have b1 : Below w.heap.size w W1 := by rw [e1]; exact below_box _ _
  have x1 : BoxAt W1 w.heap.size #[p, h, b] 26 := by rw [e1]; exact BoxAt.new _ _ _
  obtain ⟨W2, e2⟩ : ∃ W2, W2 = W1.alloc (.cells #[] 3) := ⟨_, rfl⟩
  have s2 : W2.heap.size = w.heap.size + 1 + 1 := by rw [e2, World.size_alloc, s1]
  have b2 : Below W1.heap.size W1 W2 := by rw [e2]; exact below_box _ _
  have O2 : Hid (Own W2 w.heap.size (.slice (some ⟨w.heap.size + 1, 0, none⟩) 0 0) []) := by
    show World.ownsRow _ _ _ _ _ _ _
    have := World.ownsRow_lit (base := w.heap.size) (e := 3) (size := 1) W1 #[] 0 (by omega) (by unfold maxLen; omega) (by simp)
    rw [e2]
    simpa [s1] using this
  have E2 : Hid ((w.alloc (.cells #[p, h, b] 26)).alloc (.cells #[] 3) = W2) := by show _ = _; rw [e2, e1]
  have BB := hide (b1.trans (b2.mono (by omega)))
  have RH := hide hh
  obtain ⟨ah, ch, rfl, mh, _⟩ := hh.sl
  clear e1 e2 b1 b2 x1 s1 hh
  go_enter Tryz.func126, Tryz.ntmps126
  go_wp2
  rw [E2.out]
  go_loopw [3, 4, 5, 10] (fun vo _ _ vi wr => ∃ k : Nat, k ≤ H.length ∧ vi = .int .i64 k ∧ Own wr w.heap.size vo (hpl H k) ∧ Below w.heap.size w wr) (fun _ _ _ vi _ => H.length - (intOf vi).toNat)
  case atStart => exact ⟨0, Nat.zero_le _, rfl, O2.out, BB.out⟩
  case round =>
    obtain ⟨k, hk, rfl, hown, hb⟩ := hrel
    obtain ⟨a0, cap0, rfl⟩ := row_slice hown
    have hge := own_ge' hown
    have hpl1 := hpl_len H k
    have GE := hide hge
    have HB := hide hb
    have O := hide hown
    by_cases hlt : k < H.length
    · obtain ⟨gh, oh, rfl, hc, _⟩ := (RH.out.below hb).cell k hlt
      have Y := hide (hpl_yes H k)
      have N := hide (hpl_no H k)
      generalize H.getD k ⟨#[]⟩ = z at hc Y N
      clear hb hown hge
      have hlt' : (k : Int) < (H.length : Int) := by omega
      by_cases hz : z.size = 0
      · have hzz := size_zero hz
        subst hzz
        clear hz
        go_wp2
        go_roundw
        case rel =>
          refine ⟨k + 1, by omega, by go_num, ?_, HB.out⟩
          rw [N.out (by decide)]
          exact O.out
        case measure => simp [intOf]; omega
      · obtain ⟨zz1, zz2⟩ := toList_ne (z := z) (fun e => hz (by rw [e]; rfl))
        have Z := hide hz
        obtain ⟨m, hm⟩ : ∃ m, m = (hpl H k).length := ⟨_, rfl⟩
        have HM := hide hm
        rw [← hm] at hpl1 GE ⊢
        have o3 : wr.ownsRow w.heap.size 3 1 (.slice a0 m cap0) m ((hpl H k).map (Value.int .i64)) := by rw [hm]; exact O.out
        have O3 := hide (o3.alloc (.cells #[.int .i64 (k : Int)] 3))
        clear hm o3 hz
        go_wp2_with (at_builtin; refine wpList_append_rd rfl _ _ rfl w.heap.size _ m (hpl H k) [((k : Nat) : Int)] rfl O3.out _ rfl rd_one (by simp; omega) (by have := HB.out.size; simp; omega) ?_)
        intro v' w2 o2 g2
        have O4 := hide o2
        have B4 := hide ((HB.out.alloc HB.out.size (.cells #[.int .i64 (k : Int)] 3)).grown g2 (by have := HB.out.size; simp; omega) GE.out)
        clear o2 g2
        go_wp2
        go_roundw
        case rel =>
          refine ⟨k + 1, by omega, by go_num, ?_, B4.out⟩
          rw [Y.out (by have := Z.out; omega)]
          exact O4.out
        case measure => simp [intOf]; omega
    · obtain rfl : k = H.length := by omega
      clear hb hown hge
      go_wp2
      go_ret
      exact ⟨_, rfl, O.out, HB.out⟩

set_option maxRecDepth 100000 in
set_option maxHeartbeats 800000 in
theorem l7Held_calls (p h b : Value) (H : List ByteArray) (w : World) (hh : RdT w h H) (hn : H.length ≤ 24) :
    Calls Tryz.prog 61 #[.agg #[p, h, b]] w fun e w' => ∃ v, e = .returned v ∧ Own w' w.heap.size v (hpl H H.length) ∧ Below w.heap.size w w' := by
  have BB := hide (below_box w (.cells #[p, h, b] 26))
  have RH := hide hh
  obtain ⟨ah, ch, rfl, mh, _⟩ := hh.sl
  clear hh
  go_enter Tryz.func61, Tryz.ntmps61
  go_wp2
  generalize w.alloc (.cells #[p, .slice ah H.length ch, b] 26) = W2 at *
  go_loopw [3, 4, 5, 9] (fun vo _ _ vi wr => ∃ k : Nat, k ≤ H.length ∧ vi = .int .i64 k ∧ Own wr w.heap.size vo (hpl H k) ∧ Below w.heap.size w wr) (fun _ _ _ vi _ => H.length - (intOf vi).toNat)
  case atStart => exact ⟨0, Nat.zero_le _, rfl, World.ownsRow_nil _ _ _ _, BB.out⟩
  case round =>
    obtain ⟨k, hk, rfl, hown, hb⟩ := hrel
    obtain ⟨a0, cap0, rfl⟩ := row_slice hown
    have hge := own_ge' hown
    have hpl1 := hpl_len H k
    have GE := hide hge
    have HB := hide hb
    have O := hide hown
    by_cases hlt : k < H.length
    · obtain ⟨gh, oh, rfl, hc, _⟩ := (RH.out.below hb).cell k hlt
      have Y := hide (hpl_yes H k)
      have N := hide (hpl_no H k)
      generalize H.getD k ⟨#[]⟩ = z at hc Y N
      clear hb hown hge
      have hlt' : (k : Int) < (H.length : Int) := by omega
      by_cases hz : z.size = 0
      · have hzz := size_zero hz
        subst hzz
        clear hz
        go_wp2
        go_roundw
        case rel =>
          refine ⟨k + 1, by omega, by go_num, ?_, HB.out⟩
          rw [N.out (by decide)]
          exact O.out
        case measure => simp [intOf]; omega
      · obtain ⟨zz1, zz2⟩ := toList_ne (z := z) (fun e => hz (by rw [e]; rfl))
        have Z := hide hz
        obtain ⟨m, hm⟩ : ∃ m, m = (hpl H k).length := ⟨_, rfl⟩
        have HM := hide hm
        rw [← hm] at hpl1 GE ⊢
        have o3 : wr.ownsRow w.heap.size 3 1 (.slice a0 m cap0) m ((hpl H k).map (Value.int .i64)) := by rw [hm]; exact O.out
        have O3 := hide (o3.alloc (.cells #[.int .i64 (k : Int)] 3))
        clear hm o3 hz
        go_wp2_with (at_builtin; refine wpList_append_rd rfl _ _ rfl w.heap.size _ m (hpl H k) [((k : Nat) : Int)] rfl O3.out _ rfl rd_one (by simp; omega) (by have := HB.out.size; simp; omega) ?_)
        intro v' w2 o2 g2
        have O4 := hide o2
        have B4 := hide ((HB.out.alloc HB.out.size (.cells #[.int .i64 (k : Int)] 3)).grown g2 (by have := HB.out.size; simp; omega) GE.out)
        clear o2 g2
        go_wp2
        go_roundw
        case rel =>
          refine ⟨k + 1, by omega, by go_num, ?_, B4.out⟩
          rw [Y.out (by have := Z.out; omega)]
          exact O4.out
        case measure => simp [intOf]; omega
    · obtain rfl : k = H.length := by omega
      clear hb hown hge
      go_wp2
      go_ret
      exact ⟨_, rfl, O.out, HB.out⟩
end Go.Proofs.YtbgadbokejaomaaGreatDoor

namespace Go.Proofs.YtbgadbokejaomaaGreatDoor
open Go.RowKit
set_option linter.unusedVariables false

theorem step_app0 {W : World} {ops : Array Oper} {o : Oper} {a : Act} {K : Act → World → Prop} {Q : Exit → Act → World → Prop} {E : Prop} (hgd : o.guard = none) (s x : Operand) (t e : TypeId)
    (ho : o.op = .call { callee := .builtin .append, args := #[s, x], argTypes := #[t, t] }) (i : TypeInfo) (z : Value) (bytes : Nat) (ht : Tryz.prog.underlying t = some (.slice e)) (hi : Tryz.prog.info? e = some i) (hz : i.zero = some z)
    (hsize : i.size = 1) (hby : i.bytes = bytes) (hzs : z.cells.size = 1) (hb16 : bytes ≤ 16)
    (gs : Nat) (hs : a.eval s = .slice (some ⟨gs, 0, none⟩) 0 0) (ad : Addr) (m c : Nat) (news : List Value) (hx : a.eval x = .slice (some ad) m c) (hl : news.length = m) (hnews : ∀ j u, news[j]? = some u → W.cell? (ad.add j) = some u)
    (hm : 0 < m) (hn : m ≤ 24)
    (h : ∀ v' w', w'.ownsRow W.heap.size e 1 v' m news → Below W.heap.size W w' → K (a.put o.dst v') w') :
    if Region.wanted o (yielded ops a.tmps) = true then Oper.wp Tryz.prog o a W K Q else E := by
  have hw : Region.wanted o (yielded ops a.tmps) = true := by simp [Region.wanted, hgd]
  rw [if_pos hw]
  have h63 : 0 + m ≤ maxLen := by unfold maxLen; omega
  have hfit : Builtin.nextslicecap (0 + m) 0 * i.bytes ≤ 281474976710656 := by
    refine growslice_fits (by omega) ?_
    rw [hby]
    have h2 : (0 + m) * bytes ≤ 24 * 16 := Nat.mul_le_mul (by omega) hb16
    omega
  have hr := run_append_grow (P := Tryz.prog) W t o.type e i z ht hi hz ⟨gs, 0, none⟩ 0 0 [] (by simp) (fun j v hv => by simp at hv) ad m c news (by rw [hsize, Nat.mul_one]; exact hl) hnews (by omega) (by omega) hfit
  have hge := grownCap_ge W (0 + m) 0 e
  have hcm : grownCap W (0 + m) 0 e ≤ maxLen := grownCap_le_maxLen W (0 + m) 0 e h63
  rw [Nat.zero_add] at hr hge hcm
  unfold Oper.wp execOp
  simp only [ho, resolve, invoke, builtin, Sem.run_bind, Sem.run_pure, Result.andThen_ok, List.map_toArray, List.map_cons, List.map_nil, hs, hx, hr]
  refine h _ _ ⟨by rw [hl, Nat.mul_one], .inr ⟨W.heap.size, _, _, rfl, Nat.le_refl _, heap_alloc_new W.drew _, hge, hcm, ?_, ?_⟩⟩ ((Below.refl _ _).drew.alloc (by show _ ≤ W.heap.size; exact Nat.le_refl _) _)
  · simp only [Array.size_append, List.size_toArray, size_zeroCells, hzs, hl, List.length_nil]
    omega
  · simp only [Array.toList_append, List.nil_append, Nat.mul_one]
    rw [← hl]
    exact List.take_left

theorem step_app_txt {W : World} {ops : Array Oper} {o : Oper} {a : Act} {K : Act → World → Prop} {Q : Exit → Act → World → Prop} {E : Prop} (hgd : o.guard = none) (s x : Operand)
    (ho : o.op = .call { callee := .builtin .append, args := #[s, x], argTypes := #[22, 22] }) (gs : Nat) (hs : a.eval s = .slice (some ⟨gs, 0, none⟩) 0 0) (v : Value) (hx : a.eval x = v) (xs : List ByteArray) (hr : RdT W v xs) (hm : 0 < xs.length) (hn : xs.length ≤ 24)
    (h : ∀ v' w', OwnT w' W.heap.size v' xs → Below W.heap.size W w' → K (a.put o.dst v') w') :
    if Region.wanted o (yielded ops a.tmps) = true then Oper.wp Tryz.prog o a W K Q else E := by
  obtain ⟨i0, hi, hz0, hz1, hz2⟩ := info_parts infoStr
  obtain ⟨ad, cap, rfl, h1, h2, h4, h3⟩ := hr
  rcases h3 with h3 | ⟨b, off, rfl, hlt, hc⟩
  · subst h3; simp at hm
  refine step_app0 hgd s x 22 9 ho i0 (.string ⟨#[]⟩) 16 Tryz.underlying22 hi hz0 hz1 hz2 rfl (by omega) gs hs ⟨b, off, none⟩ xs.length cap (xs.map Value.string) hx (by simp) ?_ hm hn h
  intro j u hu
  have hjl : j < xs.length := by simpa using (List.getElem?_eq_some_iff.1 hu).1
  have hadd : (⟨b, off, none⟩ : Addr).add j = ⟨b, off + j, none⟩ := by unfold Addr.add; split <;> simp_all
  rw [hadd, hc j hjl]
  rw [List.getElem?_map, List.getElem?_eq_getElem hjl] at hu
  simp only [Option.map_some, Option.some.injEq] at hu
  rw [← hu, List.getD_eq_getElem?_getD, List.getElem?_eq_getElem hjl, Option.getD_some]
theorem step_app_bol {W : World} {ops : Array Oper} {o : Oper} {a : Act} {K : Act → World → Prop} {Q : Exit → Act → World → Prop} {E : Prop} (hgd : o.guard = none) (s x : Operand)
    (ho : o.op = .call { callee := .builtin .append, args := #[s, x], argTypes := #[24, 24] }) (gs : Nat) (hs : a.eval s = .slice (some ⟨gs, 0, none⟩) 0 0) (v : Value) (hx : a.eval x = v) (xs : List Bool) (hr : RdZ W v xs) (hm : 0 < xs.length) (hn : xs.length ≤ 24)
    (h : ∀ v' w', OwnZ w' W.heap.size v' xs → Below W.heap.size W w' → K (a.put o.dst v') w') :
    if Region.wanted o (yielded ops a.tmps) = true then Oper.wp Tryz.prog o a W K Q else E := by
  obtain ⟨i0, hi, hz0, hz1, hz2⟩ := info_parts infoBol
  obtain ⟨ad, cap, rfl, h1, h2, h3⟩ := hr
  rcases h3 with h3 | ⟨b, off, rfl, hlt, hc⟩
  · subst h3; simp at hm
  refine step_app0 hgd s x 24 4 ho i0 (.bool false) 1 Tryz.underlying24 hi hz0 hz1 hz2 rfl (by omega) gs hs ⟨b, off, none⟩ xs.length cap (xs.map Value.bool) hx (by simp) ?_ hm hn h
  intro j u hu
  have hjl : j < xs.length := by simpa using (List.getElem?_eq_some_iff.1 hu).1
  have hadd : (⟨b, off, none⟩ : Addr).add j = ⟨b, off + j, none⟩ := by unfold Addr.add; split <;> simp_all
  rw [hadd, hc j hjl]
  rw [List.getElem?_map, List.getElem?_eq_getElem hjl] at hu
  simp only [Option.map_some, Option.some.injEq] at hu
  rw [← hu, List.getD_eq_getElem?_getD, List.getElem?_eq_getElem hjl, Option.getD_some]
end Go.Proofs.YtbgadbokejaomaaGreatDoor

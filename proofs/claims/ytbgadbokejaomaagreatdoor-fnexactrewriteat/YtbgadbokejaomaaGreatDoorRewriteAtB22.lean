/-
  Lists of rows put together: what the outer list's cells hold, a copy of such cells, rows behind rows. Each theorem says what it asks. Unlike elements and Cauchy's rows: the program's functions and its model's, call by call. The program's table of rests must hold its seven numbers where the program's own function is called. Cauchy's matrix: the program's function and its model's, at all lists. The program's table of rests must hold its seven numbers where the program's own function is called.
-/
import Derived.Test.YtbgadbokejaomaaGreatDoorRewriteAtB21
import Derived.Test.YtbgadbokejaomaaGreatDoorRewriteAtB20
import Derived.Deep.WholeRow
namespace Go.Proofs.YtbgadbokejaomaaGreatDoor
open Go.RowKit

/-- The value v is a list whose cells hold these values, each of one cell. -/
def Vals (w : World) (v : Value) (us : List Value) : Prop :=
  ∃ a cap, v = .slice a us.length cap ∧ us.length ≤ cap ∧ (cap ≤ maxLen ∧ (a = none → cap = 0)) ∧ (∀ u ∈ us, u.oneCell' = true) ∧
    (us = [] ∨ ∃ b off, a = some ⟨b, off, none⟩ ∧ b < w.heap.size ∧ ∀ i, i < us.length → w.cell? ⟨b, off + i, none⟩ = some (us.getD i nilRow))
theorem Vals.below {w w' : World} {v : Value} {us : List Value} (h : Vals w v us) (hb : Below w.heap.size w w') : Vals w' v us := by
  obtain ⟨a, cap, rfl, h1, h2, h0, h3⟩ := h
  refine ⟨a, cap, rfl, h1, h2, h0, ?_⟩
  rcases h3 with h3 | ⟨b, off, rfl, hlt, hc⟩
  · exact .inl h3
  · exact .inr ⟨b, off, rfl, Nat.lt_of_lt_of_le hlt hb.size, fun i hi => (hb.cell (p := ⟨b, off + i, none⟩) hlt).trans (hc i hi)⟩
theorem RdM.vals {w : World} {v : Value} {m : List (List Int)} (h : RdM w v m) : ∃ us, Vals w v us ∧ us.length = m.length ∧ ∀ i, i < m.length → Rd w (us.getD i nilRow) (m.getD i []) := by
  obtain ⟨a, cap, rfl, h1, h2, h3⟩ := h
  rcases h3 with h3 | ⟨b, off, rfl, hlt, hc⟩
  · subst h3
    exact ⟨[], ⟨a, cap, rfl, h1, h2, fun u hu => by simp at hu, .inl rfl⟩, rfl, fun i hi => by simp at hi⟩
  · obtain ⟨us, hus⟩ : ∃ us, us = (List.range m.length).map fun i => (w.cell? ⟨b, off + i, none⟩).getD nilRow := ⟨_, rfl⟩
    have hl : us.length = m.length := by rw [hus]; simp
    have hg : ∀ i, i < m.length → w.cell? ⟨b, off + i, none⟩ = some (us.getD i nilRow) ∧ Rd w (us.getD i nilRow) (m.getD i []) := by
      intro i hi
      obtain ⟨u, hu, hr⟩ := hc i hi
      have e : us.getD i nilRow = u := by rw [hus]; simp [List.getD_eq_getElem?_getD, hi, hu]
      rw [e]
      exact ⟨hu, hr⟩
    refine ⟨us, ⟨_, cap, by rw [hl], by rw [hl]; exact h1, h2, fun u hu => ?_, .inr ⟨b, off, rfl, hlt, fun i hi => (hg i (by omega)).1⟩⟩, hl, fun i hi => (hg i hi).2⟩
    obtain ⟨i, hi, rfl⟩ := List.mem_iff_getElem.1 hu
    obtain ⟨x, c, hx, _⟩ := (hg i (by omega)).2
    rw [List.getD_eq_getElem?_getD, List.getElem?_eq_getElem hi, Option.getD_some] at hx
    rw [hx]
    rfl
theorem MatV.vals {w : World} {lo hi : Nat} {v : Value} {vs : List Value} {m : List (List Int)} (h : MatV w lo hi v vs m) : Vals w v vs := by
  have h1 : ∀ u ∈ vs, u.oneCell' = true := by
    intro u hu
    obtain ⟨i, hi, rfl⟩ := List.mem_iff_getElem.1 hu
    obtain ⟨a, n, c, hs⟩ := (h.row i (by rw [← h.len]; exact hi)).shape
    rw [List.getD_eq_getElem?_getD, List.getElem?_eq_getElem hi, Option.getD_some] at hs
    rw [hs]
    rfl
  rcases h.head.2 with ⟨rfl, hn⟩ | ⟨g, cap, cur, rfl, hb, hg, hc, hm, hs, ht⟩
  · have : vs = [] := List.eq_nil_of_length_eq_zero (by rw [h.len]; exact hn)
    subst this
    exact ⟨none, 0, rfl, Nat.le_refl _, ⟨Nat.zero_le _, fun _ => rfl⟩, fun u hu => by simp at hu, .inl rfl⟩
  · refine ⟨_, cap, by rw [h.len], by rw [h.len]; exact hc, ⟨hm, fun h => by cases h⟩, h1, .inr ⟨g, 0, rfl, (Array.getElem?_eq_some_iff.1 hg).1, fun i hi => ?_⟩⟩
    rw [Nat.zero_add]
    exact h.cell i (by rw [← h.len]; exact hi)
theorem full_V {w : World} {base g n : Nat} {e : TypeId} {xs : List Value} (h : w.ownsRow base e 1 (.slice (some ⟨g, 0, none⟩) n n) n xs) : w.heap[g]? = some (.cells xs.toArray e (0, 0)) := by
  rcases h.2 with ⟨h', _⟩ | ⟨g', cap', cur, h', _, hg, _, _, hs, ht⟩
  · simp at h'
  · simp only [Value.slice.injEq, Option.some.injEq, Addr.mk.injEq, and_true, true_and] at h'
    obtain ⟨rfl, rfl⟩ := h'
    rw [hg, ← ht, List.take_of_length_le (by rw [Array.length_toList, hs]; omega)]
theorem of_block_V {w : World} {base g : Nat} {e : TypeId} {zs : List Value} (h : w.heap[g]? = some (.cells zs.toArray e (0, 0))) (hb : base ≤ g) (hm : zs.length ≤ maxLen) :
    w.ownsRow base e 1 (.slice (some ⟨g, 0, none⟩) zs.length zs.length) zs.length zs :=
  ⟨by simp, .inr ⟨g, zs.length, _, rfl, hb, h, Nat.le_refl _, hm, by simp, List.take_of_length_le (by simp)⟩⟩
def splV (ws : List Value) (off : Nat) (zs : List Value) : List Value := ws.take off ++ (zs ++ ws.drop (off + zs.length))
/-- 'copy(out[off:], p)', out a list of rows that the call has made, p not longer than what is there. -/
theorem wpList_copy_vals {w : World} {ops : Array Oper} {rest : List Oper} {o : Oper} {a : Act} {Q : Exit → Act → World → Prop} (hgd : o.guard = none) (d s : Operand)
    (ho : o.op = .call { callee := .builtin .copy, args := #[d, s], argTypes := #[115, 115] })
    (base g N off dLen dCap : Nat) (u : Value) (ws cs : List Value) (hd : a.eval d = .slice (some ⟨g, off, none⟩) dLen dCap) (hs : a.eval s = u)
    (hown : w.ownsRow base 27 1 (.slice (some ⟨g, 0, none⟩) N N) N ws) (hr : Vals w u cs) (hdl : cs.length ≤ dLen) (hfit : off + cs.length ≤ N)
    (h : ∀ w', w'.ownsRow base 27 1 (.slice (some ⟨g, 0, none⟩) N N) N (splV ws off cs) → w.grownBy w' (some g) → wpList Tryz.prog ops Q rest (a.put o.dst (goInt cs.length)) w') : wpList Tryz.prog ops Q (o :: rest) a w := by
  obtain ⟨sp, cap, rfl, h1, h2, h0, h3⟩ := hr
  have hwl : ws.length = N := by have := hown.1; simpa using this
  have hg := full_V hown
  have hbg : base ≤ g := (World.ownsRow.lt hown g rfl).1
  have hmx : N ≤ maxLen := by
    rcases hown.2 with ⟨h', _⟩ | ⟨g', cap', cur, h', _, _, _, hm, _⟩
    · simp at h'
    · simp at h'; omega
  rcases h3 with h3 | ⟨b, so, rfl, hlt, hc⟩
  · subst h3
    refine wpList_copy_nothing (w := w) hgd d s 115 115 ho 27 Tryz.underlying115 infoRowSize (some ⟨g, off, none⟩) sp dLen dCap 0 cap hd hs (by simp) ?_
    refine h w ?_ (World.grownBy.refl _ _)
    simp only [splV, List.nil_append, List.length_nil, Nat.add_zero, List.take_append_drop]
    exact hown
  · refine wpList_copy_own (w := w) hgd d s 115 115 ho 27 Tryz.underlying115 infoRowSize g off dLen dCap ⟨b, so, none⟩ cs.length cap hd hs ws.toArray 27 hg cs (Nat.min_eq_left hdl).symm ?_ (by simp; omega) h0 ?_
    · intro j y hj
      have hjl : j < cs.length := (List.getElem?_eq_some_iff.1 hj).1
      have hadd : (⟨b, so, none⟩ : Addr).add j = ⟨b, so + j, none⟩ := by unfold Addr.add; split <;> simp_all
      rw [hadd, hc j hjl, List.getD_eq_getElem?_getD, hj]
      rfl
    · have hl : (splV ws off cs).length = N := by simp [splV]; omega
      have := of_block_V (base := base) (setRow_heap w g _ (splV ws off cs).toArray 27 _ hg) hbg (by rw [hl]; exact hmx)
      rw [hl] at this
      exact h _ this ⟨rfl, rfl, rfl, by simp [World.setRow], fun k _ hk => setRow_other w g k _ (fun e => hk (by simp [e]))⟩
theorem getD_app {α : Type} (a b : List α) (d : α) (i : Nat) : (a ++ b).getD i d = if i < a.length then a.getD i d else b.getD (i - a.length) d := by
  simp only [List.getD_eq_getElem?_getD]
  by_cases h : i < a.length
  · rw [if_pos h, List.getElem?_append_left h]
  · rw [if_neg h, List.getElem?_append_right (by omega)]
/-- Rows behind rows: the outer list is new (or the first one's, grown), the rows are theirs. -/
theorem MatV.cat {w w2 : World} {B lo hi lo' hi' : Nat} {v1 v2 v' : Value} {vs1 vs2 : List Value} {m1 m2 : List (List Int)} (h1 : MatV w lo hi v1 vs1 m1) (h2 : MatV w lo' hi' v2 vs2 m2) (hl1 : B ≤ lo) (hl2 : B ≤ lo') (hd : hi ≤ lo' ∨ hi' ≤ lo) (hh : hi' ≤ w.heap.size) (hh1 : hi ≤ w.heap.size)
    (blk : Option Nat) (hg : w.grownBy w2 blk) (hb1 : ∀ i, i < m1.length → (vs1.getD i nilRow).ownBlock = none ∨ (vs1.getD i nilRow).ownBlock ≠ blk) (hb2 : ∀ i, i < m2.length → (vs2.getD i nilRow).ownBlock = none ∨ (vs2.getD i nilRow).ownBlock ≠ blk)
    (ho : w2.ownsRow B 27 1 v' (m1.length + m2.length) (vs1 ++ vs2)) : MatV w2 B w2.heap.size v' (vs1 ++ vs2) (m1 ++ m2) := by
  have hs := hg.size
  have e1 := h1.len
  have e2 := h2.len
  refine ⟨by simp [e1, e2], by rw [List.length_append]; exact ho, ?_, fun k hk => (World.ownsRow.lt ho k hk).2, ?_, ?_⟩
  · intro i hi
    rw [List.length_append] at hi
    rw [getD_app, getD_app, e1]
    split
    · rename_i h; exact World.ownsRow.kept (Own.mono (h1.row i h) hl1) hg (hb1 i h)
    · exact World.ownsRow.kept (Own.mono (h2.row (i - m1.length) (by omega)) hl2) hg (hb2 (i - m1.length) (by omega))
  · intro i k hi hk
    rw [List.length_append] at hi
    rw [getD_app, e1] at hk
    split at hk
    · rename_i h; have := h1.tops i k h hk; omega
    · have := h2.tops (i - m1.length) k (by omega) hk; omega
  · intro i j hi hj hij
    rw [List.length_append] at hi hj
    rw [getD_app, getD_app, e1]
    have cross : ∀ i j, i < m1.length → j < m2.length → ∀ x, (vs1.getD i nilRow).ownBlock = some x → (vs2.getD j nilRow).ownBlock = some x → False := by
      intro i j hi hj x h3 h4
      have q1 := h1.tops i x hi h3
      have q2 := (World.ownsRow.lt (h2.row j hj) x h4).1
      have q3 := h2.tops j x hj h4
      have q4 := (World.ownsRow.lt (h1.row i hi) x h3).1
      omega
    by_cases a : i < m1.length
    · by_cases b : j < m1.length
      · rw [if_pos a, if_pos b]; exact h1.apart i j a b hij
      · rw [if_pos a, if_neg b]
        cases hu : (vs1.getD i nilRow).ownBlock with
        | none => exact .inl rfl
        | some x => exact .inr (fun e => cross i (j - m1.length) a (by omega) x hu e.symm)
    · by_cases b : j < m1.length
      · rw [if_neg a, if_pos b]
        cases hu : (vs2.getD (i - m1.length) nilRow).ownBlock with
        | none => exact .inl rfl
        | some x => exact .inr (fun e => cross j (i - m1.length) b (by omega) x e.symm hu)
      · rw [if_neg a, if_neg b]; exact h2.apart _ _ (by omega) (by omega) (by omega)
/-- 'append(a, b...)', rows of the call's own behind rows of its own. -/
theorem wpList_append_mat {w : World} {ops : Array Oper} {rest : List Oper} {o : Oper} {a : Act} {Q : Exit → Act → World → Prop} (hgd : o.guard = none) (s x : Operand)
    (ho : o.op = .call { callee := .builtin .append, args := #[s, x], argTypes := #[115, 115] })
    (B lo hi lo' hi' : Nat) (v1 v2 : Value) (vs1 vs2 : List Value) (m1 m2 : List (List Int)) (hs : a.eval s = v1) (hx : a.eval x = v2) (h1 : MatV w lo hi v1 vs1 m1) (h2 : MatV w lo' hi' v2 vs2 m2)
    (hl1 : B ≤ lo) (hl2 : B ≤ lo') (hd : hi ≤ lo' ∨ hi' ≤ lo) (hh : hi' ≤ w.heap.size) (hh1 : hi ≤ w.heap.size) (h0 : 0 < m2.length) (hn1 : m1.length ≤ 1048576) (hn2 : m2.length ≤ 1048576) (hB : B ≤ w.heap.size)
    (K : ∀ v' w', MatV w' B w'.heap.size v' (vs1 ++ vs2) (m1 ++ m2) → w.grownBy w' v1.ownBlock → wpList Tryz.prog ops Q rest (a.put o.dst v') w') : wpList Tryz.prog ops Q (o :: rest) a w := by
  obtain ⟨i0, hi0, hz0, hz1, hz2⟩ := info_parts infoRow
  obtain ⟨sp, cap, rfl, q1, q2, q0, q3⟩ := h2.vals
  have e2 := h2.len
  rcases q3 with q3 | ⟨b, off, rfl, hlt, hc⟩
  · rw [q3] at e2; simp at e2; omega
  have hown : w.ownsRow B 27 1 v1 m1.length vs1 := by
    refine ⟨h1.head.1, ?_⟩
    rcases h1.head.2 with hn | ⟨g, cap, cur, rfl, hb', rest⟩
    · exact .inl hn
    · exact .inr ⟨g, cap, cur, rfl, Nat.le_trans hl1 hb', rest⟩
  refine wpList_append_own (w := w) hgd s x _ ho B _ i0 (.slice none 0 0) 1 24 Tryz.underlying115 hi0 hz0 hz1 hz2 rfl (by decide) v1 m1.length vs1 hs hown ⟨b, off, none⟩ vs2.length cap vs2 hx (by simp) ?_ q0 (by unfold maxLen; omega) (by omega) hB ?_
  · intro j y hj
    have hjl : j < vs2.length := (List.getElem?_eq_some_iff.1 hj).1
    have hadd : (⟨b, off, none⟩ : Addr).add j = ⟨b, off + j, none⟩ := by unfold Addr.add; split <;> simp_all
    rw [hadd, hc j hjl, List.getD_eq_getElem?_getD, hj]
    rfl
  · intro v' w' ho' hg' _
    refine K v' w' (h1.cat h2 hl1 hl2 hd hh hh1 _ hg' (fun i hi => heads_apart' h1.head (h1.row i hi)) (fun i hi => heads_apart' h1.head (h2.row i hi)) ?_) hg'
    rw [e2] at ho'
    exact ho'
theorem splV_two (N : Nat) (fs bs : List Value) (h : N = fs.length + bs.length) : splV (splV (List.replicate N nilRow) 0 fs) fs.length bs = fs ++ bs := by
  subst h
  simp [splV]

set_option maxRecDepth 100000 in
set_option maxHeartbeats 800000 in
theorem joinLists_calls (fv bv : Value) (fs bs : List Value) (w : World) (hf : Vals w fv fs) (hb : Vals w bv bs) (hn1 : fs.length ≤ 4096) (hn2 : bs.length ≤ 4096) (h0 : 0 < bs.length) :
    Calls Tryz.prog 224 #[fv, bv] w fun e w' => e = .returned (.slice (some ⟨w.heap.size, 0, none⟩) (fs.length + bs.length) (fs.length + bs.length)) ∧
      w'.ownsRow w.heap.size 27 1 (.slice (some ⟨w.heap.size, 0, none⟩) (fs.length + bs.length) (fs.length + bs.length)) (fs.length + bs.length) (fs ++ bs) ∧ w.grownBy w' none := by
  have F := hide hf
  have G := hide hb
  obtain ⟨fa, fcap, rfl, _⟩ := hf
  obtain ⟨ba, bcap, rfl, _⟩ := hb
  obtain ⟨N, hN⟩ : ∃ N, N = fs.length + bs.length := ⟨_, rfl⟩
  rw [← hN]
  have HN := hide hN
  have hN1 : fs.length < N := by omega
  have hN2 : N ≤ 8192 := by omega
  have HN3 : Hid (((fs.length : Int) + (bs.length : Int)) = (N : Int)) := by show ((fs.length : Int) + (bs.length : Int)) = (N : Int); omega
  have hN4 : Hid (fs.length + bs.length ≤ N) := by show fs.length + bs.length ≤ N; omega
  clear hN
  go_enter Tryz.func224, Tryz.ntmps224
  go_wp2_with (at_make; refine wpList_make_rows rfl _ _ rfl _ _ N rfl rfl HN3.out HN3.out (by omega) ?_)
  intro w0 hm0 hg0
  have ho0 : w0.ownsRow w.heap.size 27 1 (.slice (some ⟨w.heap.size, 0, none⟩) N N) N (List.replicate N nilRow) := by
    have := hm0.head
    rwa [List.length_replicate] at this
  have hb0 : Below w.heap.size w w0 := (Below.refl _ _).grown hg0 (Nat.le_refl _) (fun k h => by cases h)
  have O0 := hide ho0
  have B0 := hide hb0
  clear hm0 hg0 ho0 hb0
  go_wp2_with (refine wpList_copy_vals rfl (.tmp 12) (.tmp 13) rfl w.heap.size w.heap.size N 0 N N _ (List.replicate N nilRow) fs rfl rfl O0.out (F.out.below B0.out) (by omega) (by omega) ?_)
  intro w1 ho1 hg1
  have hb1 : Below w.heap.size w w1 := B0.out.grown hg1 B0.out.size (fun k hk => by cases hk; exact Nat.le_refl _)
  have O1 := hide ho1
  have B1 := hide hb1
  have i0 : (0 : Int) ≤ (fs.length : Int) := by omega
  have i1 : (fs.length : Int) ≤ (N : Int) := by omega
  have i3 : ¬ (N = fs.length) := by omega
  clear ho1 hg1 hb1
  go_wp2_with (refine wpList_copy_vals rfl (.tmp 18) (.tmp 19) rfl w.heap.size w.heap.size N fs.length (N - fs.length) (N - fs.length) _ (splV (List.replicate N nilRow) 0 fs) bs rfl rfl O1.out (G.out.below B1.out) (by have := hN4.out; omega) hN4.out ?_)
  intro w2 ho2 hg2
  have hb2 : Below w.heap.size w w2 := B1.out.grown hg2 B1.out.size (fun k hk => by cases hk; exact Nat.le_refl _)
  rw [splV_two N fs bs HN.out] at ho2
  have O2 := hide ho2
  have B2 := hide hb2
  clear ho2 hg2 hb2
  go_wp2
  go_ret
  exact ⟨rfl, O2.out, B2.out.os, B2.out.tape, B2.out.output, B2.out.size, fun k hk _ => B2.out.block k hk⟩
end Go.Proofs.YtbgadbokejaomaaGreatDoor

namespace Go.Proofs.YtbgadbokejaomaaGreatDoor
open Go.RowKit

theorem seenZero : Tryz.zeroCells260 = (List.replicate 256 (Value.bool false)).toArray := by kernel_rfl
theorem seenInfo : (Tryz.prog.info? 260).map (·.size) = some Tryz.zeroCells260.size := by kernel_rfl
theorem seenOne : Tryz.zeroCells260.all (·.oneCell') = true := by kernel_rfl
theorem seen_new (w : World) : (w.alloc (.cells Tryz.zeroCells260 260)).ownsRow w.heap.size 260 1 (.slice (some ⟨w.heap.size, 0, none⟩) 256 256) 256 (seenL []) := by
  have := of_block_V (w := w.alloc (.cells Tryz.zeroCells260 260)) (base := w.heap.size) (g := w.heap.size) (e := 260) (zs := List.replicate 256 (Value.bool false)) (by rw [← seenZero]; exact heap_alloc_last w _) (Nat.le_refl _) (by rw [List.length_replicate]; unfold maxLen; omega)
  rw [seenL_nil]
  rw [List.length_replicate] at this
  exact this
theorem flat_take (ls : List (List Int)) (i : Nat) (h : i < ls.length) : (ls.take (i + 1)).flatten = (ls.take i).flatten ++ ls.getD i [] := by
  rw [take_snocM ls [] i h, List.flatten_append]
  simp
theorem flat_no {ls : List (List Int)} {i k : Nat} (hi : i < ls.length) (h : unl ((ls.take i).flatten ++ (ls.getD i []).take k) = false) : unl ls.flatten = false := by
  have e : ls.flatten = ((ls.take i).flatten ++ (ls.getD i []).take k) ++ ((ls.getD i []).drop k ++ (ls.drop (i + 1)).flatten) := by
    conv => lhs; rw [← List.take_append_drop (i + 1) ls, List.flatten_append, flat_take ls i hi]
    rw [List.append_assoc, List.append_assoc, ← List.append_assoc ((ls.getD i []).take k), List.take_append_drop]
  rw [e]
  exact unl_app h _

set_option maxRecDepth 100000 in
set_option maxHeartbeats 1600000 in
theorem areUnlike_calls (v : Value) (ls : List (List Int)) (w : World) (h : RdM w v ls) (hn : ls.length ≤ 1048576) (hl : ∀ i, i < ls.length → (ls.getD i []).length ≤ 1048576) :
    Calls Tryz.prog 253 #[v] w fun e w' => e = .returned (.bool (unl ls.flatten)) ∧ Below w.heap.size w w' := by
  have R := hide h
  have HL := hide hl
  obtain ⟨a, cap, rfl, _⟩ := h
  clear hl
  obtain ⟨res, hres⟩ : ∃ r, r = unl ls.flatten := ⟨_, rfl⟩
  rw [← hres]
  have RES := hide hres
  clear hres
  have hsc := run_storeCells_new (P := Tryz.prog) w 260 Tryz.zeroCells260 Tryz.zeroCells260 seenInfo rfl seenOne
  have HSC := hide hsc
  clear hsc
  go_enter Tryz.func253, Tryz.ntmps253
  go_wp2
  rw [HSC.out]
  simp only [Result.andThen]
  rw [Oper.upon_skip]
  have O0 := hide (seen_new w)
  have B0 := hide ((Below.refl w.heap.size w).alloc (Nat.le_refl _) (.cells Tryz.zeroCells260 260))
  obtain ⟨w0, hw0⟩ : ∃ w0, w0 = w.alloc (.cells Tryz.zeroCells260 260) := ⟨_, rfl⟩
  rw [← hw0] at O0 B0 ⊢
  clear hw0 HSC
  go_wp2
  go_loopw [11] (fun vi wr => ∃ (i : Nat), i ≤ ls.length ∧ vi = .int .i64 i ∧ unl (ls.take i).flatten = true ∧ wr.ownsRow w.heap.size 260 1 (.slice (some ⟨w.heap.size, 0, none⟩) 256 256) 256 (seenL (ls.take i).flatten) ∧ Below w.heap.size w wr) (fun vi _ => ls.length - (intOf vi).toNat)
  case atStart => exact ⟨0, Nat.zero_le _, rfl, unl_nil, O0.out, B0.out⟩
  case round =>
    obtain ⟨i, hi, rfl, hu, ho, hb⟩ := hrel
    have U := hide hu
    have O := hide ho
    have B := hide hb
    clear hu ho hb
    by_cases hlt : i < ls.length
    · have hlt' : (i : Int) < (ls.length : Int) := by omega
      obtain ⟨b, off, uv, rfl, hbl, hc, hrd⟩ := R.out.rowAt i hlt
      have hc1 : wr.cell? ⟨b, off + i, none⟩ = some uv := (B.out.cell (p := ⟨b, off + i, none⟩) hbl).trans hc
      obtain ⟨r, hr⟩ : ∃ r, r = ls.getD i [] := ⟨_, rfl⟩
      have hrl := HL.out i hlt
      have hft := flat_take ls i hlt
      rw [← hr] at hrd hrl hft
      obtain ⟨pre, hpre⟩ : ∃ p, p = (ls.take i).flatten := ⟨_, rfl⟩
      have hno : ∀ k, unl (pre ++ r.take k) = false → res = false := fun k hk => by
        rw [RES.out]
        exact flat_no hlt (k := k) (by rw [← hr, ← hpre]; exact hk)
      rw [← hpre] at hft
      have hu1 := U.out
      have ho1 := O.out
      rw [← hpre] at hu1 ho1
      have RD := hide hrd
      have NO := hide hno
      have FT := hide hft
      have U1 := hide hu1
      have O1 := hide ho1
      obtain ⟨ua, uc, rfl, _⟩ := hrd
      clear hc hr hft hpre hno hu1 ho1 U O
      go_wp2
      go_loopw [17] (fun vi wr2 => ∃ (k : Nat), k ≤ r.length ∧ vi = .int .i64 k ∧ unl (pre ++ r.take k) = true ∧ wr2.ownsRow w.heap.size 260 1 (.slice (some ⟨w.heap.size, 0, none⟩) 256 256) 256 (seenL (pre ++ r.take k)) ∧ Below w.heap.size w wr2) (fun vi _ => r.length - (intOf vi).toNat)
      case atStart =>
        refine ⟨0, Nat.zero_le _, rfl, ?_, ?_, B.out⟩
        · rw [List.take_zero, List.append_nil]; exact U1.out
        · rw [List.take_zero, List.append_nil]; exact O1.out
      case round =>
        obtain ⟨k, hk, rfl, hu2, ho2, hb2⟩ := hrel
        have U2 := hide hu2
        have O2 := hide ho2
        have B2 := hide hb2
        clear hu2 ho2 hb2
        by_cases hltk : k < r.length
        · have hltk' : (k : Int) < (r.length : Int) := by omega
          obtain ⟨rb, roff, ru, rfl, hrc, hru⟩ := (RD.out.below B2.out).row k hltk
          obtain ⟨x, hx⟩ : ∃ x, x = r.getD k 0 := ⟨_, rfl⟩
          rw [← hx] at hru
          subst hru
          have hsn : unl (pre ++ r.take (k + 1)) = (unl (pre ++ r.take k) && (Gf.elOk x && !(pre ++ r.take k).contains x)) := by
            rw [take_snocM r 0 k hltk, ← hx, ← List.append_assoc, unl_snoc]
          have htk : pre ++ r.take (k + 1) = (pre ++ r.take k) ++ [x] := by rw [take_snocM r 0 k hltk, ← hx, List.append_assoc]
          rw [U2.out, Bool.true_and] at hsn
          have SN := hide hsn
          have TK := hide htk
          clear hsn htk hx
          cases hel : Gf.elOk x with
          | false =>
            have EL := hide hel
            have hf : res = false := NO.out (k + 1) (by rw [SN.out, EL.out]; rfl)
            have F := hide hf
            clear hel hf
            go_wp2_with fail
            refine (Gf.isE_calls x _).mono ?_
            rw [EL.out]
            rintro e w' ⟨rfl, rfl⟩
            go_wp2
            go_ret
            exact ⟨Gf.ret_bool F.out.symm, B2.out⟩
          | true =>
            have EL := hide hel
            obtain ⟨hx0, hx1⟩ := elOk_facts hel
            obtain ⟨n, rfl⟩ := Int.eq_ofNat_of_zero_le hx0
            have hn256 : n < 256 := by omega
            have hcell := World.ownsRow.cellAt O2.out n (by omega)
            rw [seenL_get _ n hn256] at hcell
            have hfr : wr.frozen? ⟨w.heap.size, n, none⟩ = false := World.ownsRow.frozenAt O2.out n
            have ST := hide (World.ownsRow.stored O2.out n (.bool true))
            obtain ⟨c, hcc⟩ : ∃ c, c = (pre ++ r.take k).contains (n : Int) := ⟨_, rfl⟩
            rw [← hcc] at hcell
            have CC := hide hcc
            have i0 : (0 : Int) ≤ (n : Int) := by omega
            have i1 : (n : Int) < 256 := by omega
            clear hel hcc hx0 hx1
            cases c with
            | true =>
              have hf : res = false := NO.out (k + 1) (by rw [SN.out, EL.out, ← CC.out]; rfl)
              have F := hide hf
              clear hf
              go_wp2_with fail
              refine (Gf.isE_calls (n : Int) _).mono ?_
              rw [EL.out]
              rintro e w' ⟨rfl, rfl⟩
              go_wp2
              go_ret
              exact ⟨Gf.ret_bool F.out.symm, B2.out⟩
            | false =>
              go_wp2_with fail
              refine (Gf.isE_calls (n : Int) _).mono ?_
              rw [EL.out]
              rintro e w' ⟨rfl, rfl⟩
              go_wp2
              go_roundw
              case rel =>
                refine ⟨k + 1, by omega, by go_num, ?_, ?_, B2.out.setCell (Nat.le_refl _) _⟩
                · rw [SN.out, EL.out, ← CC.out]; rfl
                · have := ST.out.1
                  rw [seenL_set _ n hn256, ← TK.out] at this
                  exact this
              case measure => simp [intOf]; omega
        · obtain rfl : k = r.length := by omega
          go_wp2
          go_roundw
          case rel =>
            have h1 := U2.out
            have h2 := O2.out
            rw [List.take_of_length_le (Nat.le_refl _), ← FT.out] at h1 h2
            exact ⟨i + 1, by omega, by go_num, h1, h2, B2.out⟩
          case measure => simp [intOf]; omega
    · obtain rfl : i = ls.length := by omega
      have hf : res = true := by
        have := U.out
        rw [List.take_of_length_le (Nat.le_refl _)] at this
        rw [RES.out, this]
      have F := hide hf
      clear hf
      go_wp2
      go_ret
      exact ⟨Gf.ret_bool F.out.symm, B.out⟩
end Go.Proofs.YtbgadbokejaomaaGreatDoor

namespace Go.Proofs.YtbgadbokejaomaaGreatDoor
open Go.RowKit

theorem rd_single {w : World} {z : Int} : Rd (w.alloc (.cells #[.int .i64 z] 3)) (.slice (some ⟨w.heap.size, 0, none⟩) 1 1) [z] := by
  refine ⟨_, 1, rfl, Nat.le_refl _, ⟨by unfold maxLen; omega, fun h => by cases h⟩, .inr ⟨_, 0, rfl, by simp, fun i hi => ?_⟩⟩
  simp at hi
  subst hi
  exact World.cell?_alloc_at _ _ _ _ (by simp)
theorem cauRow_length (a : Int) (ys : List Int) : (cauRow a ys).length = ys.length := by simp [cauRow]
theorem cauRow_get (a : Int) (ys : List Int) (j : Nat) (h : j < ys.length) : (cauRow a ys).getD j 0 = ((Gf.inv (a.toNat ^^^ (ys.getD j 0).toNat) : Nat) : Int) := by simp [cauRow, List.getD_eq_getElem?_getD, h]
theorem cauM_length (xs ys : List Int) : (cauM xs ys).length = xs.length := by simp [cauM]
theorem cauM_get (xs ys : List Int) (i : Nat) (h : i < xs.length) : (cauM xs ys).getD i [] = cauRow (xs.getD i 0) ys := by simp [cauM, List.getD_eq_getElem?_getD, h]

set_option maxRecDepth 100000 in
set_option maxHeartbeats 1600000 in
theorem l2Cauchy_calls (xv yv : Value) (xs ys : List Int) (w : World) (hx : Rd w xv xs) (hy : Rd w yv ys) (ex : xs.all Gf.elOk = true) (ey : ys.all Gf.elOk = true) (hnx : xs.length ≤ 1048576) (hny : ys.length ≤ 1048576) :
    Calls Tryz.prog 202 #[xv, yv] w fun e w' => ∃ v', e = .returned v' ∧ Mat w' w.heap.size w'.heap.size v' (cauM xs ys) ∧ Below w.heap.size w w' := by
  have RX := hide hx
  have RY := hide hy
  have EX := hide ex
  have EY := hide ey
  obtain ⟨xa, xcap, rfl, _⟩ := hx
  obtain ⟨ya, ycap, rfl, _⟩ := hy
  clear ex ey
  go_enter Tryz.func202, Tryz.ntmps202
  go_wp2
  go_loopw [5, 13] (fun vo vi wr => ∃ (k : Nat) (vs : List Value), k ≤ xs.length ∧ vi = .int .i64 k ∧ MatV wr w.heap.size wr.heap.size vo vs ((cauM xs ys).take k) ∧ Below w.heap.size w wr) (fun _ vi _ => xs.length - (intOf vi).toNat)
  case atStart =>
    obtain ⟨vs, hv⟩ := Mat.nil w w.heap.size w.heap.size
    exact ⟨0, vs, Nat.zero_le _, rfl, hv, Below.refl _ _⟩
  case round =>
    obtain ⟨k, vs, hk, rfl, hm, hb⟩ := hrel
    have M := hide hm
    have B := hide hb
    clear hm hb
    by_cases hlt : k < xs.length
    · have hlt' : (k : Int) < (xs.length : Int) := by omega
      obtain ⟨b, off, u, rfl, hc, hu⟩ := (RX.out.below B.out).row k hlt
      obtain ⟨x, hxx⟩ : ∃ x, x = xs.getD k 0 := ⟨_, rfl⟩
      rw [← hxx] at hu
      subst hu
      obtain ⟨r, hr⟩ : ∃ r, r = cauRow x ys := ⟨_, rfl⟩
      have hrl : r.length = ys.length := by rw [hr, cauRow_length]
      have hrg : ∀ j, j < ys.length → r.getD j 0 = ((Gf.inv (x.toNat ^^^ (ys.getD j 0).toNat) : Nat) : Int) := fun j hj => by rw [hr, cauRow_get _ _ _ hj]
      have hnext : (cauM xs ys).take k ++ [r] = (cauM xs ys).take (k + 1) := by
        rw [take_snocM (cauM xs ys) [] k (by rw [cauM_length]; exact hlt), cauM_get _ _ _ hlt, ← hxx, hr]
      have hex := Gf.elOk_tests (Gf.all_of_getD.1 EX.out k hlt)
      rw [← hxx] at hex
      obtain ⟨A, rfl⟩ := Int.eq_ofNat_of_zero_le hex.1
      have hA : A < 256 := by omega
      have RL := hide hrl
      have RG := hide hrg
      have NX := hide hnext
      obtain ⟨W1, rfl⟩ : ∃ W1, W1 = wr := ⟨_, rfl⟩
      clear hxx hr hrl hrg hnext hex
      go_wp2
      go_loopw [8, 19] (fun vr vi wr2 => ∃ (j : Nat), j ≤ ys.length ∧ vi = .int .i64 j ∧ Own wr2 W1.heap.size vr (r.take j) ∧ Below W1.heap.size W1 wr2) (fun _ vi _ => ys.length - (intOf vi).toNat)
      case atStart => exact ⟨0, Nat.zero_le _, rfl, World.ownsRow_nil _ _ _ _, Below.refl _ _⟩
      case round =>
        obtain ⟨j, hj, rfl, ho, hb2⟩ := hrel
        have O := hide ho
        have B2 := hide hb2
        clear ho hb2
        by_cases hltj : j < ys.length
        · have hltj' : (j : Int) < (ys.length : Int) := by omega
          obtain ⟨yb, yoff, yu, rfl, hyc, hyu⟩ := ((RY.out.below B.out).below B2.out).row j hltj
          obtain ⟨y, hyy⟩ : ∃ y, y = ys.getD j 0 := ⟨_, rfl⟩
          rw [← hyy] at hyu
          subst hyu
          have hey := Gf.elOk_tests (Gf.all_of_getD.1 EY.out j hltj)
          rw [← hyy] at hey
          have hg := RG.out j hltj
          rw [← hyy] at hg
          obtain ⟨Y, rfl⟩ := Int.eq_ofNat_of_zero_le hey.1
          have hY : Y < 256 := by omega
          simp only [Int.toNat_natCast] at hg
          have hxor : bits .xor .i64 ((A : Nat) : Int) ((Y : Nat) : Int) = ((A ^^^ Y : Nat) : Int) := Gf.i64_xor _ _ (by omega) (by omega)
          have hxl : A ^^^ Y < 256 := Nat.xor_lt_two_pow (n := 8) hA hY
          obtain ⟨z, hz⟩ : ∃ z, z = Gf.inv (A ^^^ Y) := ⟨_, rfl⟩
          rw [← hz] at hg
          have CD : Hid (∀ w', Calls Tryz.prog 234 #[.int .i64 1, .int .i64 (bits .xor .i64 ((A : Nat) : Int) ((Y : Nat) : Int))] w' fun e w'' => e = .returned (.int .i64 ((z : Nat) : Int)) ∧ w' = w'') := by
            intro w'
            rw [hxor]
            refine (Gf.l1Div_calls 1 _ w' (by omega) (by omega) (by omega) (by omega)).mono ?_
            rintro e w'' ⟨rfl, rfl⟩
            refine ⟨?_, rfl⟩
            have e1 : Gf.mul (Int.toNat 1) (Gf.inv (Int.toNat ((A ^^^ Y : Nat) : Int))) = z := by
              rw [Int.toNat_natCast, hz]
              exact Gf.one_mul _ (Gf.inv_lt _)
            rw [e1]
          have HG := hide hg
          have hl2 : (r.take j).length = j := by rw [List.length_take, RL.out]; omega
          have HL2 := hide hl2
          clear hyy hey hg hxor hxl hz hl2
          go_wp2_with fail
          refine (CD.out _).mono ?_
          rintro e w2 ⟨rfl, rfl⟩
          have O2 := hide (O.out.alloc (.cells #[.int .i64 ((z : Nat) : Int)] 3))
          go_wp2_with (at_builtin; refine wpList_append_rd rfl _ _ rfl W1.heap.size _ (r.take j).length (r.take j) [((z : Nat) : Int)] rfl O2.out _ rfl rd_single (by rw [HL2.out]; simp; omega) (by have := B2.out.size; simp; omega) ?_)
          intro v' w3 ho3 hg3
          have hb3 : Below W1.heap.size W1 w3 := (B2.out.alloc B2.out.size _).grown hg3 (by have := B2.out.size; simp; omega) (fun i hi => (O.out.lt i hi).1)
          have e : r.take j ++ [((z : Nat) : Int)] = r.take (j + 1) := by rw [take_snocM r 0 j (by rw [RL.out]; exact hltj), HG.out]
          rw [e] at ho3
          have O3 := hide ho3
          have B3 := hide hb3
          clear ho3 hg3 hb3 e
          go_wp2
          go_roundw
          case rel => exact ⟨j + 1, by omega, by go_num, O3.out, B3.out⟩
          case measure => simp [intOf]; omega
        · obtain rfl : j = ys.length := by omega
          have ho := O.out
          rw [← RL.out, List.take_of_length_le (Nat.le_refl _)] at ho
          obtain ⟨ra, rn, rc, rfl⟩ := ho.shape
          have OO := hide ho
          clear ho O
          go_wp2_with (at_builtin; refine wpList_append_row rfl _ _ rfl w.heap.size W1.heap.size _ vs ((cauM xs ys).take k) rfl M.out (B2.out.alloc B2.out.size _) _ r (OO.out.below ((Below.refl _ _).alloc (Nat.le_refl _) _)) (Nat.le_refl _) B.out.size _ rfl (World.cell?_alloc_at _ _ _ _ (by simp)) (by simp; omega) ?_)
          intro v2 w2 hM2 hB2
          rw [NX.out] at hM2
          have M2 := hide hM2
          have B3 := hide hB2
          clear hM2 hB2
          go_wp2
          go_roundw
          case rel => exact ⟨k + 1, _, by omega, by go_num, M2.out, B.out.trans B3.out⟩
          case measure => simp [intOf]; omega
    · obtain rfl : k = xs.length := by omega
      go_wp2
      go_ret
      have hm := M.out
      rw [List.take_of_length_le (by rw [cauM_length]; exact Nat.le_refl _)] at hm
      exact ⟨_, rfl, ⟨_, hm⟩, B.out⟩
end Go.Proofs.YtbgadbokejaomaaGreatDoor

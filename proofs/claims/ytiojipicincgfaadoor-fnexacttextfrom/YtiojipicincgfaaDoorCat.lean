/-
  Lists of rows put together: what the outer list's cells hold, a copy of such cells, rows behind rows. Each theorem says what it asks.
-/
import Derived.Test.YtiojipicincgfaaDoorMake
namespace Go.Proofs.YtiojipicincgfaaDoor
open Go.RowKit

/-- The value v is a list whose cells hold these values, each of one cell. -/
def Vals (w : World) (v : Value) (us : List Value) : Prop :=
  ∃ a cap, v = .slice a us.length cap ∧ us.length ≤ cap ∧ (cap ≤ maxLen ∧ (a = none → cap = 0)) ∧ (∀ u ∈ us, u.oneCell' = true) ∧
    (us = [] ∨ ∃ b off, a = some ⟨b, off, none⟩ ∧ b < w.heap.size ∧ ∀ i, i < us.length → w.cell? ⟨b, off + i, none⟩ = some (us.getD i nilRow))
theorem Vals.below {w w' : World} {v : Value} {us : List Value} (h : Vals w v us) (hb : Below w.heap.size w w') : Vals w' v us := by
  obtain ⟨a, cap, rfl, h1, h2, h0, h3⟩ := h
  refine ⟨a, cap, rfl, h1, h2, h0, ?_⟩
  rcases h3 with h3 | ⟨b, off, rfl, hlt, hc⟩
  · exact .inl h3
  · exact .inr ⟨b, off, rfl, Nat.lt_of_lt_of_le hlt hb.size, fun i hi => (hb.cell (p := ⟨b, off + i, none⟩) hlt).trans (hc i hi)⟩
theorem oneCell_slice {a : Option Addr} {n c : Nat} : (Value.slice a n c).oneCell' = true := rfl
theorem RdM.vals {w : World} {v : Value} {m : List (List Int)} (h : RdM w v m) : ∃ us, Vals w v us ∧ us.length = m.length ∧ ∀ i, i < m.length → Rd w (us.getD i nilRow) (m.getD i []) := by
  obtain ⟨a, cap, rfl, h1, h2, h3⟩ := h
  rcases h3 with h3 | ⟨b, off, rfl, hlt, hc⟩
  · subst h3
    exact ⟨[], ⟨a, cap, rfl, h1, h2, fun u hu => by simp at hu, .inl rfl⟩, rfl, fun i hi => by simp at hi⟩
  · obtain ⟨us, hus⟩ : ∃ us, us = (List.range m.length).map fun i => (w.cell? ⟨b, off + i, none⟩).getD nilRow := ⟨_, rfl⟩
    have hl : us.length = m.length := by rw [hus]; simp
    have hg : ∀ i, i < m.length → w.cell? ⟨b, off + i, none⟩ = some (us.getD i nilRow) ∧ Rd w (us.getD i nilRow) (m.getD i []) := by
      intro i hi
      obtain ⟨u, hu, hr⟩ := hc i hi
      have e : us.getD i nilRow = u := by rw [hus]; simp [List.getD_eq_getElem?_getD, hi, hu]
      rw [e]
      exact ⟨hu, hr⟩
    refine ⟨us, ⟨_, cap, by rw [hl], by rw [hl]; exact h1, h2, fun u hu => ?_, .inr ⟨b, off, rfl, hlt, fun i hi => (hg i (by omega)).1⟩⟩, hl, fun i hi => (hg i hi).2⟩
    obtain ⟨i, hi, rfl⟩ := List.mem_iff_getElem.1 hu
    obtain ⟨x, c, hx, _⟩ := (hg i (by omega)).2
    rw [List.getD_eq_getElem?_getD, List.getElem?_eq_getElem hi, Option.getD_some] at hx
    rw [hx]
    rfl
theorem MatV.vals {w : World} {lo hi : Nat} {v : Value} {vs : List Value} {m : List (List Int)} (h : MatV w lo hi v vs m) : Vals w v vs := by
  have h1 : ∀ u ∈ vs, u.oneCell' = true := by
    intro u hu
    obtain ⟨i, hi, rfl⟩ := List.mem_iff_getElem.1 hu
    obtain ⟨a, n, c, hs⟩ := (h.row i (by rw [← h.len]; exact hi)).shape
    rw [List.getD_eq_getElem?_getD, List.getElem?_eq_getElem hi, Option.getD_some] at hs
    rw [hs]
    rfl
  rcases h.head.2 with ⟨rfl, hn⟩ | ⟨g, cap, cur, rfl, hb, hg, hc, hm, hs, ht⟩
  · have : vs = [] := List.eq_nil_of_length_eq_zero (by rw [h.len]; exact hn)
    subst this
    exact ⟨none, 0, rfl, Nat.le_refl _, ⟨Nat.zero_le _, fun _ => rfl⟩, fun u hu => by simp at hu, .inl rfl⟩
  · refine ⟨_, cap, by rw [h.len], by rw [h.len]; exact hc, ⟨hm, fun h => by cases h⟩, h1, .inr ⟨g, 0, rfl, (Array.getElem?_eq_some_iff.1 hg).1, fun i hi => ?_⟩⟩
    rw [Nat.zero_add]
    exact h.cell i (by rw [← h.len]; exact hi)
theorem full_V {w : World} {base g n : Nat} {e : TypeId} {xs : List Value} (h : w.ownsRow base e 1 (.slice (some ⟨g, 0, none⟩) n n) n xs) : w.heap[g]? = some (.cells xs.toArray e (0, 0)) := by
  rcases h.2 with ⟨h', _⟩ | ⟨g', cap', cur, h', _, hg, _, _, hs, ht⟩
  · simp at h'
  · simp only [Value.slice.injEq, Option.some.injEq, Addr.mk.injEq, and_true, true_and] at h'
    obtain ⟨rfl, rfl⟩ := h'
    rw [hg, ← ht, List.take_of_length_le (by rw [Array.length_toList, hs]; omega)]
theorem of_block_V {w : World} {base g : Nat} {e : TypeId} {zs : List Value} (h : w.heap[g]? = some (.cells zs.toArray e (0, 0))) (hb : base ≤ g) (hm : zs.length ≤ maxLen) :
    w.ownsRow base e 1 (.slice (some ⟨g, 0, none⟩) zs.length zs.length) zs.length zs :=
  ⟨by simp, .inr ⟨g, zs.length, _, rfl, hb, h, Nat.le_refl _, hm, by simp, List.take_of_length_le (by simp)⟩⟩
def splV (ws : List Value) (off : Nat) (zs : List Value) : List Value := ws.take off ++ (zs ++ ws.drop (off + zs.length))
/-- 'copy(out[off:], p)', out a list of rows that the call has made, p not longer than what is there. -/
theorem wpList_copy_vals {w : World} {ops : Array Oper} {rest : List Oper} {o : Oper} {a : Act} {Q : Exit → Act → World → Prop} (hgd : o.guard = none) (d s : Operand)
    (ho : o.op = .call { callee := .builtin .copy, args := #[d, s], argTypes := #[22, 22] })
    (base g N off dLen dCap : Nat) (u : Value) (ws cs : List Value) (hd : a.eval d = .slice (some ⟨g, off, none⟩) dLen dCap) (hs : a.eval s = u)
    (hown : w.ownsRow base 39 1 (.slice (some ⟨g, 0, none⟩) N N) N ws) (hr : Vals w u cs) (hdl : cs.length ≤ dLen) (hfit : off + cs.length ≤ N)
    (h : ∀ w', w'.ownsRow base 39 1 (.slice (some ⟨g, 0, none⟩) N N) N (splV ws off cs) → w.grownBy w' (some g) → wpList Tryd.prog ops Q rest (a.put o.dst (goInt cs.length)) w') : wpList Tryd.prog ops Q (o :: rest) a w := by
  obtain ⟨sp, cap, rfl, h1, h2, h0, h3⟩ := hr
  have hwl : ws.length = N := by have := hown.1; simpa using this
  have hg := full_V hown
  have hbg : base ≤ g := (World.ownsRow.lt hown g rfl).1
  have hmx : N ≤ maxLen := by
    rcases hown.2 with ⟨h', _⟩ | ⟨g', cap', cur, h', _, _, _, hm, _⟩
    · simp at h'
    · simp at h'; omega
  rcases h3 with h3 | ⟨b, so, rfl, hlt, hc⟩
  · subst h3
    refine wpList_copy_nothing (w := w) hgd d s 22 22 ho 39 Tryd.underlying22 infoRowSize (some ⟨g, off, none⟩) sp dLen dCap 0 cap hd hs (by simp) ?_
    refine h w ?_ (World.grownBy.refl _ _)
    simp only [splV, List.nil_append, List.length_nil, Nat.add_zero, List.take_append_drop]
    exact hown
  · refine wpList_copy_own (w := w) hgd d s 22 22 ho 39 Tryd.underlying22 infoRowSize g off dLen dCap ⟨b, so, none⟩ cs.length cap hd hs ws.toArray 39 hg cs (Nat.min_eq_left hdl).symm ?_ (by simp; omega) h0 ?_
    · intro j y hj
      have hjl : j < cs.length := (List.getElem?_eq_some_iff.1 hj).1
      have hadd : (⟨b, so, none⟩ : Addr).add j = ⟨b, so + j, none⟩ := by unfold Addr.add; split <;> simp_all
      rw [hadd, hc j hjl, List.getD_eq_getElem?_getD, hj]
      rfl
    · have hl : (splV ws off cs).length = N := by simp [splV]; omega
      have := of_block_V (base := base) (setRow_heap w g _ (splV ws off cs).toArray 39 _ hg) hbg (by rw [hl]; exact hmx)
      rw [hl] at this
      exact h _ this ⟨rfl, rfl, rfl, by simp [World.setRow], fun k _ hk => setRow_other w g k _ (fun e => hk (by simp [e]))⟩
theorem getD_app {α : Type} (a b : List α) (d : α) (i : Nat) : (a ++ b).getD i d = if i < a.length then a.getD i d else b.getD (i - a.length) d := by
  simp only [List.getD_eq_getElem?_getD]
  by_cases h : i < a.length
  · rw [if_pos h, List.getElem?_append_left h]
  · rw [if_neg h, List.getElem?_append_right (by omega)]
/-- Rows behind rows: the outer list is new (or the first one's, grown), the rows are theirs. -/
theorem MatV.cat {w w2 : World} {B lo hi lo' hi' : Nat} {v1 v2 v' : Value} {vs1 vs2 : List Value} {m1 m2 : List (List Int)} (h1 : MatV w lo hi v1 vs1 m1) (h2 : MatV w lo' hi' v2 vs2 m2) (hl1 : B ≤ lo) (hl2 : B ≤ lo') (hd : hi ≤ lo' ∨ hi' ≤ lo) (hh : hi' ≤ w.heap.size) (hh1 : hi ≤ w.heap.size)
    (blk : Option Nat) (hg : w.grownBy w2 blk) (hb1 : ∀ i, i < m1.length → (vs1.getD i nilRow).ownBlock = none ∨ (vs1.getD i nilRow).ownBlock ≠ blk) (hb2 : ∀ i, i < m2.length → (vs2.getD i nilRow).ownBlock = none ∨ (vs2.getD i nilRow).ownBlock ≠ blk)
    (ho : w2.ownsRow B 39 1 v' (m1.length + m2.length) (vs1 ++ vs2)) : MatV w2 B w2.heap.size v' (vs1 ++ vs2) (m1 ++ m2) := by
  have hs := hg.size
  have e1 := h1.len
  have e2 := h2.len
  refine ⟨by simp [e1, e2], by rw [List.length_append]; exact ho, ?_, fun k hk => (World.ownsRow.lt ho k hk).2, ?_, ?_⟩
  · intro i hi
    rw [List.length_append] at hi
    rw [getD_app, getD_app, e1]
    split
    · rename_i h; exact World.ownsRow.kept (Own.mono (h1.row i h) hl1) hg (hb1 i h)
    · exact World.ownsRow.kept (Own.mono (h2.row (i - m1.length) (by omega)) hl2) hg (hb2 (i - m1.length) (by omega))
  · intro i k hi hk
    rw [List.length_append] at hi
    rw [getD_app, e1] at hk
    split at hk
    · rename_i h; have := h1.tops i k h hk; omega
    · have := h2.tops (i - m1.length) k (by omega) hk; omega
  · intro i j hi hj hij
    rw [List.length_append] at hi hj
    rw [getD_app, getD_app, e1]
    have cross : ∀ i j, i < m1.length → j < m2.length → ∀ x, (vs1.getD i nilRow).ownBlock = some x → (vs2.getD j nilRow).ownBlock = some x → False := by
      intro i j hi hj x h3 h4
      have q1 := h1.tops i x hi h3
      have q2 := (World.ownsRow.lt (h2.row j hj) x h4).1
      have q3 := h2.tops j x hj h4
      have q4 := (World.ownsRow.lt (h1.row i hi) x h3).1
      omega
    by_cases a : i < m1.length
    · by_cases b : j < m1.length
      · rw [if_pos a, if_pos b]; exact h1.apart i j a b hij
      · rw [if_pos a, if_neg b]
        cases hu : (vs1.getD i nilRow).ownBlock with
        | none => exact .inl rfl
        | some x => exact .inr (fun e => cross i (j - m1.length) a (by omega) x hu e.symm)
    · by_cases b : j < m1.length
      · rw [if_neg a, if_pos b]
        cases hu : (vs2.getD (i - m1.length) nilRow).ownBlock with
        | none => exact .inl rfl
        | some x => exact .inr (fun e => cross j (i - m1.length) b (by omega) x e.symm hu)
      · rw [if_neg a, if_neg b]; exact h2.apart _ _ (by omega) (by omega) (by omega)
/-- 'append(a, b...)', rows of the call's own behind rows of its own. -/
theorem wpList_append_mat {w : World} {ops : Array Oper} {rest : List Oper} {o : Oper} {a : Act} {Q : Exit → Act → World → Prop} (hgd : o.guard = none) (s x : Operand)
    (ho : o.op = .call { callee := .builtin .append, args := #[s, x], argTypes := #[22, 22] })
    (B lo hi lo' hi' : Nat) (v1 v2 : Value) (vs1 vs2 : List Value) (m1 m2 : List (List Int)) (hs : a.eval s = v1) (hx : a.eval x = v2) (h1 : MatV w lo hi v1 vs1 m1) (h2 : MatV w lo' hi' v2 vs2 m2)
    (hl1 : B ≤ lo) (hl2 : B ≤ lo') (hd : hi ≤ lo' ∨ hi' ≤ lo) (hh : hi' ≤ w.heap.size) (hh1 : hi ≤ w.heap.size) (h0 : 0 < m2.length) (hn1 : m1.length ≤ 1048576) (hn2 : m2.length ≤ 1048576) (hB : B ≤ w.heap.size)
    (K : ∀ v' w', MatV w' B w'.heap.size v' (vs1 ++ vs2) (m1 ++ m2) → w.grownBy w' v1.ownBlock → wpList Tryd.prog ops Q rest (a.put o.dst v') w') : wpList Tryd.prog ops Q (o :: rest) a w := by
  obtain ⟨i0, hi0, hz0, hz1, hz2⟩ := info_parts infoRow
  obtain ⟨sp, cap, rfl, q1, q2, q0, q3⟩ := h2.vals
  have e2 := h2.len
  rcases q3 with q3 | ⟨b, off, rfl, hlt, hc⟩
  · rw [q3] at e2; simp at e2; omega
  have hown : w.ownsRow B 39 1 v1 m1.length vs1 := by
    refine ⟨h1.head.1, ?_⟩
    rcases h1.head.2 with hn | ⟨g, cap, cur, rfl, hb', rest⟩
    · exact .inl hn
    · exact .inr ⟨g, cap, cur, rfl, Nat.le_trans hl1 hb', rest⟩
  refine wpList_append_own (w := w) hgd s x _ ho B _ i0 (.slice none 0 0) 1 24 Tryd.underlying22 hi0 hz0 hz1 hz2 rfl (by decide) v1 m1.length vs1 hs hown ⟨b, off, none⟩ vs2.length cap vs2 hx (by simp) ?_ q0 (by unfold maxLen; omega) (by omega) hB ?_
  · intro j y hj
    have hjl : j < vs2.length := (List.getElem?_eq_some_iff.1 hj).1
    have hadd : (⟨b, off, none⟩ : Addr).add j = ⟨b, off + j, none⟩ := by unfold Addr.add; split <;> simp_all
    rw [hadd, hc j hjl, List.getD_eq_getElem?_getD, hj]
    rfl
  · intro v' w' ho' hg' _
    refine K v' w' (h1.cat h2 hl1 hl2 hd hh hh1 _ hg' (fun i hi => heads_apart' h1.head (h1.row i hi)) (fun i hi => heads_apart' h1.head (h2.row i hi)) ?_) hg'
    rw [e2] at ho'
    exact ho'
theorem splV_two (N : Nat) (fs bs : List Value) (h : N = fs.length + bs.length) : splV (splV (List.replicate N nilRow) 0 fs) fs.length bs = fs ++ bs := by
  subst h
  simp [splV]

set_option maxRecDepth 100000 in
set_option maxHeartbeats 800000 in
theorem joinLists_calls (fv bv : Value) (fs bs : List Value) (w : World) (hf : Vals w fv fs) (hb : Vals w bv bs) (hn1 : fs.length ≤ 4096) (hn2 : bs.length ≤ 4096) (h0 : 0 < bs.length) :
    Calls Tryd.prog 81 #[fv, bv] w fun e w' => e = .returned (.slice (some ⟨w.heap.size, 0, none⟩) (fs.length + bs.length) (fs.length + bs.length)) ∧
      w'.ownsRow w.heap.size 39 1 (.slice (some ⟨w.heap.size, 0, none⟩) (fs.length + bs.length) (fs.length + bs.length)) (fs.length + bs.length) (fs ++ bs) ∧ w.grownBy w' none := by
  have F := hide hf
  have G := hide hb
  obtain ⟨fa, fcap, rfl, _⟩ := hf
  obtain ⟨ba, bcap, rfl, _⟩ := hb
  obtain ⟨N, hN⟩ : ∃ N, N = fs.length + bs.length := ⟨_, rfl⟩
  rw [← hN]
  have HN := hide hN
  have hN1 : fs.length < N := by omega
  have hN2 : N ≤ 8192 := by omega
  have HN3 : Hid (((fs.length : Int) + (bs.length : Int)) = (N : Int)) := by show ((fs.length : Int) + (bs.length : Int)) = (N : Int); omega
  have hN4 : Hid (fs.length + bs.length ≤ N) := by show fs.length + bs.length ≤ N; omega
  clear hN
  go_enter Tryd.func81, Tryd.ntmps81
  go_wp2_with (at_make; refine wpList_make_rows rfl _ _ rfl _ _ N rfl rfl HN3.out HN3.out (by omega) ?_)
  intro w0 hm0 hg0
  have ho0 : w0.ownsRow w.heap.size 39 1 (.slice (some ⟨w.heap.size, 0, none⟩) N N) N (List.replicate N nilRow) := by
    have := hm0.head
    rwa [List.length_replicate] at this
  have hb0 : Below w.heap.size w w0 := (Below.refl _ _).grown hg0 (Nat.le_refl _) (fun k h => by cases h)
  have O0 := hide ho0
  have B0 := hide hb0
  clear hm0 hg0 ho0 hb0
  go_wp2_with (refine wpList_copy_vals rfl (.tmp 12) (.tmp 13) rfl w.heap.size w.heap.size N 0 N N _ (List.replicate N nilRow) fs rfl rfl O0.out (F.out.below B0.out) (by omega) (by omega) ?_)
  intro w1 ho1 hg1
  have hb1 : Below w.heap.size w w1 := B0.out.grown hg1 B0.out.size (fun k hk => by cases hk; exact Nat.le_refl _)
  have O1 := hide ho1
  have B1 := hide hb1
  have i0 : (0 : Int) ≤ (fs.length : Int) := by omega
  have i1 : (fs.length : Int) ≤ (N : Int) := by omega
  have i3 : ¬ (N = fs.length) := by omega
  clear ho1 hg1 hb1
  go_wp2_with (refine wpList_copy_vals rfl (.tmp 18) (.tmp 19) rfl w.heap.size w.heap.size N fs.length (N - fs.length) (N - fs.length) _ (splV (List.replicate N nilRow) 0 fs) bs rfl rfl O1.out (G.out.below B1.out) (by have := hN4.out; omega) hN4.out ?_)
  intro w2 ho2 hg2
  have hb2 : Below w.heap.size w w2 := B1.out.grown hg2 B1.out.size (fun k hk => by cases hk; exact Nat.le_refl _)
  rw [splV_two N fs bs HN.out] at ho2
  have O2 := hide ho2
  have B2 := hide hb2
  clear ho2 hg2 hb2
  go_wp2
  go_ret
  exact ⟨rfl, O2.out, B2.out.os, B2.out.tape, B2.out.output, B2.out.size, fun k hk _ => B2.out.block k hk⟩
end Go.Proofs.YtiojipicincgfaaDoor

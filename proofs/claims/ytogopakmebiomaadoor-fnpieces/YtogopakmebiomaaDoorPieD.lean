/-
  Rows laid anew beside each other: an outer list of values that are read, one of them laid over. Each theorem says what it asks.
-/
import Derived.Test.YtogopakmebiomaaDoorPieL
import Derived.Test.YtogopakmebiomaaDoorCat
namespace Go.Proofs.YtogopakmebiomaaDoor
open Go.RowKit

/-- 'append(a, b...)', values that are read behind an own outer list. -/
theorem wpList_append_vals {w : World} {ops : Array Oper} {rest : List Oper} {o : Oper} {a : Act} {Q : Exit → Act → World → Prop} (hgd : o.guard = none) (s x : Operand)
    (ho : o.op = .call { callee := .builtin .append, args := #[s, x], argTypes := #[46, 46] })
    (B : Nat) (v1 v2 : Value) (vs1 us : List Value) (hs : a.eval s = v1) (hx : a.eval x = v2) (h1 : w.ownsRow B 22 1 v1 vs1.length vs1) (h2 : Vals w v2 us)
    (h0 : 0 < us.length) (hn1 : vs1.length ≤ 1048576) (hn2 : us.length ≤ 1048576) (hB : B ≤ w.heap.size)
    (K : ∀ v' w', w'.ownsRow B 22 1 v' (vs1.length + us.length) (vs1 ++ us) → w.grownBy w' v1.ownBlock → wpList Tryd.prog ops Q rest (a.put o.dst v') w') : wpList Tryd.prog ops Q (o :: rest) a w := by
  obtain ⟨i0, hi0, hz0, hz1, hz2⟩ := info_parts infoRow
  obtain ⟨sp, cap, rfl, q1, q2, q0, q3⟩ := h2
  rcases q3 with q3 | ⟨b, off, rfl, hlt, hc⟩
  · rw [q3] at h0; simp at h0
  refine wpList_append_own (w := w) hgd s x _ ho B _ i0 (.slice none 0 0) 1 24 Tryd.underlying46 hi0 hz0 hz1 hz2 rfl (by decide) v1 vs1.length vs1 hs h1 ⟨b, off, none⟩ us.length cap us hx (by simp) ?_ q0 (by unfold maxLen; omega) (by omega) hB ?_
  · intro j y hj
    have hjl : j < us.length := (List.getElem?_eq_some_iff.1 hj).1
    have hadd : (⟨b, off, none⟩ : Addr).add j = ⟨b, off + j, none⟩ := by unfold Addr.add; split <;> simp_all
    rw [hadd, hc j hjl, List.getD_eq_getElem?_getD, hj]
    rfl
  · intro v' w' ho' hg' _
    exact K v' w' ho' hg'
theorem rdM_own {w : World} {B g n cap : Nat} {us : List Value} {m : List (List Int)} (h : w.ownsRow B 22 1 (.slice (some ⟨g, 0, none⟩) n cap) n us) (hu : us.length = n) (hm : m.length = n) (hr : ∀ i, i < n → Rd w (us.getD i nilRow) (m.getD i [])) : RdM w (.slice (some ⟨g, 0, none⟩) n cap) m := by
  have hlt : g < w.heap.size := (World.ownsRow.lt h g rfl).2
  obtain ⟨hc1, hc2⟩ : n ≤ cap ∧ cap ≤ maxLen := by
    rcases h.2 with ⟨h', _⟩ | ⟨g', cap', cur, h', _, hg, hc, hm', _⟩
    · simp at h'
    · simp at h'
      obtain ⟨_, rfl⟩ := h'
      exact ⟨hc, hm'⟩
  refine ⟨_, cap, by rw [hm], by rw [hm]; exact hc1, ⟨hc2, fun h => by cases h⟩, .inr ⟨g, 0, rfl, hlt, fun i hi => ?_⟩⟩
  rw [hm] at hi
  refine ⟨us.getD i nilRow, ?_, hr i hi⟩
  rw [Nat.zero_add, World.ownsRow.cellAt h i (by omega), List.getD_eq_getElem?_getD, List.getElem?_eq_getElem (by omega)]
  rfl
theorem rdM_vals {w : World} {a : Option Addr} {n cap : Nat} {m : List (List Int)} (h : RdM w (.slice a n cap) m) (i : Nat) (hi : i ≤ m.length) : ∃ us, Vals w (.slice a i cap) us ∧ us.length = i ∧ ∀ t, t < i → Rd w (us.getD t nilRow) (m.getD t []) := by
  have h' := rdM_take h i hi
  obtain ⟨us, h1, h2, h3⟩ := h'.vals
  have hl : (m.take i).length = i := by simp; omega
  rw [hl] at h2 h3
  exact ⟨us, h1, h2, fun t ht => by have := h3 t ht; rwa [take_get _ _ _ ht] at this⟩
theorem upd_open {d q k : Nat} {m : List (List Int)} {p : List Int} (h : (updR d q m k p).2 = true) : (updR d q m k p).1 = updM d q k m p ∧ UpdF d q k (m.getD 0 []).length m p := by
  have hu : updOk d q m k p = true := by
    cases e : updOk (d : Int) (q : Int) m (k : Int) p with
    | true => rfl
    | false => simp [updR, e] at h
  obtain ⟨D, Q, K, h1, h2, h3, hf, e⟩ := updOk_parts hu
  obtain rfl : d = D := by omega
  obtain rfl : q = Q := by omega
  obtain rfl : k = K := by omega
  exact ⟨by rw [e], hf⟩
end Go.Proofs.YtogopakmebiomaaDoor

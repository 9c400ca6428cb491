/-
  Slices of slices of integers: what is read (RdM), what a call owns (Mat: the outer row and every inner one lie in blocks of their own, from lo up to hi), what a change between two numbers leaves alone (Chg), and what a law holds in its hands (Hands). No condition; no call is walked here. Slices of Booleans: what is read, what is owned, and what the laws' own small functions do with them (copy, compare, measure, mark, look whether the marks are held), call by call. Each contract says what it asks.
-/
import Derived.Test.YtbgadbokejaomaaGreatDoorRewriteAtB5
import Derived.Test.YtbgadbokejaomaaGreatDoorRewriteAtB4
namespace Go.Proofs.YtbgadbokejaomaaGreatDoor
open Go.RowKit

theorem infoRow : (Tryz.prog.info? 27).map (fun i => (i.zero, i.size, i.bytes)) = some (some (.slice none 0 0), 1, 24) := by kernel_rfl
theorem infoRowSize : (Tryz.prog.info? 27).map (·.size) = some 1 := by kernel_rfl
abbrev nilRow : Value := .slice none 0 0

/-- The value v is a slice of slices that reads as these rows, in this world. -/
def RdM (w : World) (v : Value) (m : List (List Int)) : Prop :=
  ∃ a cap, v = .slice a m.length cap ∧ m.length ≤ cap ∧ (cap ≤ maxLen ∧ (a = none → cap = 0)) ∧
    (m = [] ∨ ∃ b off, a = some ⟨b, off, none⟩ ∧ b < w.heap.size ∧ ∀ i, i < m.length → ∃ u, w.cell? ⟨b, off + i, none⟩ = some u ∧ Rd w u (m.getD i []))
theorem RdM.below {w w' : World} {v : Value} {m : List (List Int)} (h : RdM w v m) (hb : Below w.heap.size w w') : RdM w' v m := by
  obtain ⟨a, cap, rfl, h1, h2, h3⟩ := h
  refine ⟨a, cap, rfl, h1, h2, ?_⟩
  rcases h3 with h3 | ⟨b, off, rfl, hlt, hc⟩
  · exact .inl h3
  · refine .inr ⟨b, off, rfl, Nat.lt_of_lt_of_le hlt hb.size, fun i hi => ?_⟩
    obtain ⟨u, hu, hr⟩ := hc i hi
    exact ⟨u, (hb.cell (p := ⟨b, off + i, none⟩) hlt).trans hu, hr.below hb⟩
theorem RdM.row {w : World} {a : Option Addr} {n cap : Nat} {m : List (List Int)} (h : RdM w (.slice a n cap) m) (i : Nat) (hi : i < m.length) :
    ∃ b off u, a = some ⟨b, off, none⟩ ∧ w.cell? ⟨b, off + i, none⟩ = some u ∧ Rd w u (m.getD i []) := by
  obtain ⟨a', cap', hv, _, _, h3⟩ := h
  simp only [Value.slice.injEq] at hv
  obtain ⟨rfl, rfl, rfl⟩ := hv
  rcases h3 with h3 | ⟨b, off, rfl, hlt, hc⟩
  · subst h3; simp at hi
  · obtain ⟨u, hu, hr⟩ := hc i hi
    exact ⟨b, off, u, rfl, hu, hr⟩

/-- Nothing but blocks from lo up to hi (and new ones) is changed. -/
structure Chg (lo hi : Nat) (w w' : World) : Prop where
  os : w'.os = w.os
  tape : w'.tape = w.tape
  output : w'.output = w.output
  size : w.heap.size ≤ w'.heap.size
  block : ∀ k, k < w.heap.size → (k < lo ∨ hi ≤ k) → w'.heap[k]? = w.heap[k]?
theorem Chg.refl (lo hi : Nat) (w : World) : Chg lo hi w w := ⟨rfl, rfl, rfl, Nat.le_refl _, fun _ _ _ => rfl⟩
theorem Chg.trans {lo hi : Nat} {a b c : World} (h : Chg lo hi a b) (k : Chg lo hi b c) : Chg lo hi a c :=
  ⟨k.os.trans h.os, k.tape.trans h.tape, k.output.trans h.output, Nat.le_trans h.size k.size, fun i hi' ho => (k.block i (Nat.lt_of_lt_of_le hi' h.size) ho).trans (h.block i hi' ho)⟩
theorem Chg.ofBelow {lo hi : Nat} {w w' : World} (h : Below w.heap.size w w') : Chg lo hi w w' := ⟨h.os, h.tape, h.output, h.size, fun k hk _ => h.block k hk⟩
theorem Chg.ofGrown {lo hi : Nat} {w w' : World} {row : Option Nat} (h : w.grownBy w' row) (hr : ∀ k, row = some k → lo ≤ k ∧ k < hi) : Chg lo hi w w' :=
  ⟨h.os, h.tape, h.output, h.size, fun k hk ho => h.block k hk (fun e => by have := hr k e.symm; omega)⟩
theorem Chg.wider {lo hi lo' hi' : Nat} {w w' : World} (h : Chg lo hi w w') (h1 : lo' ≤ lo) (h2 : hi ≤ hi') : Chg lo' hi' w w' :=
  ⟨h.os, h.tape, h.output, h.size, fun k hk ho => h.block k hk (by omega)⟩
/-- What was new in the first world's eyes may be changed at will. -/
theorem Chg.below {lo hi B : Nat} {w w' : World} (h : Chg lo hi w w') (h1 : B ≤ lo) (h2 : B ≤ w.heap.size) : Below B w w' :=
  ⟨h.os, h.tape, h.output, h.size, fun k hk => h.block k (by omega) (.inl (by omega))⟩
theorem Below.thenChg {lo hi : Nat} {w w1 w2 : World} (h : Below w.heap.size w w1) (k : Chg lo hi w1 w2) (hl : w.heap.size ≤ lo) : Below w.heap.size w w2 := h.trans (k.below hl h.size)

theorem Own.chg {w w' : World} {lo hi a b : Nat} {v : Value} {xs : List Int} (h : Own w lo v xs) (ht : ∀ k, v.ownBlock = some k → k < hi) (hc : Chg a b w w') (hd : hi ≤ a ∨ b ≤ lo) : Own w' lo v xs := by
  refine ⟨h.1, ?_⟩
  rcases h.2 with hn | ⟨g, cap, cur, rfl, hb', hg, rest⟩
  · exact .inl hn
  · have := ht g rfl
    exact .inr ⟨g, cap, cur, rfl, hb', by rw [hc.block g (Array.getElem?_eq_some_iff.1 hg).1 (by omega)]; exact hg, rest⟩
theorem Own.top {w : World} {lo : Nat} {v : Value} {xs : List Int} (h : Own w lo v xs) : ∀ k, v.ownBlock = some k → k < w.heap.size := fun k hk => (World.ownsRow.lt h k hk).2

/-- The value v is a slice of slices of the call's own: its rows' values are vs, they hold m. -/
structure MatV (w : World) (lo hi : Nat) (v : Value) (vs : List Value) (m : List (List Int)) : Prop where
  len : vs.length = m.length
  head : w.ownsRow lo 27 1 v m.length vs
  row : ∀ i, i < m.length → Own w lo (vs.getD i nilRow) (m.getD i [])
  top : ∀ k, v.ownBlock = some k → k < hi
  tops : ∀ i k, i < m.length → (vs.getD i nilRow).ownBlock = some k → k < hi
  apart : ∀ i j, i < m.length → j < m.length → i ≠ j → (vs.getD i nilRow).ownBlock = none ∨ (vs.getD i nilRow).ownBlock ≠ (vs.getD j nilRow).ownBlock
def Mat (w : World) (lo hi : Nat) (v : Value) (m : List (List Int)) : Prop := ∃ vs, MatV w lo hi v vs m

/-- A row of slices and a row of integers lie in unlike blocks. -/
theorem heads_apart {w : World} {lo lo' n k : Nat} {v u : Value} {vs xs : List Value} (h : w.ownsRow lo 27 1 v n vs) (h' : w.ownsRow lo' 3 1 u k xs) : v.ownBlock = none ∨ v.ownBlock ≠ u.ownBlock := by
  rcases h.2 with ⟨rfl, _⟩ | ⟨g, cap, cur, rfl, _, hg, _⟩
  · exact .inl rfl
  rcases h'.2 with ⟨rfl, _⟩ | ⟨g', cap', cur', rfl, _, hg', _⟩
  · right; simp [Value.ownBlock]
  · right
    intro e
    simp only [Value.ownBlock, Option.some.injEq] at e
    subst e
    rw [hg] at hg'
    simp at hg'
theorem heads_apart' {w : World} {lo lo' n k : Nat} {v u : Value} {vs xs : List Value} (h : w.ownsRow lo 27 1 v n vs) (h' : w.ownsRow lo' 3 1 u k xs) : u.ownBlock = none ∨ u.ownBlock ≠ v.ownBlock := by
  cases hu : u.ownBlock with
  | none => exact .inl rfl
  | some b =>
    right
    rcases heads_apart h h' with e | e
    · rw [e]; simp
    · rw [← hu]; exact fun h => e h.symm

theorem MatV.lenEq {w : World} {lo hi n cap : Nat} {g : Addr} {vs : List Value} {m : List (List Int)} (h : MatV w lo hi (.slice (some g) n cap) vs m) : n = m.length := by
  rcases h.head.2 with ⟨h', _⟩ | ⟨g', cap', cur, h', _, _⟩
  · simp at h'
  · simp at h'; exact h'.2.1
theorem MatV.sizeLo {w : World} {lo hi n cap : Nat} {g : Addr} {vs : List Value} {m : List (List Int)} (h : MatV w lo hi (.slice (some g) n cap) vs m) : lo ≤ w.heap.size := by
  have h1 := (World.ownsRow.lt h.head g.block rfl)
  omega
theorem MatV.cell {w : World} {lo hi g n cap : Nat} {vs : List Value} {m : List (List Int)} (h : MatV w lo hi (.slice (some ⟨g, 0, none⟩) n cap) vs m) (i : Nat) (hi' : i < m.length) : w.cell? ⟨g, i, none⟩ = some (vs.getD i nilRow) := by
  obtain rfl := h.lenEq
  have := World.ownsRow.cellAt h.head i (by omega)
  rw [this, List.getD_eq_getElem?_getD, List.getElem?_eq_getElem (by rw [h.len]; exact hi'), Option.getD_some]
theorem MatV.open {w : World} {lo hi : Nat} {v : Value} {vs : List Value} {m : List (List Int)} (h : MatV w lo hi v vs m) (h0 : 0 < m.length) :
    ∃ g cap, v = .slice (some ⟨g, 0, none⟩) m.length cap ∧ lo ≤ g ∧ g < w.heap.size ∧ m.length ≤ cap ∧ cap ≤ maxLen := by
  rcases h.head.2 with ⟨_, h'⟩ | ⟨g, cap, cur, rfl, hb, hg, hc, hm, _⟩
  · omega
  · exact ⟨g, cap, rfl, hb, (Array.getElem?_eq_some_iff.1 hg).1, hc, hm⟩
theorem MatV.rd {w : World} {lo hi : Nat} {v : Value} {vs : List Value} {m : List (List Int)} (h : MatV w lo hi v vs m) : RdM w v m := by
  rcases h.head.2 with ⟨rfl, hn⟩ | ⟨g, cap, cur, rfl, hb, hg, hc, hm, hs, ht⟩
  · have : m = [] := List.eq_nil_of_length_eq_zero hn
    subst this
    exact ⟨none, 0, rfl, Nat.le_refl _, ⟨Nat.zero_le _, fun _ => rfl⟩, .inl rfl⟩
  · refine ⟨_, cap, rfl, hc, ⟨hm, fun h => by cases h⟩, .inr ⟨g, 0, rfl, (Array.getElem?_eq_some_iff.1 hg).1, fun i hi => ⟨_, ?_, (h.row i hi).rd⟩⟩⟩
    rw [Nat.zero_add]
    exact h.cell i hi
theorem Mat.rd {w : World} {lo hi : Nat} {v : Value} {m : List (List Int)} (h : Mat w lo hi v m) : RdM w v m := by
  obtain ⟨vs, h⟩ := h
  exact h.rd
theorem ownsRow_below {w w' : World} {base n : Nat} {e : TypeId} {v : Value} {xs : List Value} (h : w.ownsRow base e 1 v n xs) (hb : Below w.heap.size w w') : w'.ownsRow base e 1 v n xs := by
  refine ⟨h.1, ?_⟩
  rcases h.2 with hn | ⟨g, cap, cur, rfl, hb', hg, rest⟩
  · exact .inl hn
  · exact .inr ⟨g, cap, cur, rfl, hb', by rw [hb.block g (Array.getElem?_eq_some_iff.1 hg).1]; exact hg, rest⟩
theorem MatV.below {w w' : World} {lo hi : Nat} {v : Value} {vs : List Value} {m : List (List Int)} (h : MatV w lo hi v vs m) (hb : Below w.heap.size w w') : MatV w' lo hi v vs m :=
  ⟨h.len, ownsRow_below h.head hb, fun i hi => (h.row i hi).below hb, h.top, h.tops, h.apart⟩
theorem Mat.below {w w' : World} {lo hi : Nat} {v : Value} {m : List (List Int)} (h : Mat w lo hi v m) (hb : Below w.heap.size w w') : Mat w' lo hi v m := by
  obtain ⟨vs, h⟩ := h
  exact ⟨vs, h.below hb⟩
theorem MatV.wider {w : World} {lo hi lo' hi' : Nat} {v : Value} {vs : List Value} {m : List (List Int)} (h : MatV w lo hi v vs m) (h1 : lo' ≤ lo) (h2 : hi ≤ hi') : MatV w lo' hi' v vs m := by
  refine ⟨h.len, ⟨h.head.1, ?_⟩, fun i hi => Own.mono (h.row i hi) h1, fun k hk => Nat.lt_of_lt_of_le (h.top k hk) h2, fun i k hi hk => Nat.lt_of_lt_of_le (h.tops i k hi hk) h2, h.apart⟩
  rcases h.head.2 with hn | ⟨g, cap, cur, rfl, hb', rest⟩
  · exact .inl hn
  · exact .inr ⟨g, cap, cur, rfl, Nat.le_trans h1 hb', rest⟩
theorem Mat.wider {w : World} {lo hi lo' hi' : Nat} {v : Value} {m : List (List Int)} (h : Mat w lo hi v m) (h1 : lo' ≤ lo) (h2 : hi ≤ hi') : Mat w lo' hi' v m := by
  obtain ⟨vs, h⟩ := h
  exact ⟨vs, h.wider h1 h2⟩
theorem MatV.chg {w w' : World} {lo hi a b : Nat} {v : Value} {vs : List Value} {m : List (List Int)} (h : MatV w lo hi v vs m) (hc : Chg a b w w') (hd : hi ≤ a ∨ b ≤ lo) : MatV w' lo hi v vs m := by
  refine ⟨h.len, ⟨h.head.1, ?_⟩, fun i hi => Own.chg (h.row i hi) (fun k hk => h.tops i k hi hk) hc hd, h.top, h.tops, h.apart⟩
  rcases h.head.2 with hn | ⟨g, cap, cur, rfl, hb', hg, rest⟩
  · exact .inl hn
  · have := h.top g rfl
    exact .inr ⟨g, cap, cur, rfl, hb', by rw [hc.block g (Array.getElem?_eq_some_iff.1 hg).1 (by omega)]; exact hg, rest⟩
theorem Mat.nil (w : World) (lo hi : Nat) : Mat w lo hi nilRow [] :=
  ⟨[], rfl, World.ownsRow_nil _ _ _ _, fun i hi => by simp at hi, fun k hk => by simp [Value.ownBlock] at hk, fun i k hi => by simp at hi, fun i j hi => by simp at hi⟩

theorem getD_set {α : Type} (l : List α) (i j : Nat) (x d : α) (h : i < l.length) : (l.set i x).getD j d = if j = i then x else l.getD j d := by
  simp only [List.getD_eq_getElem?_getD, List.getElem?_set]
  by_cases e : i = j
  · subst e; simp [h]
  · rw [if_neg e, if_neg (fun h => e h.symm)]

/-- One row is written: the others stay. -/
theorem MatV.write {w w' : World} {lo hi : Nat} {v : Value} {vs : List Value} {m : List (List Int)} (h : MatV w lo hi v vs m) (i : Nat) (hi' : i < m.length) (r : List Int)
    (ho : Own w' lo (vs.getD i nilRow) r) (hg : w.grownBy w' (vs.getD i nilRow).ownBlock) : MatV w' lo hi v vs (m.set i r) := by
  refine ⟨by rw [List.length_set]; exact h.len, ?_, ?_, h.top, ?_, ?_⟩
  · rw [List.length_set]
    exact World.ownsRow.kept h.head hg (heads_apart h.head (h.row i hi'))
  · intro j hj
    rw [List.length_set] at hj
    rw [getD_set _ _ _ _ _ hi']
    by_cases e : j = i
    · subst e; rw [if_pos rfl]; exact ho
    · rw [if_neg e]
      exact World.ownsRow.kept (h.row j hj) hg (h.apart j i hj hi' e)
  · intro j k hj hk
    rw [List.length_set] at hj
    exact h.tops j k hj hk
  · intro j k hj hk
    rw [List.length_set] at hj hk
    exact h.apart j k hj hk
theorem MatV.writeChg {w w' : World} {lo hi : Nat} {v : Value} {vs : List Value} {m : List (List Int)} (h : MatV w lo hi v vs m) (i : Nat) (hi' : i < m.length) (hg : w.grownBy w' (vs.getD i nilRow).ownBlock) : Chg lo hi w w' :=
  Chg.ofGrown hg (fun k hk => ⟨(World.ownsRow.lt (h.row i hi') k hk).1, h.tops i k hi' hk⟩)
/-- Another row reads as it did where one is written. -/
theorem MatV.other {w w' : World} {lo hi : Nat} {v : Value} {vs : List Value} {m : List (List Int)} (h : MatV w lo hi v vs m) (i j : Nat) (hi' : i < m.length) (hj : j < m.length) (e : j ≠ i) (hg : w.grownBy w' (vs.getD i nilRow).ownBlock) : Own w' lo (vs.getD j nilRow) (m.getD j []) :=
  World.ownsRow.kept (h.row j hj) hg (h.apart j i hj hi' e)

/-- A new row is laid at a place of the outer one. -/
theorem MatV.lay {w w' : World} {lo hi g n cap : Nat} {vs : List Value} {m : List (List Int)} (h : MatV w lo hi (.slice (some ⟨g, 0, none⟩) n cap) vs m) (i : Nat) (hi' : i < m.length) (hb : Below w.heap.size w w') (u : Value) (r : List Int) (ho : Own w' w.heap.size u r)
    (hlo : lo ≤ w.heap.size) (hh : hi ≤ w.heap.size) :
    MatV (w'.setCell ⟨g, i, none⟩ u) lo (w'.setCell ⟨g, i, none⟩ u).heap.size (.slice (some ⟨g, 0, none⟩) n cap) (vs.set i u) (m.set i r) ∧ w'.grownBy (w'.setCell ⟨g, i, none⟩ u) (some g) := by
  have hl : i < vs.length := by rw [h.len]; exact hi'
  obtain rfl := h.lenEq
  have st := (ownsRow_below h.head hb).stored i u
  have ho' : Own w' lo u r := Own.mono ho hlo
  have hgu : u.ownBlock = none ∨ u.ownBlock ≠ (some g : Option Nat) := by
    cases hu : u.ownBlock with
    | none => exact .inl rfl
    | some k =>
      right
      intro e
      cases e
      have h1 := (World.ownsRow.lt ho _ hu).1
      have h2 := h.top g rfl
      omega
  refine ⟨⟨by rw [List.length_set, List.length_set]; exact h.len, ?_, ?_, ?_, ?_, ?_⟩, st.2⟩
  · rw [List.length_set]
    exact st.1
  · intro j hj
    rw [List.length_set] at hj
    rw [getD_set _ _ _ _ _ hi', getD_set _ _ _ _ _ hl]
    by_cases e : j = i
    · subst e
      rw [if_pos rfl, if_pos rfl]
      exact World.ownsRow.kept ho' st.2 hgu
    · rw [if_neg e, if_neg e]
      exact World.ownsRow.kept ((h.row j hj).below hb) st.2 (heads_apart' h.head (h.row j hj))
  · intro k hk
    have h1 := h.top k hk
    have h2 := hb.size
    have h3 := st.2.size
    omega
  · intro j k hj hk
    rw [List.length_set] at hj
    rw [getD_set _ _ _ _ _ hl] at hk
    have h2 := hb.size
    have h3 := st.2.size
    by_cases e : j = i
    · rw [if_pos e] at hk
      have := (World.ownsRow.lt ho k hk).2
      omega
    · rw [if_neg e] at hk
      have := h.tops j k hj hk
      omega
  · intro j k hj hk hjk
    rw [List.length_set] at hj hk
    rw [getD_set _ _ _ _ _ hl, getD_set _ _ _ _ _ hl]
    by_cases e : j = i
    · rw [if_pos e, if_neg (by omega)]
      cases hu : u.ownBlock with
      | none => exact .inl rfl
      | some b =>
        right
        intro e'
        have h1 := (World.ownsRow.lt ho b hu).1
        have h2 := h.tops k b hk e'.symm
        omega
    · rw [if_neg e]
      by_cases e2 : k = i
      · rw [if_pos e2]
        cases hu : (vs.getD j nilRow).ownBlock with
        | none => exact .inl rfl
        | some b =>
          right
          intro e'
          have h1 := (World.ownsRow.lt ho b e'.symm).1
          have h2 := h.tops j b hj hu
          omega
      · rw [if_neg e2]
        exact h.apart j k hj hk hjk

/-- A new row behind the others, the outer row grown (or laid anew). -/
theorem MatV.push {w w1 w2 : World} {lo hi : Nat} {v v' u : Value} {vs : List Value} {m : List (List Int)} {r : List Int} (h : MatV w lo hi v vs m) (hb : Below w.heap.size w w1) (ho : Own w1 w.heap.size u r) (hh : hi ≤ w.heap.size) (hlo : lo ≤ w.heap.size)
    (ho2 : w2.ownsRow lo 27 1 v' (m.length + 1) (vs ++ [u])) (hg : w1.grownBy w2 v.ownBlock) : MatV w2 lo w2.heap.size v' (vs ++ [u]) (m ++ [r]) := by
  have get : ∀ j, j < m.length → (vs ++ [u]).getD j nilRow = vs.getD j nilRow ∧ (m ++ [r]).getD j [] = m.getD j [] := by
    intro j hj
    simp only [List.getD_eq_getElem?_getD]
    rw [List.getElem?_append_left (by rw [h.len]; exact hj), List.getElem?_append_left hj]
    exact ⟨rfl, rfl⟩
  have getl : (vs ++ [u]).getD m.length nilRow = u ∧ (m ++ [r]).getD m.length [] = r := by
    simp only [List.getD_eq_getElem?_getD]
    rw [List.getElem?_append_right (by rw [h.len]; exact Nat.le_refl _), List.getElem?_append_right (Nat.le_refl _), h.len, Nat.sub_self]
    exact ⟨rfl, rfl⟩
  have hs1 := hb.size
  have hs2 := hg.size
  have hu : u.ownBlock = none ∨ u.ownBlock ≠ v.ownBlock := by
    cases hu : u.ownBlock with
    | none => exact .inl rfl
    | some b =>
      right
      intro e
      have h1 := (World.ownsRow.lt ho b hu).1
      have h2 := h.top b e.symm
      omega
  have top2 : ∀ k, v'.ownBlock = some k → k < w2.heap.size := fun k hk => (World.ownsRow.lt ho2 k hk).2
  refine ⟨by simp [h.len], by rw [List.length_append]; exact ho2, ?_, top2, ?_, ?_⟩
  · intro j hj
    rw [List.length_append, List.length_singleton] at hj
    by_cases e : j = m.length
    · subst e
      rw [getl.1, getl.2]
      exact World.ownsRow.kept (Own.mono ho hlo) hg hu
    · rw [(get j (by omega)).1, (get j (by omega)).2]
      exact World.ownsRow.kept ((h.row j (by omega)).below hb) hg (heads_apart' h.head (h.row j (by omega)))
  · intro j k hj hk
    rw [List.length_append, List.length_singleton] at hj
    by_cases e : j = m.length
    · subst e
      rw [getl.1] at hk
      have := (World.ownsRow.lt ho k hk).2
      omega
    · rw [(get j (by omega)).1] at hk
      have := h.tops j k (by omega) hk
      omega
  · intro j k hj hk hjk
    rw [List.length_append, List.length_singleton] at hj hk
    by_cases e : j = m.length
    · subst e
      rw [getl.1, (get k (by omega)).1]
      cases hu : u.ownBlock with
      | none => exact .inl rfl
      | some b =>
        right
        intro e'
        have h1 := (World.ownsRow.lt ho b hu).1
        have h2 := h.tops k b (by omega) e'.symm
        omega
    · rw [(get j (by omega)).1]
      by_cases e2 : k = m.length
      · subst e2
        rw [getl.1]
        cases hu : (vs.getD j nilRow).ownBlock with
        | none => exact .inl rfl
        | some b =>
          right
          intro e'
          have h1 := (World.ownsRow.lt ho b e'.symm).1
          have h2 := h.tops j b (by omega) hu
          omega
      · rw [(get k (by omega)).1]
        exact h.apart j k (by omega) (by omega) hjk

/-- What a law holds: a list of integers, or rows of them. -/
structure Thing where
  one : Bool
  row : List Int
  rows : List (List Int)
abbrev Thing.mat (m : List (List Int)) : Thing := ⟨false, [], m⟩
def Thing.ok (w : World) (lo hi : Nat) (v : Value) : Thing → Prop
  | ⟨true, xs, _⟩ => Own w lo v xs ∧ ∀ k, v.ownBlock = some k → k < hi
  | ⟨false, _, m⟩ => Mat w lo hi v m
theorem Thing.chg {w w' : World} {lo hi a b : Nat} {v : Value} {t : Thing} (h : t.ok w lo hi v) (hc : Chg a b w w') (hd : hi ≤ a ∨ b ≤ lo) : t.ok w' lo hi v := by
  obtain ⟨one, xs, m⟩ := t
  cases one with
  | true => exact ⟨Own.chg h.1 h.2 hc hd, h.2⟩
  | false =>
    obtain ⟨vs, h⟩ := h
    exact ⟨vs, h.chg hc hd⟩
/-- The newest on top; each lies above what was there ahead of it. -/
def Held (W w : World) : Nat → List (Value × Thing) → Prop
  | top, [] => W.heap.size ≤ top
  | top, (v, t) :: L => ∃ lo hi, t.ok w lo hi v ∧ lo ≤ hi ∧ hi ≤ top ∧ Held W w lo L
theorem Held.base {W w : World} : ∀ {top : Nat} {L : List (Value × Thing)}, Held W w top L → W.heap.size ≤ top
  | _, [], h => h
  | _, _ :: _, ⟨_, _, _, h1, h2, h⟩ => Nat.le_trans (Nat.le_trans (Held.base h) h1) h2
theorem Held.up {W w : World} {top top' : Nat} : ∀ {L : List (Value × Thing)}, Held W w top L → top ≤ top' → Held W w top' L
  | [], h, hl => Nat.le_trans h hl
  | _ :: _, ⟨lo, hi, h0, h1, h2, h⟩, hl => ⟨lo, hi, h0, h1, Nat.le_trans h2 hl, h⟩
theorem Held.chg {W w w' : World} {a b : Nat} (hc : Chg a b w w') : ∀ {top : Nat} {L : List (Value × Thing)}, Held W w top L → top ≤ a → Held W w' top L
  | _, [], h, _ => h
  | _, _ :: _, ⟨lo, hi, h0, h1, h2, h⟩, hl => ⟨lo, hi, Thing.chg h0 hc (.inl (by omega)), h1, h2, Held.chg hc h (by omega)⟩
theorem Held.open {W w : World} : ∀ {top : Nat} {L : List (Value × Thing)} {i : Nat} {v : Value} {t : Thing}, Held W w top L → L[i]? = some (v, t) →
    ∃ lo hi, t.ok w lo hi v ∧ W.heap.size ≤ lo ∧ hi ≤ top ∧ ∀ w' t', t'.ok w' lo hi v → Chg lo hi w w' → Held W w' top (L.set i (v, t'))
  | top, [], i, v, t, _, h => by simp at h
  | top, (v0, t0) :: L, 0, v, t, ⟨lo, hi, h0, h1, h2, h⟩, hi' => by
    simp at hi'
    obtain ⟨rfl, rfl⟩ := hi'
    refine ⟨lo, hi, h0, h.base, h2, fun w' t' ht hc => ⟨lo, hi, ht, h1, h2, Held.chg hc h (Nat.le_refl _)⟩⟩
  | top, (v0, t0) :: L, i + 1, v, t, ⟨lo, hi, h0, h1, h2, h⟩, hi' => by
    obtain ⟨lo', hi2, ok, hb, ht, put⟩ := Held.open h (by simpa using hi')
    exact ⟨lo', hi2, ok, hb, by omega, fun w' t' ok' hc => ⟨lo, hi, Thing.chg h0 hc (.inr ht), h1, h2, put w' t' ok' hc⟩⟩
structure Hands (W w : World) (L : List (Value × Thing)) : Prop where
  below : Below W.heap.size W w
  held : Held W w w.heap.size L
theorem Hands.start (W : World) : Hands W W [] := ⟨Below.refl _ _, Nat.le_refl _⟩
theorem Hands.step {W w w' : World} {L : List (Value × Thing)} (h : Hands W w L) (hb : Below w.heap.size w w') : Hands W w' L :=
  ⟨h.below.trans (hb.mono h.below.size), (Held.chg (a := w.heap.size) (b := w.heap.size) (Chg.ofBelow hb) h.held (Nat.le_refl _)).up hb.size⟩
theorem Hands.open {W w : World} {L : List (Value × Thing)} {v : Value} {t : Thing} (h : Hands W w L) (i : Nat) (hi : L[i]? = some (v, t)) :
    ∃ lo hi, t.ok w lo hi v ∧ W.heap.size ≤ lo ∧ hi ≤ w.heap.size ∧ ∀ w' t', t'.ok w' lo hi v → Chg lo hi w w' → Hands W w' (L.set i (v, t')) := by
  obtain ⟨lo, hi', ok, hb, ht, put⟩ := Held.open h.held hi
  exact ⟨lo, hi', ok, hb, ht, fun w' t' ok' hc => ⟨h.below.trans (hc.below hb h.below.size), (put w' t' ok' hc).up hc.size⟩⟩
end Go.Proofs.YtbgadbokejaomaaGreatDoor

namespace Go.Proofs.YtbgadbokejaomaaGreatDoor
open Go.RowKit
set_option linter.unusedVariables false

theorem infoBol : (Tryz.prog.info? 4).map (fun i => (i.zero, i.size, i.bytes)) = some (some (.bool false), 1, 1) := by kernel_rfl
/-- The value v is a slice that reads as these Booleans, in this world. -/
def RdZ (w : World) (v : Value) (xs : List Bool) : Prop :=
  ∃ a cap, v = .slice a xs.length cap ∧ xs.length ≤ cap ∧ (cap ≤ maxLen ∧ (a = none → cap = 0)) ∧ (xs = [] ∨ ∃ b off, a = some ⟨b, off, none⟩ ∧ b < w.heap.size ∧ ∀ i, i < xs.length → w.cell? ⟨b, off + i, none⟩ = some (.bool (xs.getD i false)))
/-- The value v is a slice of the call's own (its block is base or later) that reads as these Booleans. -/
abbrev OwnZ (w : World) (base : Nat) (v : Value) (xs : List Bool) : Prop := w.ownsRow base 4 1 v xs.length (xs.map Value.bool)

theorem RdZ.below {w w' : World} {v : Value} {xs : List Bool} (h : RdZ w v xs) (hb : Below w.heap.size w w') : RdZ w' v xs := by
  obtain ⟨a, cap, rfl, h1, h2, h3⟩ := h
  refine ⟨a, cap, rfl, h1, h2, ?_⟩
  rcases h3 with h3 | ⟨b, off, rfl, hlt, hc⟩
  · exact .inl h3
  · exact .inr ⟨b, off, rfl, Nat.lt_of_lt_of_le hlt hb.size, fun i hi => (hb.cell (p := ⟨b, off + i, none⟩) hlt).trans (hc i hi)⟩
theorem OwnZ.rd {w : World} {base : Nat} {v : Value} {xs : List Bool} (h : OwnZ w base v xs) : RdZ w v xs := by
  rcases h.2 with ⟨rfl, hn⟩ | ⟨g, cap, cur, rfl, hb, hg, hc, hm, hs, ht⟩
  · have : xs = [] := List.eq_nil_of_length_eq_zero hn
    subst this
    exact ⟨none, 0, rfl, Nat.le_refl _, ⟨Nat.zero_le _, fun _ => rfl⟩, .inl rfl⟩
  · refine ⟨_, cap, rfl, hc, ⟨hm, fun h => by cases h⟩, .inr ⟨g, 0, rfl, (Array.getElem?_eq_some_iff.1 hg).1, fun i hi => ?_⟩⟩
    have := World.ownsRow.cellAt h i (by omega)
    rw [Nat.zero_add, this]
    simp [hi]
theorem rdZ_nil (w : World) : RdZ w (.slice none 0 0) [] := ⟨none, 0, rfl, Nat.le_refl _, ⟨Nat.zero_le _, fun _ => rfl⟩, .inl rfl⟩
theorem bols_oneCell (zs : List Bool) : ∀ u ∈ zs.map Value.bool, u.oneCell' = true := by
  intro u hu
  obtain ⟨b, _, rfl⟩ := List.mem_map.1 hu
  rfl
/-- 'make([]bool, n)': n times false, of the call's own, in the next block. -/
theorem wpList_make_bols {w : World} {ops : Array Oper} {rest : List Oper} {o : Oper} {a : Act} {Q : Exit → Act → World → Prop} (hg : o.guard = none) (l c : Operand) (hop : o.op = Op.makeSlice 24 l c)
    (base : Nat) (L C : Int) (n : Nat) (hl : a.eval l = .int .i64 L) (hc : a.eval c = .int .i64 C) (hL : L = (n : Int)) (hC : C = (n : Int)) (hn : n ≤ 1073741824) (hb : base ≤ w.heap.size)
    (h : ∀ w', OwnZ w' base (.slice (some ⟨w.heap.size, 0, none⟩) n n) (List.replicate n false) → w.grownBy w' none → wpList Tryz.prog ops Q rest (a.put o.dst (.slice (some ⟨w.heap.size, 0, none⟩) n n)) w') : wpList Tryz.prog ops Q (o :: rest) a w := by
  obtain ⟨i0, hi, hz0, hz1, hz2⟩ := info_parts infoBol
  refine wpList_make_full w hg l c _ hop base 4 i0 (.bool false) 1 Tryz.underlying24 hi hz0 hz1 _ _ L C n hl hc hL hC (by rw [hz2]; omega) (by unfold maxLen; omega) hb ?_
  intro w' ho hg'
  refine h w' ?_ hg'
  show World.ownsRow _ _ _ _ _ (List.replicate n false).length _
  rw [List.length_replicate, List.map_replicate]
  have e : (madeCells (Value.bool false).cells (n * 1)).toList = List.replicate n (Value.bool false) := by
    rw [Nat.mul_one]; exact toList_madeCells_one _ n
  rw [e] at ho
  exact ho

/-- What is copied so far. -/
def cpZ (xs : List Bool) (k : Nat) : List Bool := xs.take k ++ List.replicate (xs.length - k) false
theorem cpZ_length (xs : List Bool) (k : Nat) (h : k ≤ xs.length) : (cpZ xs k).length = xs.length := by simp [cpZ]; omega
theorem cpZ_step (xs : List Bool) (k : Nat) (h : k < xs.length) : (cpZ xs k).set k (xs.getD k false) = cpZ xs (k + 1) := by
  have e1 : (xs.take k).length = k := by simp; omega
  unfold cpZ
  rw [List.set_append_right _ _ (by omega), e1, Nat.sub_self]
  obtain ⟨m, hm⟩ : ∃ m, xs.length - k = m + 1 := ⟨xs.length - k - 1, by omega⟩
  have hm2 : xs.length - (k + 1) = m := by omega
  rw [hm, hm2, List.replicate_succ, List.set_cons_zero, List.take_succ_eq_append_getElem h, List.append_assoc]
  simp only [List.getD_eq_getElem?_getD, List.getElem?_eq_getElem h, Option.getD_some, List.singleton_append]
theorem cpZ_end (xs : List Bool) : cpZ xs xs.length = xs := by simp [cpZ]
theorem cpZ_zero (xs : List Bool) : cpZ xs 0 = List.replicate xs.length false := by simp [cpZ]

set_option maxRecDepth 100000 in
set_option maxHeartbeats 400000 in
theorem toBoolS_calls (v : Value) (xs : List Bool) (w : World) (h : RdZ w v xs) (hn : xs.length ≤ 1048576) :
    Calls Tryz.prog 97 #[v] w fun e w' => ∃ v', e = .returned v' ∧ OwnZ w' w.heap.size v' xs ∧ Below w.heap.size w w' := by
  obtain ⟨a, cap, rfl, h1, h2, h3⟩ := h
  have H3 := hide h3
  clear h3
  go_enter Tryz.func97, Tryz.ntmps97
  go_wp2_with (at_make; refine wpList_make_bols rfl _ _ rfl w.heap.size _ _ xs.length rfl rfl (by omega) (by omega) (by omega) (Nat.le_refl _) ?_)
  intro w0 hown0 hgrow0
  have E0 := hide hown0
  have G0 := hide hgrow0
  clear hown0 hgrow0
  go_wp2
  go_loopw [4] (fun vi wr => ∃ k : Nat, k ≤ xs.length ∧ vi = .int .i64 k ∧ wr.ownsRow w.heap.size 4 1 (.slice (some ⟨w.heap.size, 0, none⟩) xs.length xs.length) xs.length ((cpZ xs k).map Value.bool) ∧ Below w.heap.size w wr) (fun vi _ => xs.length - (intOf vi).toNat)
  case atStart =>
    refine ⟨0, Nat.zero_le _, rfl, ?_, (Below.refl _ _).grown G0.out (Nat.le_refl _) (fun k h => by cases h)⟩
    rw [cpZ_zero]
    have := E0.out
    unfold OwnZ at this
    rwa [List.length_replicate] at this
  case round =>
    obtain ⟨k, hk, rfl, hown, hb⟩ := hrel
    by_cases hlt : k < xs.length
    · rcases H3.out with h3 | ⟨b, off, rfl, hbs, hc⟩
      · subst h3; simp at hlt
      · have hc1 : wr.cell? ⟨b, off + k, none⟩ = some (.bool (xs.getD k false)) := (hb.cell (by exact hbs)).trans (hc k hlt)
        have hc2 : wr.frozen? ⟨w.heap.size, k, none⟩ = false := hown.frozenAt k
        obtain ⟨old, hc3⟩ : ∃ old, wr.cell? ⟨w.heap.size, k, none⟩ = some old := by
          rw [hown.cellAt k (by omega)]
          have := cpZ_length xs k hk
          exact ⟨_, List.getElem?_eq_getElem (by simp; omega)⟩
        have hst := hown.stored k (.bool (xs.getD k false))
        rw [← List.map_set, cpZ_step xs k hlt] at hst
        have K := hide hst
        clear hst hc
        generalize xs.getD k false = z at hc1 K
        go_wp2
        go_roundw
        case rel =>
          refine ⟨k + 1, by omega, by go_num, K.out.1, hb.setCell (Nat.le_refl _) _⟩
        case measure => simp [intOf]; omega
    · obtain rfl : k = xs.length := by omega
      go_wp2
      go_ret
      rw [cpZ_end] at hown
      exact ⟨_, rfl, hown, hb⟩

set_option maxRecDepth 100000 in
set_option maxHeartbeats 400000 in
theorem eqBoolS_same (v1 v2 : Value) (xs : List Bool) (w : World) (h1 : RdZ w v1 xs) (h2 : RdZ w v2 xs) :
    Calls Tryz.prog 101 #[v1, v2] w fun e w' => e = .returned (.bool true) ∧ Below w.heap.size w w' := by
  obtain ⟨a1, c1, rfl, _, m1, k1⟩ := h1
  obtain ⟨a2, c2, rfl, _, _, k2⟩ := h2
  have hm : xs.length ≤ maxLen := by omega
  unfold maxLen at hm
  have K := hide k1
  have L := hide k2
  clear k1 k2 m1
  go_enter Tryz.func101, Tryz.ntmps101
  go_wp2
  go_loopw [5] (fun vi wr => ∃ k : Nat, k ≤ xs.length ∧ vi = .int .i64 k ∧ Below w.heap.size w wr) (fun vi _ => xs.length - (intOf vi).toNat)
  case atStart => exact ⟨0, Nat.zero_le _, rfl, Below.refl _ _⟩
  case round =>
    obtain ⟨k, hk, rfl, hb⟩ := hrel
    by_cases hlt : k < xs.length
    · rcases K.out with h3 | ⟨b, off, rfl, hbs, hc⟩
      · subst h3; simp at hlt
      rcases L.out with h3 | ⟨b', off', rfl, hbs', hc'⟩
      · subst h3; simp at hlt
      have e1 : wr.cell? ⟨b, off + k, none⟩ = some (.bool (xs.getD k false)) := (hb.cell (by exact hbs)).trans (hc k hlt)
      have e2 : wr.cell? ⟨b', off' + k, none⟩ = some (.bool (xs.getD k false)) := (hb.cell (by exact hbs')).trans (hc' k hlt)
      have hlt' : (k : Int) < (xs.length : Int) := by omega
      clear hc hc'
      generalize xs.getD k false = z at e1 e2
      go_wp2
      go_quiet (fail)
      go_wp2
      go_roundw
      case rel => exact ⟨k + 1, by omega, by go_num, below_drewN hb _⟩
      case measure => simp [intOf]; omega
    · obtain rfl : k = xs.length := by omega
      go_wp2
      go_ret
      exact ⟨rfl, hb⟩

set_option maxRecDepth 100000 in
set_option maxHeartbeats 400000 in
theorem szBoolS_calls (v : Value) (xs : List Bool) (l : Int) (w : World) (h : RdZ w v xs) (hl0 : 0 ≤ l) (hl : l ≤ 1048576) :
    Calls Tryz.prog 92 #[v, .int .i64 l] w fun e w' => (∃ r : Int, e = .returned (.int .i64 r) ∧ (r < 0 ∨ (0 ≤ r ∧ r ≤ 1048576 ∧ xs.length ≤ 1048576))) ∧ w = w' := by
  obtain ⟨a, cap, rfl, h1, h2, h3⟩ := h
  have hm : xs.length ≤ maxLen := by omega
  unfold maxLen at hm
  clear h3 h2 h1
  by_cases hn : (xs.length : Int) ≤ l
  case neg =>
    have hn' : l - (xs.length : Int) < 0 := by omega
    go_enter Tryz.func92, Tryz.ntmps92
    go_wp2
    go_ret
    exact ⟨⟨-1, rfl, .inl (by decide)⟩, rfl⟩
  have hn' : ¬ l - (xs.length : Int) < 0 := by omega
  go_enter Tryz.func92, Tryz.ntmps92
  go_wp2
  go_ret
  exact ⟨⟨_, rfl, .inr ⟨by omega, by omega, by omega⟩⟩, rfl⟩

/-- The mark of a number. -/
def mz (k : Int) : Bool := (k % 3 == 0)
/-- The marks k, k + 1, .. -/
def marksZ (k : Int) (n : Nat) : List Bool := (List.range n).map fun i : Nat => mz (k + (i : Int))
theorem marksZ_length (k : Int) (n : Nat) : (marksZ k n).length = n := by simp [marksZ]
theorem marksZ_getD (k : Int) (n i : Nat) (h : i < n) : (marksZ k n).getD i false = mz (k + i) := by simp [marksZ, h]
/-- What is marked so far. -/
def mkZ (k : Int) (xs : List Bool) (i : Nat) : List Bool := marksZ k i ++ xs.drop i
theorem mkZ_length (k : Int) (xs : List Bool) (i : Nat) (h : i ≤ xs.length) : (mkZ k xs i).length = xs.length := by simp [mkZ, marksZ]; omega
theorem mkZ_step (k : Int) (xs : List Bool) (i : Nat) (h : i < xs.length) : (mkZ k xs i).set i (mz (k + i)) = mkZ k xs (i + 1) := by
  unfold mkZ
  rw [List.set_append_right _ _ (by simp [marksZ]), marksZ_length, Nat.sub_self, List.drop_eq_getElem_cons h, List.set_cons_zero]
  simp [marksZ, List.range_succ]
theorem mkZ_end (k : Int) (xs : List Bool) : mkZ k xs xs.length = marksZ k xs.length := by simp [mkZ]

set_option maxRecDepth 100000 in
set_option maxHeartbeats 400000 in
theorem markBoolS_calls (v : Value) (xs : List Bool) (k : Int) (base : Nat) (w : World) (h : OwnZ w base v xs) (hk0 : 0 ≤ k) (hk : k ≤ 1099511627776) (hn : xs.length ≤ 1048576) :
    Calls Tryz.prog 102 #[v, .int .i64 k] w fun e w' => e = .returned (.int .i64 (k + xs.length)) ∧ OwnZ w' base v (marksZ k xs.length) ∧ w.grownBy w' v.ownBlock := by
  rcases h.2 with ⟨rfl, hz⟩ | ⟨g, cap, cur, rfl, hb, hg, hc, hm, hs, ht⟩
  · have : xs = [] := List.eq_nil_of_length_eq_zero hz
    subst this
    go_enter Tryz.func102, Tryz.ntmps102
    go_wp2
    refine wp_loop_rounds 1 ?_
    rw [rounds_succ]
    go_wp2
    go_ret
    exact ⟨by simp, World.ownsRow_nil _ _ _ _, World.grownBy.refl _ _⟩
  · have H := hide h
    clear h ht
    go_enter Tryz.func102, Tryz.ntmps102
    go_wp2
    go_loopw [1, 5] (fun vk vi wr => ∃ i : Nat, i ≤ xs.length ∧ vi = .int .i64 i ∧ vk = .int .i64 (k + i) ∧ wr.ownsRow base 4 1 (.slice (some ⟨g, 0, none⟩) xs.length cap) xs.length ((mkZ k xs i).map Value.bool) ∧ w.grownBy wr (some g)) (fun _ vi _ => xs.length - (intOf vi).toNat)
    case atStart => exact ⟨0, Nat.zero_le _, rfl, by go_num, by rw [show mkZ k xs 0 = xs from by simp [mkZ, marksZ]]; exact H.out, World.grownBy.refl _ _⟩
    case round =>
      obtain ⟨i, hi, rfl, rfl, hown, hgr⟩ := hrel
      by_cases hlt : i < xs.length
      · have hc2 : wr.frozen? ⟨g, i, none⟩ = false := hown.frozenAt i
        obtain ⟨old, hc3⟩ : ∃ old, wr.cell? ⟨g, i, none⟩ = some old := by
          rw [hown.cellAt i (by omega)]
          have := mkZ_length k xs i hi
          exact ⟨_, List.getElem?_eq_getElem (by simp; omega)⟩
        have hst := hown.stored i (.bool (mz (k + i)))
        rw [← List.map_set, mkZ_step k xs i hlt] at hst
        have K := hide hst
        clear hst
        go_wp2
        go_roundw
        case rel =>
          refine ⟨i + 1, by omega, by go_num, by go_num, K.out.1, ?_⟩
          have := K.out.2
          exact ⟨this.os.trans hgr.os, this.tape.trans hgr.tape, this.output.trans hgr.output, Nat.le_trans hgr.size this.size, fun j hj hne => (this.block j (Nat.lt_of_lt_of_le hj hgr.size) hne).trans (hgr.block j hj hne)⟩
        case measure => simp [intOf]; omega
      · obtain rfl : i = xs.length := by omega
        go_wp2
        go_ret
        rw [mkZ_end] at hown
        refine ⟨rfl, ?_, hgr⟩
        have e : (marksZ k xs.length).length = xs.length := marksZ_length _ _
        show World.ownsRow _ _ _ _ _ (marksZ k xs.length).length _
        rw [e]
        exact hown

set_option maxRecDepth 100000 in
set_option maxHeartbeats 400000 in
theorem heldBoolS_calls (v : Value) (n : Nat) (k : Int) (w : World) (h : RdZ w v (marksZ k n)) (hk0 : 0 ≤ k) (hk : k ≤ 1099511627776) (hn : n ≤ 1048576) :
    Calls Tryz.prog 104 #[v, .int .i64 k] w fun e w' => e = .returned (.int .i64 (k + n)) ∧ w = w' := by
  obtain ⟨a, cap, rfl, h1, h2, h3⟩ := h
  rw [marksZ_length]
  have H := hide h3
  clear h3
  go_enter Tryz.func104, Tryz.ntmps104
  go_wp2
  go_loop [1, 5] (fun vk vi => ∃ i : Nat, i ≤ n ∧ vi = .int .i64 i ∧ vk = .int .i64 (k + i)) (fun _ vi => n - (intOf vi).toNat)
  case atStart => exact ⟨0, Nat.zero_le _, rfl, by go_num⟩
  case round =>
    obtain ⟨i, hi, rfl, rfl⟩ := hrel
    by_cases hlt : i < n
    · rcases H.out with h3 | ⟨b, off, rfl, hbs, hc⟩
      · have := congrArg List.length h3
        rw [marksZ_length] at this
        simp at this; omega
      have hc1 := hc i (by rw [marksZ_length]; exact hlt)
      rw [marksZ_getD k n i hlt] at hc1
      unfold mz at hc1
      clear hc
      go_wp2
      go_round
      case rel => exact ⟨i + 1, by omega, by go_num, by go_num⟩
      case measure => simp [intOf]; omega
    · obtain rfl : i = n := by omega
      go_wp2
      go_ret
      exact ⟨rfl, rfl⟩
end Go.Proofs.YtbgadbokejaomaaGreatDoor

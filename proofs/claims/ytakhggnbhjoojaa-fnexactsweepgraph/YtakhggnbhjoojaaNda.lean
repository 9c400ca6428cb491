/-
  Nodes as values: what reads as nodes (RdN), rows of integers that lie apart (Rws), nodes of a call's own (NdV). No condition; no call is walked here.
-/
import Derived.Test.YtakhggnbhjoojaaHnd
namespace Go.Proofs.Ytakhggnbhjoojaa
open Go.RowKit
set_option linter.unusedVariables false

/-- A node: its Holds, and whether it is Gone. -/
abbrev Nd := List Int × Bool
def nd0 : Nd := ([], false)
/-- The value v is a slice that reads as these nodes. -/
def RdN (w : World) (v : Value) (xs : List Nd) : Prop :=
  ∃ a cap, v = .slice a xs.length cap ∧ xs.length ≤ cap ∧ (cap ≤ maxLen ∧ (a = none → cap = 0)) ∧
    (xs = [] ∨ ∃ b off, a = some ⟨b, off, none⟩ ∧ b < w.heap.size ∧ ∀ i, i < xs.length → ∃ u, Rd w u (xs.getD i nd0).1 ∧
      w.cell? ⟨b, off + i * 2, none⟩ = some u ∧ w.cell? ⟨b, off + i * 2 + 1, none⟩ = some (.bool (xs.getD i nd0).2))
theorem RdN.below {w w' : World} {v : Value} {xs : List Nd} (h : RdN w v xs) (hb : Below w.heap.size w w') : RdN w' v xs := by
  obtain ⟨a, cap, rfl, h1, h2, h3⟩ := h
  refine ⟨a, cap, rfl, h1, h2, ?_⟩
  rcases h3 with h3 | ⟨b, off, rfl, hlt, hc⟩
  · exact .inl h3
  · refine .inr ⟨b, off, rfl, Nat.lt_of_lt_of_le hlt hb.size, fun i hi => ?_⟩
    obtain ⟨u, hu, c0, c1⟩ := hc i hi
    refine ⟨u, hu.below hb, ?_, ?_⟩
    · rw [hb.cell hlt]; exact c0
    · rw [hb.cell hlt]; exact c1
theorem RdN.at {w : World} {a : Option Addr} {n cap : Nat} {xs : List Nd} (h : RdN w (.slice a n cap) xs) (i : Nat) (hi : i < xs.length) :
    ∃ b off u ks z, a = some ⟨b, off, none⟩ ∧ xs.getD i nd0 = (ks, z) ∧ Rd w u ks ∧ w.cell? ⟨b, off + i * 2, none⟩ = some u ∧ w.cell? ⟨b, off + i * 2 + 1, none⟩ = some (.bool z) := by
  obtain ⟨a', cap', e, h1, h2, h3⟩ := h
  simp only [Value.slice.injEq] at e
  obtain ⟨rfl, _, rfl⟩ := e
  rcases h3 with rfl | ⟨b, off, rfl, hlt, hc⟩
  · simp at hi
  · obtain ⟨u, hu, c0, c1⟩ := hc i hi
    exact ⟨b, off, u, _, _, rfl, rfl, hu, c0, c1⟩
theorem RdN.sl {w : World} {v : Value} {xs : List Nd} (h : RdN w v xs) : ∃ a cap, v = .slice a xs.length cap ∧ xs.length ≤ cap ∧ cap ≤ maxLen := by
  obtain ⟨a, cap, rfl, h1, h2, h3⟩ := h
  exact ⟨a, cap, rfl, h1, h2.1⟩
theorem getD_take {α : Type} (l : List α) (k i : Nat) (d : α) (h : i < k) : (l.take k).getD i d = l.getD i d := by
  simp [List.getD_eq_getElem?_getD, h]
/-- The first k nodes. -/
theorem RdN.take {w : World} {a : Option Addr} {n cap : Nat} {xs : List Nd} (h : RdN w (.slice a n cap) xs) (k : Nat) (hk : k ≤ xs.length) : RdN w (.slice a k cap) (xs.take k) := by
  obtain ⟨a', cap', e, h1, h2, h3⟩ := h
  simp only [Value.slice.injEq] at e
  obtain ⟨rfl, _, rfl⟩ := e
  have hl : (xs.take k).length = k := by simp; omega
  refine ⟨a, cap, by rw [hl], by omega, h2, ?_⟩
  rcases h3 with rfl | ⟨b, off, rfl, hlt, hc⟩
  · exact .inl (by simp)
  · refine .inr ⟨b, off, rfl, hlt, fun i hi => ?_⟩
    rw [hl] at hi
    rw [getD_take _ _ _ _ hi]
    exact hc i (by omega)

/-- Rows of integers of a call's own, each in a block of its own. -/
structure Rws (w : World) (lo hi : Nat) (us : List Value) (ks : List (List Int)) : Prop where
  len : us.length = ks.length
  row : ∀ i, i < ks.length → Own w lo (us.getD i nilRow) (ks.getD i [])
  tops : ∀ i b, i < ks.length → (us.getD i nilRow).ownBlock = some b → b < hi
  apart : ∀ i j, i < ks.length → j < ks.length → i ≠ j → (us.getD i nilRow).ownBlock = none ∨ (us.getD i nilRow).ownBlock ≠ (us.getD j nilRow).ownBlock
section
variable {w w' : World} {lo hi : Nat} {us : List Value} {ks : List (List Int)}
theorem Rws.nil (w : World) (lo hi : Nat) : Rws w lo hi [] [] := ⟨rfl, fun i h => by simp at h, fun i b h => by simp at h, fun i j h => by simp at h⟩
theorem Rws.chg {a b : Nat} (h : Rws w lo hi us ks) (hc : Chg a b w w') (hd : hi ≤ a ∨ b ≤ lo) : Rws w' lo hi us ks :=
  ⟨h.len, fun i hi' => ownsRow_chg (h.row i hi') (fun j hj => h.tops i j hi' hj) hc hd, h.tops, h.apart⟩
theorem Rws.below (h : Rws w lo hi us ks) (hb : Below w.heap.size w w') : Rws w' lo hi us ks :=
  ⟨h.len, fun i hi' => (h.row i hi').below hb, h.tops, h.apart⟩
theorem Rws.wider {lo' hi' : Nat} (h : Rws w lo hi us ks) (h1 : lo' ≤ lo) (h2 : hi ≤ hi') : Rws w lo' hi' us ks :=
  ⟨h.len, fun i hi' => ownsRow_mono (h.row i hi') h1, fun i j hi' hj => Nat.lt_of_lt_of_le (h.tops i j hi' hj) h2, h.apart⟩
/-- A block that is none of these rows' is written. -/
theorem Rws.kept {row : Option Nat} (h : Rws w lo hi us ks) (hg : w.grownBy w' row) (hn : ∀ i, i < ks.length → (us.getD i nilRow).ownBlock = none ∨ (us.getD i nilRow).ownBlock ≠ row) : Rws w' lo hi us ks :=
  ⟨h.len, fun i hi' => World.ownsRow.kept (h.row i hi') hg (hn i hi'), h.tops, h.apart⟩
/-- A row is written in its place. -/
theorem Rws.write {r : List Int} (h : Rws w lo hi us ks) (i : Nat) (hi' : i < ks.length) (ho : Own w' lo (us.getD i nilRow) r) (hg : w.grownBy w' (us.getD i nilRow).ownBlock) : Rws w' lo hi us (ks.set i r) := by
  refine ⟨by rw [List.length_set]; exact h.len, fun j hj => ?_, fun j b hj => h.tops j b (by simpa using hj), fun j k hj hk => h.apart j k (by simpa using hj) (by simpa using hk)⟩
  rw [List.length_set] at hj
  rw [getD_set _ _ _ _ _ hi']
  by_cases e : j = i
  · subst e; rw [if_pos rfl]; exact ho
  · rw [if_neg e]
    exact World.ownsRow.kept (h.row j hj) hg (h.apart j i hj hi' e)
theorem Rws.writeChg (h : Rws w lo hi us ks) (i : Nat) (hi' : i < ks.length) (hg : w.grownBy w' (us.getD i nilRow).ownBlock) : Chg lo hi w w' :=
  Chg.ofGrown hg (fun k hk => ⟨(World.ownsRow.lt (h.row i hi') k hk).1, h.tops i k hi' hk⟩)
/-- Another value stands for a row: it lies in a new block, or where the row lay. -/
theorem Rws.put {hi2 : Nat} {u : Value} {r : List Int} (h : Rws w lo hi us ks) (i : Nat) (hi' : i < ks.length) (ho : Own w lo u r) (hh : hi ≤ hi2) (hu : ∀ b, u.ownBlock = some b → b < hi2 ∧ (hi ≤ b ∨ (us.getD i nilRow).ownBlock = some b)) : Rws w lo hi2 (us.set i u) (ks.set i r) := by
  have hl : i < us.length := by rw [h.len]; exact hi'
  refine ⟨by rw [List.length_set, List.length_set]; exact h.len, fun j hj => ?_, fun j b hj hb => ?_, fun j k hj hk hjk => ?_⟩
  · rw [List.length_set] at hj
    rw [getD_set _ _ _ _ _ hl, getD_set _ _ _ _ _ hi']
    by_cases e : j = i
    · rw [if_pos e, if_pos e]; exact ho
    · rw [if_neg e, if_neg e]; exact h.row j hj
  · rw [List.length_set] at hj
    rw [getD_set _ _ _ _ _ hl] at hb
    by_cases e : j = i
    · rw [if_pos e] at hb; exact (hu b hb).1
    · rw [if_neg e] at hb
      exact Nat.lt_of_lt_of_le (h.tops j b hj hb) hh
  · rw [List.length_set] at hj hk
    rw [getD_set _ _ _ _ _ hl, getD_set _ _ _ _ _ hl]
    by_cases e : j = i
    · rw [if_pos e, if_neg (by omega)]
      cases hb : u.ownBlock with
      | none => exact .inl rfl
      | some b =>
        right
        intro e'
        rcases (hu b hb).2 with h1 | h1
        · have := h.tops k b hk e'.symm
          omega
        · rcases h.apart k i hk hi' (by omega) with h2 | h2
          · rw [h2] at e'; cases e'
          · exact h2 (by rw [← e', h1])
    · rw [if_neg e]
      by_cases e2 : k = i
      · rw [if_pos e2]
        cases hb : (us.getD j nilRow).ownBlock with
        | none => exact .inl rfl
        | some b =>
          right
          intro e'
          rcases (hu b e'.symm).2 with h1 | h1
          · have := h.tops j b hj hb
            omega
          · rcases h.apart j i hj hi' e with h2 | h2
            · rw [h2] at hb; cases hb
            · exact h2 (by rw [hb, h1])
      · rw [if_neg e2]
        exact h.apart j k hj hk hjk
/-- A new row ahead of the others. -/
theorem Rws.cons {hi2 : Nat} {u : Value} {r : List Int} (h : Rws w lo hi us ks) (ho : Own w lo u r) (hh : hi ≤ hi2) (hu : ∀ b, u.ownBlock = some b → b < hi2 ∧ hi ≤ b) : Rws w lo hi2 (u :: us) (r :: ks) := by
  refine ⟨by simp [h.len], fun j hj => ?_, fun j b hj hb => ?_, fun j k hj hk hjk => ?_⟩
  · cases j with
    | zero => exact ho
    | succ j => exact h.row j (by simpa using hj)
  · cases j with
    | zero => exact (hu b hb).1
    | succ j => exact Nat.lt_of_lt_of_le (h.tops j b (by simpa using hj) hb) hh
  · cases j with
    | zero =>
      cases k with
      | zero => exact absurd rfl hjk
      | succ k =>
        cases hb : u.ownBlock with
        | none => exact .inl hb
        | some b =>
          right
          intro e'
          have h1 := (hu b hb).2
          have h2 := h.tops k b (by simpa using hk) (e'.symm.trans hb)
          omega
    | succ j =>
      cases k with
      | zero =>
        cases hb : (us.getD j nilRow).ownBlock with
        | none => exact .inl hb
        | some b =>
          right
          intro e'
          have h1 := (hu b (e'.symm.trans hb)).2
          have h2 := h.tops j b (by simpa using hj) hb
          omega
      | succ k => exact h.apart j k (by simpa using hj) (by simpa using hk) (by omega)
/-- A row more ahead of the others, that lies apart from them. -/
theorem Rws.consAny {hi2 : Nat} {u : Value} {r : List Int} (h : Rws w lo hi us ks) (ho : Own w lo u r) (hh : hi ≤ hi2) (hu : ∀ b, u.ownBlock = some b → b < hi2) (hne : ∀ i b, i < ks.length → (us.getD i nilRow).ownBlock = some b → u.ownBlock ≠ some b) : Rws w lo hi2 (u :: us) (r :: ks) := by
  refine ⟨by simp [h.len], fun j hj => ?_, fun j b hj hb => ?_, fun j k hj hk hjk => ?_⟩
  · cases j with
    | zero => exact ho
    | succ j => exact h.row j (by simpa using hj)
  · cases j with
    | zero => exact hu b hb
    | succ j => exact Nat.lt_of_lt_of_le (h.tops j b (by simpa using hj) hb) hh
  · cases j with
    | zero =>
      cases k with
      | zero => exact absurd rfl hjk
      | succ k =>
        cases hb : u.ownBlock with
        | none => exact .inl hb
        | some b =>
          right
          intro e'
          exact hne k b (by simpa using hk) (e'.symm.trans hb) hb
    | succ j =>
      cases k with
      | zero =>
        cases hb : (us.getD j nilRow).ownBlock with
        | none => exact .inl hb
        | some b =>
          right
          intro e'
          exact hne j b (by simpa using hj) hb (e'.symm.trans hb)
      | succ k => exact h.apart j k (by simpa using hj) (by simpa using hk) (by omega)
theorem Rws.tail {u : Value} {r : List Int} (h : Rws w lo hi (u :: us) (r :: ks)) : Rws w lo hi us ks :=
  ⟨by simpa using h.len, fun j hj => h.row (j + 1) (by simpa using hj), fun j b hj hb => h.tops (j + 1) b (by simpa using hj) hb, fun j k hj hk hjk => h.apart (j + 1) (k + 1) (by simpa using hj) (by simpa using hk) (by omega)⟩
/-- A new row behind the others. -/
theorem Rws.push {hi2 : Nat} {u : Value} {r : List Int} (h : Rws w lo hi us ks) (ho : Own w lo u r) (hh : hi ≤ hi2) (hu : ∀ b, u.ownBlock = some b → b < hi2 ∧ hi ≤ b) : Rws w lo hi2 (us ++ [u]) (ks ++ [r]) := by
  have get : ∀ j, j < ks.length → (us ++ [u]).getD j nilRow = us.getD j nilRow ∧ (ks ++ [r]).getD j [] = ks.getD j [] := by
    intro j hj
    simp only [List.getD_eq_getElem?_getD]
    rw [List.getElem?_append_left (by rw [h.len]; exact hj), List.getElem?_append_left hj]
    exact ⟨rfl, rfl⟩
  have getl : (us ++ [u]).getD ks.length nilRow = u ∧ (ks ++ [r]).getD ks.length [] = r := by
    simp only [List.getD_eq_getElem?_getD]
    rw [List.getElem?_append_right (by rw [h.len]; exact Nat.le_refl _), List.getElem?_append_right (Nat.le_refl _), h.len, Nat.sub_self]
    exact ⟨rfl, rfl⟩
  refine ⟨by simp [h.len], fun j hj => ?_, fun j b hj hb => ?_, fun j k hj hk hjk => ?_⟩
  · rw [List.length_append, List.length_singleton] at hj
    by_cases e : j = ks.length
    · subst e; rw [getl.1, getl.2]; exact ho
    · rw [(get j (by omega)).1, (get j (by omega)).2]; exact h.row j (by omega)
  · rw [List.length_append, List.length_singleton] at hj
    by_cases e : j = ks.length
    · subst e; rw [getl.1] at hb; exact (hu b hb).1
    · rw [(get j (by omega)).1] at hb; exact Nat.lt_of_lt_of_le (h.tops j b (by omega) hb) hh
  · rw [List.length_append, List.length_singleton] at hj hk
    by_cases e : j = ks.length
    · subst e
      rw [getl.1, (get k (by omega)).1]
      cases hb : u.ownBlock with
      | none => exact .inl rfl
      | some b =>
        right
        intro e'
        have h1 := (hu b hb).2
        have h2 := h.tops k b (by omega) e'.symm
        omega
    · rw [(get j (by omega)).1]
      by_cases e2 : k = ks.length
      · subst e2
        rw [getl.1]
        cases hb : (us.getD j nilRow).ownBlock with
        | none => exact .inl rfl
        | some b =>
          right
          intro e'
          have h1 := (hu b e'.symm).2
          have h2 := h.tops j b (by omega) hb
          omega
      · rw [(get k (by omega)).1]
        exact h.apart j k (by omega) (by omega) hjk
end

/-- Rows of unlike types lie in unlike blocks. -/
theorem types_apart {w : World} {lo lo' s s' n k : Nat} {e e' : TypeId} {v u : Value} {vs xs : List Value} (h : w.ownsRow lo e s v n vs) (h' : w.ownsRow lo' e' s' u k xs) (hne : e ≠ e') : v.ownBlock = none ∨ v.ownBlock ≠ u.ownBlock := by
  rcases h.2 with ⟨rfl, _⟩ | ⟨g, cap, cur, rfl, _, hg, _⟩
  · exact .inl rfl
  rcases h'.2 with ⟨rfl, _⟩ | ⟨g', cap', cur', rfl, _, hg', _⟩
  · right; simp [Value.ownBlock]
  · right
    intro e
    simp only [Value.ownBlock, Option.some.injEq] at e
    subst e
    rw [hg] at hg'
    simp only [Option.some.injEq, Obj.cells.injEq] at hg'
    exact hne hg'.2.1

/-- The cells of nodes: two each. -/
def ndC : List Value → List Nd → List Value
  | u :: us, x :: xs => u :: .bool x.2 :: ndC us xs
  | _, _ => []
theorem ndC_len : ∀ (us : List Value) (xs : List Nd), us.length = xs.length → (ndC us xs).length = xs.length * 2
  | [], [], _ => rfl
  | u :: us, x :: xs, h => by
    have := ndC_len us xs (by simpa using h)
    simp only [ndC, List.length_cons, this]
    omega
theorem ndC_hold : ∀ (us : List Value) (xs : List Nd) (i : Nat), us.length = xs.length → i < xs.length → (ndC us xs)[i * 2]? = some (us.getD i nilRow)
  | u :: us, x :: xs, 0, _, _ => rfl
  | u :: us, x :: xs, i + 1, h, hi => by
    have := ndC_hold us xs i (by simpa using h) (by simpa using hi)
    rw [show (i + 1) * 2 = i * 2 + 1 + 1 from by omega]
    simpa [ndC] using this
  | [], [], i, _, hi => by simp at hi
theorem ndC_gone : ∀ (us : List Value) (xs : List Nd) (i : Nat), us.length = xs.length → i < xs.length → (ndC us xs)[i * 2 + 1]? = some (.bool (xs.getD i nd0).2)
  | u :: us, x :: xs, 0, _, _ => rfl
  | u :: us, x :: xs, i + 1, h, hi => by
    have := ndC_gone us xs i (by simpa using h) (by simpa using hi)
    rw [show (i + 1) * 2 + 1 = i * 2 + 1 + 1 + 1 from by omega]
    simpa [ndC] using this
  | [], [], i, _, hi => by simp at hi
theorem ndC_setHold : ∀ (us : List Value) (xs : List Nd) (i : Nat) (u : Value) (x : Nd), x.2 = (xs.getD i nd0).2 → us.length = xs.length → i < xs.length → (ndC us xs).set (i * 2) u = ndC (us.set i u) (xs.set i x)
  | _ :: us, y :: xs, 0, u, x, hx, _, _ => by simp [ndC] at hx ⊢; exact hx.symm
  | v :: us, y :: xs, i + 1, u, x, hx, h, hi => by
    have := ndC_setHold us xs i u x (by simpa using hx) (by simpa using h) (by simpa using hi)
    rw [show (i + 1) * 2 = i * 2 + 1 + 1 from by omega]
    simpa [ndC] using this
  | [], [], i, _, _, _, _, hi => by simp at hi
theorem ndC_setGone : ∀ (us : List Value) (xs : List Nd) (i : Nat) (x : Nd), us.length = xs.length → i < xs.length → (ndC us xs).set (i * 2 + 1) (.bool x.2) = ndC us (xs.set i x)
  | _ :: us, y :: xs, 0, x, _, _ => by simp [ndC]
  | v :: us, y :: xs, i + 1, x, h, hi => by
    have := ndC_setGone us xs i x (by simpa using h) (by simpa using hi)
    rw [show (i + 1) * 2 + 1 = i * 2 + 1 + 1 + 1 from by omega]
    simpa [ndC] using this
  | [], [], i, _, _, hi => by simp at hi
theorem ndC_push : ∀ (us : List Value) (xs : List Nd) (u : Value) (x : Nd), us.length = xs.length → ndC us xs ++ [u, .bool x.2] = ndC (us ++ [u]) (xs ++ [x])
  | [], [], u, x, _ => rfl
  | v :: us, y :: xs, u, x, h => by
    have := ndC_push us xs u x (by simpa using h)
    simp only [ndC, List.cons_append, this]
/-- Only whether they are Gone stands in the cells. -/
theorem ndC_same : ∀ (us : List Value) (xs ys : List Nd), xs.map Prod.snd = ys.map Prod.snd → ndC us xs = ndC us ys
  | [], _, _, _ => by simp [ndC]
  | u :: us, [], [], _ => rfl
  | u :: us, x :: xs, y :: ys, h => by
    simp only [List.map_cons, List.cons.injEq] at h
    simp only [ndC, h.1, ndC_same us xs ys h.2]
  | u :: us, [], y :: ys, h => by simp at h
  | u :: us, x :: xs, [], h => by simp at h

/-- Nodes of a call's own: the slice v, the values us of what they hold, the nodes xs; besides, rows es that hold qs and lie apart from them. -/
structure NdV (w : World) (lo hi : Nat) (v : Value) (es us : List Value) (qs : List (List Int)) (xs : List Nd) : Prop where
  head : w.ownsRow lo 84 2 v xs.length (ndC us xs)
  top : ∀ k, v.ownBlock = some k → k < hi
  lenE : es.length = qs.length
  rws : Rws w lo hi (es ++ us) (qs ++ xs.map Prod.fst)
theorem rowsChg {w w' : World} {lo hi : Nat} {v : Value} {e : TypeId} {s a b n : Nat} {zs : List Value} (h : w.ownsRow lo e s v n zs) (ht : ∀ k, v.ownBlock = some k → k < hi) (hc : Chg a b w w') (hd : hi ≤ a ∨ b ≤ lo) : w'.ownsRow lo e s v n zs := by
  refine ⟨h.1, ?_⟩
  rcases h.2 with hn | ⟨g, cap, cur, rfl, hb', hg, rest⟩
  · exact .inl hn
  · have := ht g rfl
    exact .inr ⟨g, cap, cur, rfl, hb', by rw [hc.block g (Array.getElem?_eq_some_iff.1 hg).1 (by omega)]; exact hg, rest⟩
theorem rowsMono {w : World} {lo : Nat} {v : Value} {e : TypeId} {s n lo' : Nat} {zs : List Value} (h : w.ownsRow lo e s v n zs) (hl : lo' ≤ lo) : w.ownsRow lo' e s v n zs := by
  refine ⟨h.1, ?_⟩
  rcases h.2 with hn | ⟨g, cap, cur, rfl, hb', rest⟩
  · exact .inl hn
  · exact .inr ⟨g, cap, cur, rfl, Nat.le_trans hl hb', rest⟩
theorem rowsBelow {w w' : World} {lo : Nat} {v : Value} {e : TypeId} {s n : Nat} {zs : List Value} (h : w.ownsRow lo e s v n zs) (hb : Below w.heap.size w w') : w'.ownsRow lo e s v n zs :=
  rowsChg h (fun k hk => (World.ownsRow.lt h k hk).2) (Chg.ofBelow (lo := w.heap.size) (hi := w.heap.size) hb) (.inl (Nat.le_refl _))
theorem getD_app_left {α : Type} (a b : List α) (i : Nat) (d : α) (h : i < a.length) : (a ++ b).getD i d = a.getD i d := by
  simp only [List.getD_eq_getElem?_getD]; rw [List.getElem?_append_left h]
theorem getD_app_right {α : Type} (a b : List α) (n i : Nat) (d : α) (h : a.length = n) : (a ++ b).getD (n + i) d = b.getD i d := by
  subst h
  simp only [List.getD_eq_getElem?_getD]; rw [List.getElem?_append_right (by omega)]; simp
theorem set_app_left {α : Type} (a b : List α) (i : Nat) (x : α) (h : i < a.length) : (a ++ b).set i x = a.set i x ++ b := by
  rw [List.set_append_left _ _ h]
theorem set_app_right {α : Type} (a b : List α) (n i : Nat) (x : α) (h : a.length = n) : (a ++ b).set (n + i) x = a ++ b.set i x := by
  subst h
  rw [List.set_append_right _ _ (by omega)]; simp
theorem fst_getD (xs : List Nd) (i : Nat) : (xs.map Prod.fst).getD i [] = (xs.getD i nd0).1 := by
  simp only [List.getD_eq_getElem?_getD, List.getElem?_map]
  cases xs[i]? <;> rfl
section
variable {w w' : World} {lo hi : Nat} {v : Value} {es us : List Value} {qs : List (List Int)} {xs : List Nd}
theorem NdV.len (h : NdV w lo hi v es us qs xs) : us.length = xs.length := by
  have h1 := h.rws.len
  have h2 := h.lenE
  simp at h1
  omega
theorem NdV.chg {a b : Nat} (h : NdV w lo hi v es us qs xs) (hc : Chg a b w w') (hd : hi ≤ a ∨ b ≤ lo) : NdV w' lo hi v es us qs xs :=
  ⟨rowsChg h.head h.top hc hd, h.top, h.lenE, h.rws.chg hc hd⟩
theorem NdV.below (h : NdV w lo hi v es us qs xs) (hb : Below w.heap.size w w') : NdV w' lo hi v es us qs xs :=
  ⟨rowsBelow h.head hb, h.top, h.lenE, h.rws.below hb⟩
theorem NdV.wider {lo' hi' : Nat} (h : NdV w lo hi v es us qs xs) (h1 : lo' ≤ lo) (h2 : hi ≤ hi') : NdV w lo' hi' v es us qs xs :=
  ⟨rowsMono h.head h1, fun k hk => Nat.lt_of_lt_of_le (h.top k hk) h2, h.lenE, h.rws.wider h1 h2⟩
theorem NdV.nil (w : World) (lo hi : Nat) : NdV w lo hi nilRow [] [] [] [] := ⟨World.ownsRow_nil _ _ _ _, fun k hk => by simp [Value.ownBlock] at hk, rfl, Rws.nil _ _ _⟩
theorem NdV.row (h : NdV w lo hi v es us qs xs) (i : Nat) (hi' : i < xs.length) : Own w lo (us.getD i nilRow) (xs.getD i nd0).1 := by
  have := h.rws.row (qs.length + i) (by simp; omega)
  rwa [getD_app_right es us _ i _ h.lenE, getD_app_right qs _ _ i _ rfl, fst_getD] at this
theorem NdV.rowTop (h : NdV w lo hi v es us qs xs) (i : Nat) (hi' : i < xs.length) : ∀ b, (us.getD i nilRow).ownBlock = some b → b < hi := by
  intro b hb
  refine h.rws.tops (qs.length + i) b (by simp; omega) ?_
  rwa [getD_app_right es us _ i _ h.lenE]
theorem NdV.rowE (h : NdV w lo hi v es us qs xs) (i : Nat) (hi' : i < qs.length) : Own w lo (es.getD i nilRow) (qs.getD i []) := by
  have := h.rws.row i (by simp; omega)
  rwa [getD_app_left es us i _ (by rw [h.lenE]; exact hi'), getD_app_left qs _ i _ hi'] at this
theorem NdV.topE (h : NdV w lo hi v es us qs xs) (i : Nat) (hi' : i < qs.length) : ∀ b, (es.getD i nilRow).ownBlock = some b → b < hi := by
  intro b hb
  refine h.rws.tops i b (by simp; omega) ?_
  rwa [getD_app_left es us i _ (by rw [h.lenE]; exact hi')]
theorem NdV.rd (h : NdV w lo hi v es us qs xs) : RdN w v xs := by
  have hl := h.len
  rcases h.head.2 with ⟨rfl, hn⟩ | ⟨g, cap, cur, rfl, hb, hg, hc, hm, hs, ht⟩
  · have : xs = [] := List.eq_nil_of_length_eq_zero hn
    subst this
    exact ⟨none, 0, rfl, Nat.le_refl _, ⟨Nat.zero_le _, fun _ => rfl⟩, .inl rfl⟩
  · refine ⟨_, cap, rfl, hc, ⟨hm, fun h => by cases h⟩, .inr ⟨g, 0, rfl, (Array.getElem?_eq_some_iff.1 hg).1, fun i hi => ⟨us.getD i nilRow, (h.row i hi).rd, ?_, ?_⟩⟩⟩
    · rw [Nat.zero_add, World.ownsRow.cellAt h.head (i * 2) (by omega)]
      exact ndC_hold us xs i hl hi
    · rw [Nat.zero_add, World.ownsRow.cellAt h.head (i * 2 + 1) (by omega)]
      exact ndC_gone us xs i hl hi
theorem NdV.lenEq {g n cap : Nat} (h : NdV w lo hi (.slice (some ⟨g, 0, none⟩) n cap) es us qs xs) : n = xs.length := by
  rcases h.head.2 with ⟨h', _⟩ | ⟨g', cap', cur, h', _⟩
  · simp at h'
  · simp at h'; exact h'.2.1
/-- What a node's cells are, and that they may be written. -/
theorem NdV.cells {g n cap : Nat} (h : NdV w lo hi (.slice (some ⟨g, 0, none⟩) n cap) es us qs xs) (i : Nat) (hi' : i < xs.length) :
    w.cell? ⟨g, i * 2, none⟩ = some (us.getD i nilRow) ∧ w.cell? ⟨g, i * 2 + 1, none⟩ = some (.bool (xs.getD i nd0).2) ∧ w.frozen? ⟨g, i * 2, none⟩ = false ∧ w.frozen? ⟨g, i * 2 + 1, none⟩ = false := by
  obtain rfl := h.lenEq
  have hl := h.len
  refine ⟨?_, ?_, World.ownsRow.frozenAt h.head _, World.ownsRow.frozenAt h.head _⟩
  · rw [World.ownsRow.cellAt h.head (i * 2) (by omega)]; exact ndC_hold us xs i hl hi'
  · rw [World.ownsRow.cellAt h.head (i * 2 + 1) (by omega)]; exact ndC_gone us xs i hl hi'
theorem NdV.slice (h : NdV w lo hi v es us qs xs) : ∃ a cap, v = .slice a xs.length cap := by
  rcases h.head.2 with ⟨rfl, h0⟩ | ⟨g, cap, cur, rfl, hb, _⟩
  · exact ⟨none, 0, by rw [h0]⟩
  · exact ⟨_, cap, rfl⟩
theorem NdV.form (h : NdV w lo hi v es us qs xs) (h0 : 0 < xs.length) : ∃ g cap, v = .slice (some ⟨g, 0, none⟩) xs.length cap ∧ lo ≤ g ∧ g < hi ∧ g < w.heap.size ∧ xs.length ≤ cap ∧ cap ≤ maxLen := by
  rcases h.head.2 with ⟨_, h'⟩ | ⟨g, cap, cur, rfl, hb, hg, hc, hm, _⟩
  · omega
  · exact ⟨g, cap, rfl, hb, h.top g rfl, (Array.getElem?_eq_some_iff.1 hg).1, hc, hm⟩
/-- A row of integers is in no block of the nodes'. -/
theorem NdV.off {lo2 n : Nat} {u : Value} {ys : List Value} (h : NdV w lo hi v es us qs xs) (ho : w.ownsRow lo2 3 1 u n ys) : v.ownBlock = none ∨ v.ownBlock ≠ u.ownBlock := types_apart h.head ho (by decide)
theorem NdV.off' {lo2 n : Nat} {u : Value} {ys : List Value} (h : NdV w lo hi v es us qs xs) (ho : w.ownsRow lo2 3 1 u n ys) : u.ownBlock = none ∨ u.ownBlock ≠ v.ownBlock := types_apart ho h.head (by decide)
theorem nd_set {i : Nat} {r : List Int} (xs : List Nd) : (xs.map Prod.fst).set i r = (xs.set i (r, (xs.getD i nd0).2)).map Prod.fst := by rw [List.map_set]
theorem nd_same {i : Nat} (xs : List Nd) (r : List Int) (hi' : i < xs.length) : ndC us xs = ndC us (xs.set i (r, (xs.getD i nd0).2)) := by
  refine ndC_same us _ _ ?_
  rw [List.map_set]
  refine (List.ext_getElem? fun j => ?_).symm
  rw [List.getElem?_set]
  by_cases e : i = j
  · subst e
    simp [hi']
  · rw [if_neg e]
/-- What a node holds is written in its place. -/
theorem NdV.write {r : List Int} (h : NdV w lo hi v es us qs xs) (i : Nat) (hi' : i < xs.length) (ho : Own w' lo (us.getD i nilRow) r) (hg : w.grownBy w' (us.getD i nilRow).ownBlock) : NdV w' lo hi v es us qs (xs.set i (r, (xs.getD i nd0).2)) := by
  have e1 : (es ++ us).getD (qs.length + i) nilRow = us.getD i nilRow := getD_app_right es us _ i _ h.lenE
  refine ⟨?_, h.top, h.lenE, ?_⟩
  · rw [List.length_set, ← nd_same xs r hi']
    exact World.ownsRow.kept h.head hg (h.off (h.row i hi'))
  · rw [← nd_set, ← set_app_right qs _ _ i _ rfl]
    exact h.rws.write (qs.length + i) (by simp; omega) (by rw [e1]; exact ho) (by rw [e1]; exact hg)
theorem NdV.writeChg (h : NdV w lo hi v es us qs xs) (i : Nat) (hi' : i < xs.length) (hg : w.grownBy w' (us.getD i nilRow).ownBlock) : Chg lo hi w w' :=
  Chg.ofGrown hg (fun k hk => ⟨(World.ownsRow.lt (h.row i hi') k hk).1, h.rowTop i hi' k hk⟩)
/-- A row besides is written in its place. -/
theorem NdV.writeE {r : List Int} (h : NdV w lo hi v es us qs xs) (i : Nat) (hi' : i < qs.length) (ho : Own w' lo (es.getD i nilRow) r) (hg : w.grownBy w' (es.getD i nilRow).ownBlock) : NdV w' lo hi v es us (qs.set i r) xs := by
  have e1 : (es ++ us).getD i nilRow = es.getD i nilRow := getD_app_left es us i _ (by rw [h.lenE]; exact hi')
  refine ⟨World.ownsRow.kept h.head hg (h.off (h.rowE i hi')), h.top, by rw [List.length_set]; exact h.lenE, ?_⟩
  rw [← set_app_left qs _ i _ hi']
  exact h.rws.write i (by simp; omega) (by rw [e1]; exact ho) (by rw [e1]; exact hg)
theorem NdV.writeEChg (h : NdV w lo hi v es us qs xs) (i : Nat) (hi' : i < qs.length) (hg : w.grownBy w' (es.getD i nilRow).ownBlock) : Chg lo hi w w' :=
  Chg.ofGrown hg (fun k hk => ⟨(World.ownsRow.lt (h.rowE i hi') k hk).1, h.topE i hi' k hk⟩)
/-- Whether a node is Gone is written. -/
theorem NdV.setGone {g n cap : Nat} (h : NdV w lo hi (.slice (some ⟨g, 0, none⟩) n cap) es us qs xs) (i : Nat) (hi' : i < xs.length) (z : Bool) :
    NdV (w.setCell ⟨g, i * 2 + 1, none⟩ (.bool z)) lo hi (.slice (some ⟨g, 0, none⟩) n cap) es us qs (xs.set i ((xs.getD i nd0).1, z)) := by
  obtain rfl := h.lenEq
  have st := World.ownsRow.stored h.head (i * 2 + 1) (.bool z)
  refine ⟨?_, h.top, h.lenE, ?_⟩
  · have e := ndC_setGone us xs i ((xs.getD i nd0).1, z) h.len hi'
    rw [List.length_set, ← e]
    exact st.1
  · have e2 : (xs.set i ((xs.getD i nd0).1, z)).map Prod.fst = xs.map Prod.fst := by
      rw [List.map_set]
      refine List.ext_getElem? fun j => ?_
      rw [List.getElem?_set]
      by_cases e : i = j
      · subst e
        simp [hi']
      · rw [if_neg e]
    rw [e2]
    refine h.rws.kept st.2 fun j hj => ?_
    have := h.off' (h.rws.row j hj)
    exact this
theorem NdV.setChg {g n cap j : Nat} (h : NdV w lo hi (.slice (some ⟨g, 0, none⟩) n cap) es us qs xs) (u : Value) : Chg lo hi w (w.setCell ⟨g, j, none⟩ u) :=
  Chg.ofSetCell w g j u (World.ownsRow.lt h.head g rfl).1 (h.top g rfl)
/-- Another value stands for what a node holds: it lies in a new block, or where the row lay. -/
theorem NdV.setHold {g n cap hi2 : Nat} {u : Value} {r : List Int} (h : NdV w lo hi (.slice (some ⟨g, 0, none⟩) n cap) es us qs xs) (i : Nat) (hi' : i < xs.length) (ho : Own w lo u r) (hh : hi ≤ hi2) (hu : ∀ b, u.ownBlock = some b → b < hi2 ∧ (hi ≤ b ∨ (us.getD i nilRow).ownBlock = some b)) :
    NdV (w.setCell ⟨g, i * 2, none⟩ u) lo hi2 (.slice (some ⟨g, 0, none⟩) n cap) es (us.set i u) qs (xs.set i (r, (xs.getD i nd0).2)) := by
  obtain rfl := h.lenEq
  have st := World.ownsRow.stored h.head (i * 2) u
  refine ⟨?_, fun k hk => Nat.lt_of_lt_of_le (h.top k hk) hh, h.lenE, ?_⟩
  · have e := ndC_setHold us xs i u (r, (xs.getD i nd0).2) rfl h.len hi'
    rw [List.length_set, ← e]
    exact st.1
  · rw [← nd_set, ← set_app_right qs _ _ i _ rfl, ← set_app_right es us _ i _ h.lenE]
    have P := h.rws.put (hi2 := hi2) (u := u) (r := r) (qs.length + i) (by simp; omega) ho hh (by rw [getD_app_right es us _ i _ h.lenE]; exact hu)
    refine P.kept st.2 fun j hj => ?_
    exact h.off' (P.row j hj)
/-- A node behind the others. -/
theorem NdV.push {v' u : Value} {x : Nd} {hi2 : Nat} (h : NdV w lo hi v es us qs xs) (ho : Own w lo u x.1) (hh : hi ≤ hi2) (hu : ∀ b, u.ownBlock = some b → b < hi2 ∧ hi ≤ b)
    (hn : w'.ownsRow lo 84 2 v' (xs.length + 1) (ndC us xs ++ [u, .bool x.2])) (hg : w.grownBy w' v.ownBlock) (hv : ∀ k, v'.ownBlock = some k → k < hi2) : NdV w' lo hi2 v' es (us ++ [u]) qs (xs ++ [x]) := by
  refine ⟨?_, hv, h.lenE, ?_⟩
  · rw [ndC_push us xs u x h.len] at hn
    rw [List.length_append]
    exact hn
  · rw [List.map_append, ← List.append_assoc, ← List.append_assoc]
    have P := h.rws.push (hi2 := hi2) (u := u) (r := x.1) ho hh hu
    exact P.kept hg fun j hj => h.off' (P.row j hj)
/-- A row more besides. -/
theorem NdV.addE {u : Value} {r : List Int} {hi2 : Nat} (h : NdV w lo hi v es us qs xs) (ho : Own w lo u r) (hh : hi ≤ hi2) (hu : ∀ b, u.ownBlock = some b → b < hi2 ∧ hi ≤ b) : NdV w lo hi2 v (u :: es) us (r :: qs) xs :=
  ⟨h.head, fun k hk => Nat.lt_of_lt_of_le (h.top k hk) hh, by simp [h.lenE], h.rws.cons ho hh hu⟩
theorem NdV.addAny {u : Value} {r : List Int} {hi2 : Nat} (h : NdV w lo hi v es us qs xs) (ho : Own w lo u r) (hh : hi ≤ hi2) (hu : ∀ b, u.ownBlock = some b → b < hi2) (hne : ∀ b, u.ownBlock = some b → (∀ i, i < qs.length → (es.getD i nilRow).ownBlock ≠ some b) ∧ ∀ i, i < xs.length → (us.getD i nilRow).ownBlock ≠ some b) : NdV w lo hi2 v (u :: es) us (r :: qs) xs := by
  refine ⟨h.head, fun k hk => Nat.lt_of_lt_of_le (h.top k hk) hh, by simp [h.lenE], h.rws.consAny ho hh hu fun i b hi hb e => ?_⟩
  by_cases hq : i < qs.length
  · rw [getD_app_left es us i _ (by rw [h.lenE]; exact hq)] at hb
    exact (hne b e).1 i hq hb
  · obtain ⟨j, rfl⟩ : ∃ j, i = qs.length + j := ⟨i - qs.length, by omega⟩
    rw [getD_app_right es us _ j _ h.lenE] at hb
    exact (hne b e).2 j (by simp at hi; omega) hb
/-- Another value stands for a row besides: it lies in a new block, or where the row lay. -/
theorem NdV.putE {u : Value} {r : List Int} {hi2 : Nat} (h : NdV w lo hi v es us qs xs) (i : Nat) (hi' : i < qs.length) (ho : Own w lo u r) (hh : hi ≤ hi2) (hu : ∀ b, u.ownBlock = some b → b < hi2 ∧ (hi ≤ b ∨ (es.getD i nilRow).ownBlock = some b)) : NdV w lo hi2 v (es.set i u) us (qs.set i r) xs := by
  refine ⟨h.head, fun k hk => Nat.lt_of_lt_of_le (h.top k hk) hh, by simp [h.lenE], ?_⟩
  rw [← set_app_left qs _ i _ hi', ← set_app_left es _ i _ (by rw [h.lenE]; exact hi')]
  exact h.rws.put i (by simp; omega) ho hh (by rw [getD_app_left es us i _ (by rw [h.lenE]; exact hi')]; exact hu)
theorem NdV.tailE {u : Value} {r : List Int} (h : NdV w lo hi v (u :: es) us (r :: qs) xs) : NdV w lo hi v es us qs xs :=
  ⟨h.head, h.top, by simpa using h.lenE, h.rws.tail⟩
end
/-- Nodes of the call's own, as a thing to hold. -/
def TNds (v : Value) (xs : List Nd) : Tg := fun lo hi w => ∃ us, NdV w lo hi v [] us [] xs
theorem TNds.st (v : Value) (xs : List Nd) : (TNds v xs).st := fun lo hi a b w w' ⟨us, h⟩ hc hd => ⟨us, h.chg hc hd⟩
/-- A graph of the call's own. -/
def TGrf (p r c : Value) (xs : List Nd) (rs cs : List Int) : Tg := fun lo hi w => ∃ us, NdV w lo hi p [r, c] us [rs, cs] xs
theorem TGrf.st (p r c : Value) (xs : List Nd) (rs cs : List Int) : (TGrf p r c xs rs cs).st := fun lo hi a b w w' ⟨us, h⟩ hc hd => ⟨us, h.chg hc hd⟩
/-- What reads as a graph. -/
def RdG (w : World) (p r c : Value) (xs : List Nd) (rs cs : List Int) : Prop := RdN w p xs ∧ Rd w r rs ∧ Rd w c cs
theorem RdG.below {w w' : World} {p r c : Value} {xs : List Nd} {rs cs : List Int} (h : RdG w p r c xs rs cs) (hb : Below w.heap.size w w') : RdG w' p r c xs rs cs := ⟨h.1.below hb, h.2.1.below hb, h.2.2.below hb⟩
theorem TGrf.rd {lo hi : Nat} {w : World} {p r c : Value} {xs : List Nd} {rs cs : List Int} (h : TGrf p r c xs rs cs lo hi w) : RdG w p r c xs rs cs := by
  obtain ⟨us, h⟩ := h
  exact ⟨h.rd, (h.rowE 0 (by simp)).rd, (h.rowE 1 (by simp)).rd⟩
end Go.Proofs.Ytakhggnbhjoojaa

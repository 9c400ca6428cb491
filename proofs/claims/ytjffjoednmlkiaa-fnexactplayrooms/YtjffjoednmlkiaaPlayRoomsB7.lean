/-
  Pairs of a list and a Boolean as values, rows that lie apart, marks: what hangs on no type of its own. No condition; what is walked says what it asks.
-/
import Derived.Test.YtjffjoednmlkiaaPlayRoomsB6
import Derived.Deep.RegionHeld3
namespace Go.Proofs.Ytjffjoednmlkiaa
open Go.RowKit
set_option linter.unusedVariables false

/-- A node: its Holds, and whether it is Gone. -/
abbrev Nd := List Int × Bool
def nd0 : Nd := ([], false)
/-- The value v is a slice that reads as these nodes. -/
def RdN (w : World) (v : Value) (xs : List Nd) : Prop :=
  ∃ a cap, v = .slice a xs.length cap ∧ xs.length ≤ cap ∧ (cap ≤ maxLen ∧ (a = none → cap = 0)) ∧
    (xs = [] ∨ ∃ b off, a = some ⟨b, off, none⟩ ∧ b < w.heap.size ∧ ∀ i, i < xs.length → ∃ u, Rd w u (xs.getD i nd0).1 ∧
      w.cell? ⟨b, off + i * 2, none⟩ = some u ∧ w.cell? ⟨b, off + i * 2 + 1, none⟩ = some (.bool (xs.getD i nd0).2))
theorem RdN.below {w w' : World} {v : Value} {xs : List Nd} (h : RdN w v xs) (hb : Below w.heap.size w w') : RdN w' v xs := by
  obtain ⟨a, cap, rfl, h1, h2, h3⟩ := h
  refine ⟨a, cap, rfl, h1, h2, ?_⟩
  rcases h3 with h3 | ⟨b, off, rfl, hlt, hc⟩
  · exact .inl h3
  · refine .inr ⟨b, off, rfl, Nat.lt_of_lt_of_le hlt hb.size, fun i hi => ?_⟩
    obtain ⟨u, hu, c0, c1⟩ := hc i hi
    refine ⟨u, hu.below hb, ?_, ?_⟩
    · rw [hb.cell hlt]; exact c0
    · rw [hb.cell hlt]; exact c1
theorem RdN.at {w : World} {a : Option Addr} {n cap : Nat} {xs : List Nd} (h : RdN w (.slice a n cap) xs) (i : Nat) (hi : i < xs.length) :
    ∃ b off u ks z, a = some ⟨b, off, none⟩ ∧ xs.getD i nd0 = (ks, z) ∧ Rd w u ks ∧ w.cell? ⟨b, off + i * 2, none⟩ = some u ∧ w.cell? ⟨b, off + i * 2 + 1, none⟩ = some (.bool z) := by
  obtain ⟨a', cap', e, h1, h2, h3⟩ := h
  simp only [Value.slice.injEq] at e
  obtain ⟨rfl, _, rfl⟩ := e
  rcases h3 with rfl | ⟨b, off, rfl, hlt, hc⟩
  · simp at hi
  · obtain ⟨u, hu, c0, c1⟩ := hc i hi
    exact ⟨b, off, u, _, _, rfl, rfl, hu, c0, c1⟩
theorem RdN.sl {w : World} {v : Value} {xs : List Nd} (h : RdN w v xs) : ∃ a cap, v = .slice a xs.length cap ∧ xs.length ≤ cap ∧ cap ≤ maxLen := by
  obtain ⟨a, cap, rfl, h1, h2, h3⟩ := h
  exact ⟨a, cap, rfl, h1, h2.1⟩
theorem getD_take {α : Type} (l : List α) (k i : Nat) (d : α) (h : i < k) : (l.take k).getD i d = l.getD i d := by
  simp [List.getD_eq_getElem?_getD, h]
/-- The first k nodes. -/
theorem RdN.take {w : World} {a : Option Addr} {n cap : Nat} {xs : List Nd} (h : RdN w (.slice a n cap) xs) (k : Nat) (hk : k ≤ xs.length) : RdN w (.slice a k cap) (xs.take k) := by
  obtain ⟨a', cap', e, h1, h2, h3⟩ := h
  simp only [Value.slice.injEq] at e
  obtain ⟨rfl, _, rfl⟩ := e
  have hl : (xs.take k).length = k := by simp; omega
  refine ⟨a, cap, by rw [hl], by omega, h2, ?_⟩
  rcases h3 with rfl | ⟨b, off, rfl, hlt, hc⟩
  · exact .inl (by simp)
  · refine .inr ⟨b, off, rfl, hlt, fun i hi => ?_⟩
    rw [hl] at hi
    rw [getD_take _ _ _ _ hi]
    exact hc i (by omega)

/-- Rows of integers of a call's own, each in a block of its own. -/
structure Rws (w : World) (lo hi : Nat) (us : List Value) (ks : List (List Int)) : Prop where
  len : us.length = ks.length
  row : ∀ i, i < ks.length → Own w lo (us.getD i nilRow) (ks.getD i [])
  tops : ∀ i b, i < ks.length → (us.getD i nilRow).ownBlock = some b → b < hi
  apart : ∀ i j, i < ks.length → j < ks.length → i ≠ j → (us.getD i nilRow).ownBlock = none ∨ (us.getD i nilRow).ownBlock ≠ (us.getD j nilRow).ownBlock
section
variable {w w' : World} {lo hi : Nat} {us : List Value} {ks : List (List Int)}
theorem Rws.nil (w : World) (lo hi : Nat) : Rws w lo hi [] [] := ⟨rfl, fun i h => by simp at h, fun i b h => by simp at h, fun i j h => by simp at h⟩
theorem Rws.chg {a b : Nat} (h : Rws w lo hi us ks) (hc : Chg a b w w') (hd : hi ≤ a ∨ b ≤ lo) : Rws w' lo hi us ks :=
  ⟨h.len, fun i hi' => ownsRow_chg (h.row i hi') (fun j hj => h.tops i j hi' hj) hc hd, h.tops, h.apart⟩
theorem Rws.below (h : Rws w lo hi us ks) (hb : Below w.heap.size w w') : Rws w' lo hi us ks :=
  ⟨h.len, fun i hi' => (h.row i hi').below hb, h.tops, h.apart⟩
theorem Rws.wider {lo' hi' : Nat} (h : Rws w lo hi us ks) (h1 : lo' ≤ lo) (h2 : hi ≤ hi') : Rws w lo' hi' us ks :=
  ⟨h.len, fun i hi' => ownsRow_mono (h.row i hi') h1, fun i j hi' hj => Nat.lt_of_lt_of_le (h.tops i j hi' hj) h2, h.apart⟩
/-- A block that is none of these rows' is written. -/
theorem Rws.kept {row : Option Nat} (h : Rws w lo hi us ks) (hg : w.grownBy w' row) (hn : ∀ i, i < ks.length → (us.getD i nilRow).ownBlock = none ∨ (us.getD i nilRow).ownBlock ≠ row) : Rws w' lo hi us ks :=
  ⟨h.len, fun i hi' => World.ownsRow.kept (h.row i hi') hg (hn i hi'), h.tops, h.apart⟩
/-- A row is written in its place. -/
theorem Rws.write {r : List Int} (h : Rws w lo hi us ks) (i : Nat) (hi' : i < ks.length) (ho : Own w' lo (us.getD i nilRow) r) (hg : w.grownBy w' (us.getD i nilRow).ownBlock) : Rws w' lo hi us (ks.set i r) := by
  refine ⟨by rw [List.length_set]; exact h.len, fun j hj => ?_, fun j b hj => h.tops j b (by simpa using hj), fun j k hj hk => h.apart j k (by simpa using hj) (by simpa using hk)⟩
  rw [List.length_set] at hj
  rw [getD_set _ _ _ _ _ hi']
  by_cases e : j = i
  · subst e; rw [if_pos rfl]; exact ho
  · rw [if_neg e]
    exact World.ownsRow.kept (h.row j hj) hg (h.apart j i hj hi' e)
theorem Rws.writeChg (h : Rws w lo hi us ks) (i : Nat) (hi' : i < ks.length) (hg : w.grownBy w' (us.getD i nilRow).ownBlock) : Chg lo hi w w' :=
  Chg.ofGrown hg (fun k hk => ⟨(World.ownsRow.lt (h.row i hi') k hk).1, h.tops i k hi' hk⟩)
/-- Another value stands for a row: it lies in a new block, or where the row lay. -/
theorem Rws.put {hi2 : Nat} {u : Value} {r : List Int} (h : Rws w lo hi us ks) (i : Nat) (hi' : i < ks.length) (ho : Own w lo u r) (hh : hi ≤ hi2) (hu : ∀ b, u.ownBlock = some b → b < hi2 ∧ (hi ≤ b ∨ (us.getD i nilRow).ownBlock = some b)) : Rws w lo hi2 (us.set i u) (ks.set i r) := by
  have hl : i < us.length := by rw [h.len]; exact hi'
  refine ⟨by rw [List.length_set, List.length_set]; exact h.len, fun j hj => ?_, fun j b hj hb => ?_, fun j k hj hk hjk => ?_⟩
  · rw [List.length_set] at hj
    rw [getD_set _ _ _ _ _ hl, getD_set _ _ _ _ _ hi']
    by_cases e : j = i
    · rw [if_pos e, if_pos e]; exact ho
    · rw [if_neg e, if_neg e]; exact h.row j hj
  · rw [List.length_set] at hj
    rw [getD_set _ _ _ _ _ hl] at hb
    by_cases e : j = i
    · rw [if_pos e] at hb; exact (hu b hb).1
    · rw [if_neg e] at hb
      exact Nat.lt_of_lt_of_le (h.tops j b hj hb) hh
  · rw [List.length_set] at hj hk
    rw [getD_set _ _ _ _ _ hl, getD_set _ _ _ _ _ hl]
    by_cases e : j = i
    · rw [if_pos e, if_neg (by omega)]
      cases hb : u.ownBlock with
      | none => exact .inl rfl
      | some b =>
        right
        intro e'
        rcases (hu b hb).2 with h1 | h1
        · have := h.tops k b hk e'.symm
          omega
        · rcases h.apart k i hk hi' (by omega) with h2 | h2
          · rw [h2] at e'; cases e'
          · exact h2 (by rw [← e', h1])
    · rw [if_neg e]
      by_cases e2 : k = i
      · rw [if_pos e2]
        cases hb : (us.getD j nilRow).ownBlock with
        | none => exact .inl rfl
        | some b =>
          right
          intro e'
          rcases (hu b e'.symm).2 with h1 | h1
          · have := h.tops j b hj hb
            omega
          · rcases h.apart j i hj hi' e with h2 | h2
            · rw [h2] at hb; cases hb
            · exact h2 (by rw [hb, h1])
      · rw [if_neg e2]
        exact h.apart j k hj hk hjk
/-- A new row ahead of the others. -/
theorem Rws.cons {hi2 : Nat} {u : Value} {r : List Int} (h : Rws w lo hi us ks) (ho : Own w lo u r) (hh : hi ≤ hi2) (hu : ∀ b, u.ownBlock = some b → b < hi2 ∧ hi ≤ b) : Rws w lo hi2 (u :: us) (r :: ks) := by
  refine ⟨by simp [h.len], fun j hj => ?_, fun j b hj hb => ?_, fun j k hj hk hjk => ?_⟩
  · cases j with
    | zero => exact ho
    | succ j => exact h.row j (by simpa using hj)
  · cases j with
    | zero => exact (hu b hb).1
    | succ j => exact Nat.lt_of_lt_of_le (h.tops j b (by simpa using hj) hb) hh
  · cases j with
    | zero =>
      cases k with
      | zero => exact absurd rfl hjk
      | succ k =>
        cases hb : u.ownBlock with
        | none => exact .inl hb
        | some b =>
          right
          intro e'
          have h1 := (hu b hb).2
          have h2 := h.tops k b (by simpa using hk) (e'.symm.trans hb)
          omega
    | succ j =>
      cases k with
      | zero =>
        cases hb : (us.getD j nilRow).ownBlock with
        | none => exact .inl hb
        | some b =>
          right
          intro e'
          have h1 := (hu b (e'.symm.trans hb)).2
          have h2 := h.tops j b (by simpa using hj) hb
          omega
      | succ k => exact h.apart j k (by simpa using hj) (by simpa using hk) (by omega)
/-- A row more ahead of the others, that lies apart from them. -/
theorem Rws.consAny {hi2 : Nat} {u : Value} {r : List Int} (h : Rws w lo hi us ks) (ho : Own w lo u r) (hh : hi ≤ hi2) (hu : ∀ b, u.ownBlock = some b → b < hi2) (hne : ∀ i b, i < ks.length → (us.getD i nilRow).ownBlock = some b → u.ownBlock ≠ some b) : Rws w lo hi2 (u :: us) (r :: ks) := by
  refine ⟨by simp [h.len], fun j hj => ?_, fun j b hj hb => ?_, fun j k hj hk hjk => ?_⟩
  · cases j with
    | zero => exact ho
    | succ j => exact h.row j (by simpa using hj)
  · cases j with
    | zero => exact hu b hb
    | succ j => exact Nat.lt_of_lt_of_le (h.tops j b (by simpa using hj) hb) hh
  · cases j with
    | zero =>
      cases k with
      | zero => exact absurd rfl hjk
      | succ k =>
        cases hb : u.ownBlock with
        | none => exact .inl hb
        | some b =>
          right
          intro e'
          exact hne k b (by simpa using hk) (e'.symm.trans hb) hb
    | succ j =>
      cases k with
      | zero =>
        cases hb : (us.getD j nilRow).ownBlock with
        | none => exact .inl hb
        | some b =>
          right
          intro e'
          exact hne j b (by simpa using hj) hb (e'.symm.trans hb)
      | succ k => exact h.apart j k (by simpa using hj) (by simpa using hk) (by omega)
theorem Rws.tail {u : Value} {r : List Int} (h : Rws w lo hi (u :: us) (r :: ks)) : Rws w lo hi us ks :=
  ⟨by simpa using h.len, fun j hj => h.row (j + 1) (by simpa using hj), fun j b hj hb => h.tops (j + 1) b (by simpa using hj) hb, fun j k hj hk hjk => h.apart (j + 1) (k + 1) (by simpa using hj) (by simpa using hk) (by omega)⟩
/-- A new row behind the others. -/
theorem Rws.push {hi2 : Nat} {u : Value} {r : List Int} (h : Rws w lo hi us ks) (ho : Own w lo u r) (hh : hi ≤ hi2) (hu : ∀ b, u.ownBlock = some b → b < hi2 ∧ hi ≤ b) : Rws w lo hi2 (us ++ [u]) (ks ++ [r]) := by
  have get : ∀ j, j < ks.length → (us ++ [u]).getD j nilRow = us.getD j nilRow ∧ (ks ++ [r]).getD j [] = ks.getD j [] := by
    intro j hj
    simp only [List.getD_eq_getElem?_getD]
    rw [List.getElem?_append_left (by rw [h.len]; exact hj), List.getElem?_append_left hj]
    exact ⟨rfl, rfl⟩
  have getl : (us ++ [u]).getD ks.length nilRow = u ∧ (ks ++ [r]).getD ks.length [] = r := by
    simp only [List.getD_eq_getElem?_getD]
    rw [List.getElem?_append_right (by rw [h.len]; exact Nat.le_refl _), List.getElem?_append_right (Nat.le_refl _), h.len, Nat.sub_self]
    exact ⟨rfl, rfl⟩
  refine ⟨by simp [h.len], fun j hj => ?_, fun j b hj hb => ?_, fun j k hj hk hjk => ?_⟩
  · rw [List.length_append, List.length_singleton] at hj
    by_cases e : j = ks.length
    · subst e; rw [getl.1, getl.2]; exact ho
    · rw [(get j (by omega)).1, (get j (by omega)).2]; exact h.row j (by omega)
  · rw [List.length_append, List.length_singleton] at hj
    by_cases e : j = ks.length
    · subst e; rw [getl.1] at hb; exact (hu b hb).1
    · rw [(get j (by omega)).1] at hb; exact Nat.lt_of_lt_of_le (h.tops j b (by omega) hb) hh
  · rw [List.length_append, List.length_singleton] at hj hk
    by_cases e : j = ks.length
    · subst e
      rw [getl.1, (get k (by omega)).1]
      cases hb : u.ownBlock with
      | none => exact .inl rfl
      | some b =>
        right
        intro e'
        have h1 := (hu b hb).2
        have h2 := h.tops k b (by omega) e'.symm
        omega
    · rw [(get j (by omega)).1]
      by_cases e2 : k = ks.length
      · subst e2
        rw [getl.1]
        cases hb : (us.getD j nilRow).ownBlock with
        | none => exact .inl rfl
        | some b =>
          right
          intro e'
          have h1 := (hu b e'.symm).2
          have h2 := h.tops j b (by omega) hb
          omega
      · rw [(get k (by omega)).1]
        exact h.apart j k (by omega) (by omega) hjk
end

/-- Rows of unlike types lie in unlike blocks. -/
theorem types_apart {w : World} {lo lo' s s' n k : Nat} {e e' : TypeId} {v u : Value} {vs xs : List Value} (h : w.ownsRow lo e s v n vs) (h' : w.ownsRow lo' e' s' u k xs) (hne : e ≠ e') : v.ownBlock = none ∨ v.ownBlock ≠ u.ownBlock := by
  rcases h.2 with ⟨rfl, _⟩ | ⟨g, cap, cur, rfl, _, hg, _⟩
  · exact .inl rfl
  rcases h'.2 with ⟨rfl, _⟩ | ⟨g', cap', cur', rfl, _, hg', _⟩
  · right; simp [Value.ownBlock]
  · right
    intro e
    simp only [Value.ownBlock, Option.some.injEq] at e
    subst e
    rw [hg] at hg'
    simp only [Option.some.injEq, Obj.cells.injEq] at hg'
    exact hne hg'.2.1

/-- The cells of nodes: two each. -/
def ndC : List Value → List Nd → List Value
  | u :: us, x :: xs => u :: .bool x.2 :: ndC us xs
  | _, _ => []
theorem ndC_len : ∀ (us : List Value) (xs : List Nd), us.length = xs.length → (ndC us xs).length = xs.length * 2
  | [], [], _ => rfl
  | u :: us, x :: xs, h => by
    have := ndC_len us xs (by simpa using h)
    simp only [ndC, List.length_cons, this]
    omega
theorem ndC_hold : ∀ (us : List Value) (xs : List Nd) (i : Nat), us.length = xs.length → i < xs.length → (ndC us xs)[i * 2]? = some (us.getD i nilRow)
  | u :: us, x :: xs, 0, _, _ => rfl
  | u :: us, x :: xs, i + 1, h, hi => by
    have := ndC_hold us xs i (by simpa using h) (by simpa using hi)
    rw [show (i + 1) * 2 = i * 2 + 1 + 1 from by omega]
    simpa [ndC] using this
  | [], [], i, _, hi => by simp at hi
theorem ndC_gone : ∀ (us : List Value) (xs : List Nd) (i : Nat), us.length = xs.length → i < xs.length → (ndC us xs)[i * 2 + 1]? = some (.bool (xs.getD i nd0).2)
  | u :: us, x :: xs, 0, _, _ => rfl
  | u :: us, x :: xs, i + 1, h, hi => by
    have := ndC_gone us xs i (by simpa using h) (by simpa using hi)
    rw [show (i + 1) * 2 + 1 = i * 2 + 1 + 1 + 1 from by omega]
    simpa [ndC] using this
  | [], [], i, _, hi => by simp at hi
theorem ndC_setHold : ∀ (us : List Value) (xs : List Nd) (i : Nat) (u : Value) (x : Nd), x.2 = (xs.getD i nd0).2 → us.length = xs.length → i < xs.length → (ndC us xs).set (i * 2) u = ndC (us.set i u) (xs.set i x)
  | _ :: us, y :: xs, 0, u, x, hx, _, _ => by simp [ndC] at hx ⊢; exact hx.symm
  | v :: us, y :: xs, i + 1, u, x, hx, h, hi => by
    have := ndC_setHold us xs i u x (by simpa using hx) (by simpa using h) (by simpa using hi)
    rw [show (i + 1) * 2 = i * 2 + 1 + 1 from by omega]
    simpa [ndC] using this
  | [], [], i, _, _, _, _, hi => by simp at hi
theorem ndC_setGone : ∀ (us : List Value) (xs : List Nd) (i : Nat) (x : Nd), us.length = xs.length → i < xs.length → (ndC us xs).set (i * 2 + 1) (.bool x.2) = ndC us (xs.set i x)
  | _ :: us, y :: xs, 0, x, _, _ => by simp [ndC]
  | v :: us, y :: xs, i + 1, x, h, hi => by
    have := ndC_setGone us xs i x (by simpa using h) (by simpa using hi)
    rw [show (i + 1) * 2 + 1 = i * 2 + 1 + 1 + 1 from by omega]
    simpa [ndC] using this
  | [], [], i, _, _, hi => by simp at hi
theorem ndC_push : ∀ (us : List Value) (xs : List Nd) (u : Value) (x : Nd), us.length = xs.length → ndC us xs ++ [u, .bool x.2] = ndC (us ++ [u]) (xs ++ [x])
  | [], [], u, x, _ => rfl
  | v :: us, y :: xs, u, x, h => by
    have := ndC_push us xs u x (by simpa using h)
    simp only [ndC, List.cons_append, this]
/-- Only whether they are Gone stands in the cells. -/
theorem ndC_same : ∀ (us : List Value) (xs ys : List Nd), xs.map Prod.snd = ys.map Prod.snd → ndC us xs = ndC us ys
  | [], _, _, _ => by simp [ndC]
  | u :: us, [], [], _ => rfl
  | u :: us, x :: xs, y :: ys, h => by
    simp only [List.map_cons, List.cons.injEq] at h
    simp only [ndC, h.1, ndC_same us xs ys h.2]
  | u :: us, [], y :: ys, h => by simp at h
  | u :: us, x :: xs, [], h => by simp at h

theorem rowsChg {w w' : World} {lo hi : Nat} {v : Value} {e : TypeId} {s a b n : Nat} {zs : List Value} (h : w.ownsRow lo e s v n zs) (ht : ∀ k, v.ownBlock = some k → k < hi) (hc : Chg a b w w') (hd : hi ≤ a ∨ b ≤ lo) : w'.ownsRow lo e s v n zs := by
  refine ⟨h.1, ?_⟩
  rcases h.2 with hn | ⟨g, cap, cur, rfl, hb', hg, rest⟩
  · exact .inl hn
  · have := ht g rfl
    exact .inr ⟨g, cap, cur, rfl, hb', by rw [hc.block g (Array.getElem?_eq_some_iff.1 hg).1 (by omega)]; exact hg, rest⟩
theorem rowsMono {w : World} {lo : Nat} {v : Value} {e : TypeId} {s n lo' : Nat} {zs : List Value} (h : w.ownsRow lo e s v n zs) (hl : lo' ≤ lo) : w.ownsRow lo' e s v n zs := by
  refine ⟨h.1, ?_⟩
  rcases h.2 with hn | ⟨g, cap, cur, rfl, hb', rest⟩
  · exact .inl hn
  · exact .inr ⟨g, cap, cur, rfl, Nat.le_trans hl hb', rest⟩
theorem rowsBelow {w w' : World} {lo : Nat} {v : Value} {e : TypeId} {s n : Nat} {zs : List Value} (h : w.ownsRow lo e s v n zs) (hb : Below w.heap.size w w') : w'.ownsRow lo e s v n zs :=
  rowsChg h (fun k hk => (World.ownsRow.lt h k hk).2) (Chg.ofBelow (lo := w.heap.size) (hi := w.heap.size) hb) (.inl (Nat.le_refl _))
theorem getD_app_left {α : Type} (a b : List α) (i : Nat) (d : α) (h : i < a.length) : (a ++ b).getD i d = a.getD i d := by
  simp only [List.getD_eq_getElem?_getD]; rw [List.getElem?_append_left h]
theorem getD_app_right {α : Type} (a b : List α) (n i : Nat) (d : α) (h : a.length = n) : (a ++ b).getD (n + i) d = b.getD i d := by
  subst h
  simp only [List.getD_eq_getElem?_getD]; rw [List.getElem?_append_right (by omega)]; simp
theorem set_app_left {α : Type} (a b : List α) (i : Nat) (x : α) (h : i < a.length) : (a ++ b).set i x = a.set i x ++ b := by
  rw [List.set_append_left _ _ h]
theorem set_app_right {α : Type} (a b : List α) (n i : Nat) (x : α) (h : a.length = n) : (a ++ b).set (n + i) x = a ++ b.set i x := by
  subst h
  rw [List.set_append_right _ _ (by omega)]; simp
theorem fst_getD (xs : List Nd) (i : Nat) : (xs.map Prod.fst).getD i [] = (xs.getD i nd0).1 := by
  simp only [List.getD_eq_getElem?_getD, List.getElem?_map]
  cases xs[i]? <;> rfl
section
variable {w w' : World} {lo hi : Nat} {v : Value} {es us : List Value} {qs : List (List Int)} {xs : List Nd}
theorem nd_set {i : Nat} {r : List Int} (xs : List Nd) : (xs.map Prod.fst).set i r = (xs.set i (r, (xs.getD i nd0).2)).map Prod.fst := by rw [List.map_set]
theorem nd_same {i : Nat} (xs : List Nd) (r : List Int) (hi' : i < xs.length) : ndC us xs = ndC us (xs.set i (r, (xs.getD i nd0).2)) := by
  refine ndC_same us _ _ ?_
  rw [List.map_set]
  refine (List.ext_getElem? fun j => ?_).symm
  rw [List.getElem?_set]
  by_cases e : i = j
  · subst e
    simp [hi']
  · rw [if_neg e]
end
theorem Hand.threeN (w : World) (c1 c2 c3 : Array Value) (T1 T2 T3 : TypeId) : Hand w (((w.alloc (.cells c1 T1)).alloc (.cells c2 T2)).alloc (.cells c3 T3)) [TBox (w.heap.size + 1 + 1) c3 T3, TBox (w.heap.size + 1) c2 T2, TBox w.heap.size c1 T1] := by
  have h := (((Hand.start w).box c1 T1).box c2 T2).box c3 T3
  simpa only [World.size_alloc] using h
theorem BoxAt.c2 {w : World} {g : Nat} {a b : Value} {T : TypeId} (h : BoxAt w g #[a, b] T) : w.cell? ⟨g, 0, none⟩ = some a ∧ w.cell? ⟨g, 1, none⟩ = some b := ⟨h.cell 0, h.cell 1⟩
theorem Hand.store2 {W w : World} {L : List Tg} {g : Nat} {a b : Value} {T : TypeId} (A : Hand W w L) (i : Nat) (hi : L[i]? = some (TBox g #[a, b] T)) (v0 v1 : Value) :
    Hand W ((w.setCell ⟨g, 0, none⟩ v0).setCell ⟨g, 1, none⟩ v1) (L.set i (TBox g #[v0, v1] T)) := by
  obtain ⟨lo, hi', ⟨b1, b2, b3⟩, _, _, put⟩ := A.open i hi
  exact put _ (TBox g #[v0, v1] T) (TBox.st _ _ _) ⟨b1, b2, by simpa using (b3.set 0 v0).set 1 v1⟩ ((Chg.ofSetCell _ _ _ _ b1 b2).trans (Chg.ofSetCell _ _ _ _ b1 b2))
theorem Hand.wideI {W w : World} {L : List Tg} {v : Value} {xs : List Int} (A : Hand W w L) (i : Nat) (hi : L[i]? = some (TInts v xs)) : Own w W.heap.size v xs := by
  obtain ⟨lo, hi', d, h1, h2, _⟩ := A.open i hi
  exact ownsRow_mono d.1 h1
theorem Rd.slc {w : World} {v : Value} {xs : List Int} (h : Rd w v xs) : ∃ a cap, v = .slice a xs.length cap ∧ xs.length ≤ cap ∧ cap ≤ maxLen := by
  obtain ⟨a, cap, rfl, h1, h2, h3⟩ := h
  exact ⟨a, cap, rfl, h1, h2.1⟩

/-- How many places nodes hold. -/
def totN (xs : List Nd) : Nat := (xs.map fun s => s.1.length).sum
theorem totN_take_succ (m : List Nd) (k : Nat) (h : k < m.length) : totN (m.take (k + 1)) = totN (m.take k) + (m.getD k nd0).1.length := by
  simp only [totN]
  rw [List.take_succ_eq_append_getElem h, List.map_append, List.sum_append, List.getD_eq_getElem?_getD, List.getElem?_eq_getElem h]
  simp
theorem totN_app (a b : List Nd) : totN (a ++ b) = totN a + totN b := by simp [totN]
theorem totN_take_le (m : List Nd) (k : Nat) : totN (m.take k) ≤ totN m := by
  have : totN m = totN (m.take k) + totN (m.drop k) := by rw [← totN_app, List.take_append_drop]
  omega
theorem totN_row_le (m : List Nd) (k : Nat) (h : k < m.length) : totN (m.take k) + (m.getD k nd0).1.length ≤ totN m := by
  rw [← totN_take_succ m k h]; exact totN_take_le m (k + 1)

set_option maxRecDepth 100000 in
set_option maxHeartbeats 400000 in
theorem szIntS_is (v : Value) (xs : List Int) (l : Int) (w : World) (h : Rd w v xs) (h0 : 0 ≤ l) (hl : l ≤ 1048576) :
    Calls Try.prog 83 #[v, .int .i64 l] w fun e w' => e = .returned (.int .i64 (if (xs.length : Int) ≤ l then l - xs.length else -1)) ∧ w = w' := by
  obtain ⟨a, cap, rfl, h1, h2, h3⟩ := h
  have hm : xs.length ≤ maxLen := by omega
  unfold maxLen at hm
  clear h3 h2 h1
  by_cases hc : (xs.length : Int) ≤ l
  · rw [if_pos hc]
    have e : ¬ (l - (xs.length : Int) < 0) := by omega
    go_enter Try.func83, Try.ntmps83
    go_wp2
    go_ret
    exact ⟨rfl, rfl⟩
  · rw [if_neg hc]
    have e : l - (xs.length : Int) < 0 := by omega
    go_enter Try.func83, Try.ntmps83
    go_wp2
    go_ret
    exact ⟨rfl, rfl⟩

/-- What is copied so far. -/
def cpN (m : List Nd) (k : Nat) : List Nd := m.take k ++ List.replicate (m.length - k) nd0
theorem cpN_len (m : List Nd) (k : Nat) (h : k ≤ m.length) : (cpN m k).length = m.length := by simp [cpN]; omega
theorem cpN_get (m : List Nd) (k : Nat) (h : k < m.length) : (cpN m k).getD k nd0 = nd0 := by
  have e1 : (m.take k).length = k := by simp; omega
  have := getD_app_right (m.take k) (List.replicate (m.length - k) nd0) k 0 nd0 e1
  rw [Nat.add_zero] at this
  unfold cpN
  rw [this]
  simp only [List.getD_eq_getElem?_getD, List.getElem?_replicate]
  split <;> rfl
theorem cpN_step (m : List Nd) (k : Nat) (h : k < m.length) : (cpN m k).set k (m.getD k nd0) = cpN m (k + 1) := by
  have e1 : (m.take k).length = k := by simp; omega
  unfold cpN
  rw [List.set_append_right _ _ (by omega), e1, Nat.sub_self]
  obtain ⟨j, hm⟩ : ∃ j, m.length - k = j + 1 := ⟨m.length - k - 1, by omega⟩
  have hm2 : m.length - (k + 1) = j := by omega
  rw [hm, hm2, List.replicate_succ, List.set_cons_zero, List.take_succ_eq_append_getElem h, List.append_assoc]
  simp only [List.getD_eq_getElem?_getD, List.getElem?_eq_getElem h, Option.getD_some, List.singleton_append]
theorem cpN_zero (m : List Nd) : cpN m 0 = List.replicate m.length nd0 := by simp [cpN]
theorem cpN_end (m : List Nd) : cpN m m.length = m := by simp [cpN]
/-- Nodes as they are marked. -/
def mkN : Nat → List Nd → List Nd
  | _, [] => []
  | k, x :: xs => (marks k x.1.length, decide (((k + x.1.length : Nat) : Int).tmod 3 = 0)) :: mkN (k + x.1.length + 1) xs
/-- The mark behind nodes. -/
def enN (k : Nat) (xs : List Nd) : Nat := k + totN xs + xs.length
theorem mkN_len : ∀ (k : Nat) (xs : List Nd), (mkN k xs).length = xs.length
  | _, [] => rfl
  | k, x :: xs => by simp [mkN, mkN_len]
theorem mkN_app : ∀ (k : Nat) (xs ys : List Nd), mkN k (xs ++ ys) = mkN k xs ++ mkN (enN k xs) ys
  | k, [], ys => by simp [mkN, enN, totN]
  | k, x :: xs, ys => by
    have e : enN (k + x.1.length + 1) xs = enN k (x :: xs) := by simp [enN, totN]; omega
    simp only [List.cons_append, mkN, mkN_app, e]
theorem enN_succ (k : Nat) (m : List Nd) (i : Nat) (h : i < m.length) : enN k (m.take (i + 1)) = enN k (m.take i) + (m.getD i nd0).1.length + 1 := by
  simp only [enN, totN_take_succ m i h, List.length_take]
  omega
theorem enN_le (k : Nat) (m : List Nd) (i : Nat) : enN k (m.take i) ≤ k + totN m + m.length := by
  have := totN_take_le m i
  simp only [enN, List.length_take]
  omega
/-- What is marked so far. -/
def mkNTo (k : Nat) (m : List Nd) (i : Nat) : List Nd := mkN k (m.take i) ++ m.drop i
theorem mkNTo_len (k : Nat) (m : List Nd) (i : Nat) (h : i ≤ m.length) : (mkNTo k m i).length = m.length := by simp [mkNTo, mkN_len]; omega
theorem mkNTo_get (k : Nat) (m : List Nd) (i : Nat) (h : i < m.length) : (mkNTo k m i).getD i nd0 = m.getD i nd0 := by
  have e1 : (mkN k (m.take i)).length = i := by rw [mkN_len]; simp; omega
  have := getD_app_right (mkN k (m.take i)) (m.drop i) i 0 nd0 e1
  rw [Nat.add_zero] at this
  unfold mkNTo
  rw [this]
  simp [List.getD_eq_getElem?_getD]
theorem mkNTo_step (k : Nat) (m : List Nd) (i : Nat) (h : i < m.length) :
    (mkNTo k m i).set i (marks (enN k (m.take i) : Nat) (m.getD i nd0).1.length, decide (((enN k (m.take i) + (m.getD i nd0).1.length : Nat) : Int).tmod 3 = 0)) = mkNTo k m (i + 1) := by
  have e1 : (mkN k (m.take i)).length = i := by rw [mkN_len]; simp; omega
  unfold mkNTo
  rw [List.set_append_right _ _ (by omega), e1, Nat.sub_self, List.drop_eq_getElem_cons h, List.set_cons_zero, List.take_succ_eq_append_getElem h, mkN_app, List.append_assoc]
  simp only [List.getD_eq_getElem?_getD, List.getElem?_eq_getElem h, Option.getD_some, mkN, List.singleton_append]
theorem mkNTo_end (k : Nat) (m : List Nd) : mkNTo k m m.length = mkN k m := by simp [mkNTo]
theorem mkN_get (k : Nat) (m : List Nd) (i : Nat) (h : i < m.length) : (mkN k m).getD i nd0 = (marks (enN k (m.take i) : Nat) (m.getD i nd0).1.length, decide (((enN k (m.take i) + (m.getD i nd0).1.length : Nat) : Int).tmod 3 = 0)) := by
  have e : m = m.take i ++ m.getD i nd0 :: m.drop (i + 1) := by
    have h2 : m.getD i nd0 = m[i] := by simp [List.getD_eq_getElem?_getD, List.getElem?_eq_getElem h]
    rw [h2, ← List.drop_eq_getElem_cons h, List.take_append_drop]
  have e1 : (mkN k (m.take i)).length = i := by rw [mkN_len]; simp; omega
  generalize hx : m.getD i nd0 = x at *
  have e2 : mkN k m = mkN k (m.take i) ++ mkN (enN k (m.take i)) (x :: m.drop (i + 1)) := by
    conv => lhs; rw [e]
    exact mkN_app _ _ _
  rw [e2]
  have := getD_app_right (mkN k (m.take i)) (mkN (enN k (m.take i)) (x :: m.drop (i + 1))) i 0 nd0 e1
  rw [Nat.add_zero i] at this
  rw [this]
  rfl

end Go.Proofs.Ytjffjoednmlkiaa

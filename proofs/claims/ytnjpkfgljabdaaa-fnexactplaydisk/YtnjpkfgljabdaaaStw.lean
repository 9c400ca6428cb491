/-
  Slices of steps of a call's own: a block of four cells a step, a row of numbers in each last one. No program but 'make'.
-/
import Derived.Test.YtnjpkfgljabdaaaStx
namespace Go.Proofs.Ytnjpkfgljabdaaa
open Go.RowKit
set_option linter.unusedVariables false

theorem grown_set (w : World) (g j : Nat) (u : Value) : w.grownBy (w.setCell ⟨g, j, none⟩ u) (some g) :=
  ⟨rfl, rfl, rfl, by simp, fun k _ hk => heap_setCell_other w ⟨g, j, none⟩ k u (fun e => hk (by simp [e]))⟩
structure XV (w : World) (lo hi g n : Nat) (cs : Array Value) (us : List Value) (ks : List (List Int)) : Prop where
  box : BoxAt w g cs 44
  size : cs.size = n * 4
  glo : lo ≤ g
  ghi : g < hi
  hih : hi ≤ w.heap.size
  lu : us.length = n
  lk : ks.length = n
  last : ∀ i, i < n → cs[i * 4 + 3]? = some (us.getD i nilRow)
  row : ∀ i, i < n → Own w lo (us.getD i nilRow) (ks.getD i [])
  tops : ∀ i j, i < n → (us.getD i nilRow).ownBlock = some j → j < hi
  offg : ∀ i, i < n → (us.getD i nilRow).ownBlock = none ∨ (us.getD i nilRow).ownBlock ≠ some g
  apart : ∀ i j, i < n → j < n → i ≠ j → (us.getD i nilRow).ownBlock = none ∨ (us.getD i nilRow).ownBlock ≠ (us.getD j nilRow).ownBlock
section
variable {w w' : World} {lo hi g n : Nat} {cs : Array Value} {us : List Value} {ks : List (List Int)}
theorem XV.chg {a b : Nat} (h : XV w lo hi g n cs us ks) (hc : Chg a b w w') (hd : hi ≤ a ∨ b ≤ lo) : XV w' lo hi g n cs us ks := by
  have h1 := h.glo
  have h2 := h.ghi
  exact ⟨h.box.chg hc (by omega), h.size, h.glo, h.ghi, Nat.le_trans h.hih hc.size, h.lu, h.lk, h.last, fun i hi' => ownsRow_chg (h.row i hi') (fun j hj => h.tops i j hi' hj) hc hd, h.tops, h.offg, h.apart⟩
theorem XV.below (h : XV w lo hi g n cs us ks) (hb : Below w.heap.size w w') : XV w' lo hi g n cs us ks :=
  h.chg (Chg.ofBelow (lo := w.heap.size) (hi := w.heap.size) hb) (.inl h.hih)
theorem XV.wider {lo' hi' : Nat} (h : XV w lo hi g n cs us ks) (h1 : lo' ≤ lo) (h2 : hi ≤ hi') (h3 : hi' ≤ w.heap.size) : XV w lo' hi' g n cs us ks :=
  ⟨h.box, h.size, Nat.le_trans h1 h.glo, Nat.lt_of_lt_of_le h.ghi h2, h3, h.lu, h.lk, h.last, fun i hi' => ownsRow_mono (h.row i hi') h1, fun i j hi' hj => Nat.lt_of_lt_of_le (h.tops i j hi' hj) h2, h.offg, h.apart⟩
theorem XV.put (h : XV w lo hi g n cs us ks) (p : Nat) (v : Value) (hp : ∀ i, p ≠ i * 4 + 3) : XV (w.setCell ⟨g, p, none⟩ v) lo hi g n (cs.setIfInBounds p v) us ks :=
  ⟨h.box.set p v, by simpa using h.size, h.glo, h.ghi, by simpa using h.hih, h.lu, h.lk, fun i hi' => by
    rw [Array.getElem?_setIfInBounds_ne (hp i)]
    exact h.last i hi', fun i hi' => World.ownsRow.kept (h.row i hi') (grown_set w g p v) (h.offg i hi'), h.tops, h.offg, h.apart⟩
theorem XV.putLast {x : Nat} {u : Value} {r : List Int} (h : XV w lo hi g n cs us ks) (i : Nat) (hi' : i < n) (ho : Own w x u r) (hx : hi ≤ x) :
    XV (w.setCell ⟨g, i * 4 + 3, none⟩ u) lo w.heap.size g n (cs.setIfInBounds (i * 4 + 3) u) (us.set i u) (ks.set i r) := by
  have hl : i < us.length := by rw [h.lu]; exact hi'
  have hl2 : i < ks.length := by rw [h.lk]; exact hi'
  have g1 := h.glo
  have g2 := h.ghi
  have g3 := h.hih
  have hu0 : ∀ k, u.ownBlock = some k → x ≤ k ∧ k < w.heap.size := fun k hk => World.ownsRow.lt ho k hk
  have hgu : u.ownBlock = none ∨ u.ownBlock ≠ (some g : Option Nat) := by
    cases hu : u.ownBlock with
    | none => exact .inl rfl
    | some k =>
      right
      intro e
      cases e
      have := hu0 _ hu
      omega
  refine ⟨h.box.set _ u, by simpa using h.size, h.glo, by omega, by simp, by rw [List.length_set]; exact h.lu, by rw [List.length_set]; exact h.lk, ?_, ?_, ?_, ?_, ?_⟩
  · intro j hj
    rw [getD_set _ _ _ _ _ hl]
    by_cases e : j = i
    · subst e
      rw [if_pos rfl, Array.getElem?_setIfInBounds_self_of_lt (by rw [h.size]; omega)]
    · rw [if_neg e, Array.getElem?_setIfInBounds_ne (by omega)]
      exact h.last j hj
  · intro j hj
    rw [getD_set _ _ _ _ _ hl, getD_set _ _ _ _ _ hl2]
    by_cases e : j = i
    · subst e
      rw [if_pos rfl, if_pos rfl]
      exact World.ownsRow.kept (ownsRow_mono ho (by omega)) (grown_set w g _ u) hgu
    · rw [if_neg e, if_neg e]
      exact World.ownsRow.kept (h.row j hj) (grown_set w g _ u) (h.offg j hj)
  · intro j k hj hk
    rw [getD_set _ _ _ _ _ hl] at hk
    by_cases e : j = i
    · rw [if_pos e] at hk
      exact (hu0 k hk).2
    · rw [if_neg e] at hk
      have := h.tops j k hj hk
      omega
  · intro j hj
    rw [getD_set _ _ _ _ _ hl]
    by_cases e : j = i
    · rw [if_pos e]; exact hgu
    · rw [if_neg e]; exact h.offg j hj
  · intro j k hj hk hjk
    rw [getD_set _ _ _ _ _ hl, getD_set _ _ _ _ _ hl]
    by_cases e : j = i
    · rw [if_pos e, if_neg (by omega)]
      cases hu : u.ownBlock with
      | none => exact .inl rfl
      | some b =>
        right
        intro e'
        have h1 := (hu0 b hu).1
        have h2 := h.tops k b hk e'.symm
        omega
    · rw [if_neg e]
      by_cases e2 : k = i
      · rw [if_pos e2]
        cases hu : (us.getD j nilRow).ownBlock with
        | none => exact .inl rfl
        | some b =>
          right
          intro e'
          have h1 := (hu0 b e'.symm).1
          have h2 := h.tops j b hj hu
          omega
      · rw [if_neg e2]
        exact h.apart j k hj hk hjk
theorem XV.write {r : List Int} (h : XV w lo hi g n cs us ks) (i : Nat) (hi' : i < n) (ho : Own w' lo (us.getD i nilRow) r) (hg : w.grownBy w' (us.getD i nilRow).ownBlock) : XV w' lo hi g n cs us (ks.set i r) := by
  have hl2 : i < ks.length := by rw [h.lk]; exact hi'
  have hbx : w'.heap[g]? = w.heap[g]? := by
    refine hg.block g h.box.lt ?_
    rcases h.offg i hi' with e | e
    · rw [e]; simp
    · exact e.symm
  refine ⟨by unfold BoxAt; rw [hbx]; exact h.box, h.size, h.glo, h.ghi, Nat.le_trans h.hih hg.size, h.lu, by rw [List.length_set]; exact h.lk, h.last, ?_, h.tops, h.offg, h.apart⟩
  intro j hj
  rw [getD_set _ _ _ _ _ hl2]
  by_cases e : j = i
  · subst e; rw [if_pos rfl]; exact ho
  · rw [if_neg e]
    exact World.ownsRow.kept (h.row j hj) hg (h.apart j i hj hi' e)
theorem XV.writeChg (h : XV w lo hi g n cs us ks) (i : Nat) (hi' : i < n) (hg : w.grownBy w' (us.getD i nilRow).ownBlock) : Chg lo hi w w' :=
  Chg.ofGrown hg (fun k hk => ⟨(World.ownsRow.lt (h.row i hi') k hk).1, h.tops i k hi' hk⟩)
end
/-- The first k steps stand in these cells. -/
def SaysX (cs : Array Value) (xs : List Stp) (k : Nat) : Prop :=
  ∀ i, i < k → cs[i * 4]? = some (.int .i64 (xs.getD i stp0).1) ∧ cs[i * 4 + 1]? = some (.int .i64 (xs.getD i stp0).2.1) ∧ cs[i * 4 + 2]? = some (.string (xs.getD i stp0).2.2.1)
/-- Steps of the call's own. -/
def TStx (g : Nat) (xs : List Stp) : Tg := fun lo hi w => ∃ cs us ks, XV w lo hi g xs.length cs us ks ∧ SaysX cs xs xs.length ∧ (∀ i, i < xs.length → ks.getD i [] = (xs.getD i stp0).2.2.2) ∧ (∀ i, i < xs.length → (xs.getD i stp0).2.2.1.size ≤ maxLen) ∧ xs.length ≤ maxLen
theorem TStx.st (g : Nat) (xs : List Stp) : (TStx g xs).st := fun lo hi a b w w' ⟨cs, us, ks, h, h2⟩ hc hd => ⟨cs, us, ks, h.chg hc hd, h2⟩
theorem TStx.rd {g lo hi : Nat} {xs : List Stp} {w : World} (h : TStx g xs lo hi w) : RdX w (.slice (some ⟨g, 0, none⟩) xs.length xs.length) xs := by
  obtain ⟨cs, us, ks, h, hs, hk, hT, hm⟩ := h
  refine ⟨_, _, rfl, Nat.le_refl _, ⟨hm, fun e => by simp at e⟩, .inr ⟨g, 0, rfl, h.box.lt, fun i hi' => ⟨us.getD i nilRow, hT i hi', ?_, ?_, ?_, ?_, ?_⟩⟩⟩
  · have := (h.row i hi').rd
    rw [hk i hi'] at this
    exact this
  · rw [Nat.zero_add, h.box.cell]; exact (hs i hi').1
  · rw [Nat.zero_add, h.box.cell]; exact (hs i hi').2.1
  · rw [Nat.zero_add, h.box.cell]; exact (hs i hi').2.2
  · rw [Nat.zero_add, h.box.cell]; exact h.last i hi'
/-- Steps that were written over. -/
def TOld (g n : Nat) : Tg := fun lo hi w => ∃ cs us ks, XV w lo hi g n cs us ks
theorem TOld.st (g n : Nat) : (TOld g n).st := fun lo hi a b w w' ⟨cs, us, ks, h⟩ hc hd => ⟨cs, us, ks, h.chg hc hd⟩
theorem infoStp : (Try.prog.info? 44).map (fun i => (i.zero, i.size, i.bytes)) = some (some (.agg #[.int .i64 0, .int .i64 0, .string ⟨#[]⟩, .slice none 0 0]), 4, 56) := by kernel_rfl
/-- 'make([]DiskStep, n)'. -/
theorem wpList_make_stps {w : World} {ops : Array Oper} {rest : List Oper} {o : Oper} {a : Act} {Q : Exit → Act → World → Prop} (hg : o.guard = none) (l c : Operand) (hop : o.op = Op.makeSlice 53 l c)
    (L C : Int) (n : Nat) (hl : a.eval l = .int .i64 L) (hc : a.eval c = .int .i64 C) (hL : L = (n : Int)) (hC : C = (n : Int)) (hn : n ≤ 1048576)
    (h : ∀ w' cs, XV w' w.heap.size w'.heap.size w.heap.size n cs (List.replicate n nilRow) (List.replicate n []) → w.grownBy w' none → wpList Try.prog ops Q rest (a.put o.dst (.slice (some ⟨w.heap.size, 0, none⟩) n n)) w') : wpList Try.prog ops Q (o :: rest) a w := by
  obtain ⟨i0, hi, hz0, hz1, hz2⟩ := info_parts infoStp
  refine wpList_make_full w hg l c _ hop w.heap.size 44 i0 (.agg #[.int .i64 0, .int .i64 0, .string ⟨#[]⟩, .slice none 0 0]) 4 Try.underlying53 hi hz0 hz1 _ _ L C n hl hc hL hC (by rw [hz2]; omega) (by unfold maxLen; omega) (Nat.le_refl _) ?_
  intro w' ho hg'
  rcases ho.2 with ⟨h', _⟩ | ⟨g, cap, cur, h', hb, hg0, hnc, hcm, hcs, ht⟩
  · simp at h'
  simp only [Value.slice.injEq, Option.some.injEq, Addr.mk.injEq, and_true, true_and] at h'
  obtain ⟨rfl, rfl⟩ := h'
  have hcur : cur.toList = (madeCells (Value.agg #[.int .i64 0, .int .i64 0, .string ⟨#[]⟩, .slice none 0 0]).cells (n * 4)).toList := by
    rw [← ht, List.take_of_length_le (by rw [Array.length_toList, hcs]; exact Nat.le_refl _)]
  have g1 : ∀ i, i < n → (List.replicate n nilRow).getD i nilRow = nilRow := fun i hi => by simp [List.getD_eq_getElem?_getD, hi]
  have hlt : w.heap.size < w'.heap.size := (Array.getElem?_eq_some_iff.1 hg0).1
  refine h w' cur ⟨hg0, hcs, Nat.le_refl _, hlt, Nat.le_refl _, by simp, by simp, ?_, ?_, ?_, ?_, ?_⟩ hg'
  · intro i hi
    rw [g1 i hi, ← Array.getElem?_toList, hcur, Array.getElem?_toList]
    have e4 : (Value.agg #[.int .i64 0, .int .i64 0, .string ⟨#[]⟩, .slice none 0 0]).cells.size = 4 := rfl
    have hlt4 : i * 4 + 3 < n * 4 := by omega
    simp only [madeCells, Array.getElem?_map, e4, Array.getElem?_range, if_pos hlt4, Option.map_some]
    rw [show (i * 4 + 3) % 4 = 3 from by omega]
    rfl
  · intro i hi
    rw [g1 i hi]
    have g2 : (List.replicate n ([] : List Int)).getD i [] = [] := by simp [List.getD_eq_getElem?_getD, hi]
    rw [g2]
    exact World.ownsRow_nil _ _ _ _
  · intro i j hi hj
    rw [g1 i hi] at hj
    simp [Value.ownBlock] at hj
  · intro i hi
    rw [g1 i hi]
    exact .inl rfl
  · intro i j hi hj _
    rw [g1 i hi]
    exact .inl rfl
end Go.Proofs.Ytnjpkfgljabdaaa

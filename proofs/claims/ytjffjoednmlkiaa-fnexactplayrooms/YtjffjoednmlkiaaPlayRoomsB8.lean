/-
  Rows that are appended to, numbers put to their places in a list: what hangs on no type of its own. Each theorem says what it asks.
-/
import Derived.Test.YtjffjoednmlkiaaPlayRoomsB7
import Derived.Maps.AppendAt
import Derived.Deep.DeepCutAuto
namespace Go.Proofs.Ytjffjoednmlkiaa
open Go.RowKit
set_option linter.unusedVariables false

theorem cell_lt {w : World} {b p : Nat} {x : Value} (h : w.cell? ⟨b, p, none⟩ = some x) : b < w.heap.size := World.block_lt_of_cell? w _ h
theorem cell_below {w w' : World} {b p : Nat} {x : Value} (h : w.cell? ⟨b, p, none⟩ = some x) (hb : Below w.heap.size w w') : w'.cell? ⟨b, p, none⟩ = some x := (hb.cell (cell_lt h)).trans h

theorem take_succ_getD {α : Type} (xs : List α) (i : Nat) (d : α) (h : i < xs.length) : xs.take (i + 1) = xs.take i ++ [xs.getD i d] := by
  rw [List.take_succ_eq_append_getElem h, List.getD_eq_getElem?_getD, List.getElem?_eq_getElem h, Option.getD_some]
theorem Rd.cellAt {w : World} {a : Option Addr} {n cap : Nat} {xs : List Int} (h : Rd w (.slice a n cap) xs) (i : Nat) (hi : i < xs.length) : ∃ b off, a = some ⟨b, off, none⟩ ∧ w.cell? ⟨b, off + i, none⟩ = some (.int .i64 (xs.getD i 0)) := by
  obtain ⟨a', cap', e, h1, h2, h3⟩ := h
  simp only [Value.slice.injEq] at e
  obtain ⟨rfl, _, rfl⟩ := e
  rcases h3 with rfl | ⟨b, off, rfl, hlt, hc⟩
  · simp at hi
  · exact ⟨b, off, rfl, hc i hi⟩

theorem grown_ref {w : World} {row : Option Nat} : w.grownBy w row := World.grownBy.refl _ _
theorem grown_tr {w w1 w2 : World} {row : Option Nat} (h : w.grownBy w1 row) (k : w1.grownBy w2 row) : w.grownBy w2 row :=
  ⟨k.os.trans h.os, k.tape.trans h.tape, k.output.trans h.output, Nat.le_trans h.size k.size, fun j hj hne => (k.block j (Nat.lt_of_lt_of_le hj h.size) hne).trans (h.block j hj hne)⟩

theorem Hand.twoN (w : World) (c1 c2 : Array Value) (T1 T2 : TypeId) : Hand w ((w.alloc (.cells c1 T1)).alloc (.cells c2 T2)) [TBox (w.heap.size + 1) c2 T2, TBox w.heap.size c1 T1] := by
  have h := ((Hand.start w).box c1 T1).box c2 T2
  simpa only [World.size_alloc] using h

/-- 'append(out, p...)', out the call's own row of integers, p whatever reads as these (nil too); and where the row lies then. -/
theorem run_app_int {W : World} (ty : TypeId) (base : Nat) (v : Value) (xs : List Int) (hown : Own W base v xs) (u : Value) (zs : List Int) (hr : Rd W u zs) (hm : xs.length + zs.length ≤ 17179869184) (hbase : base ≤ W.heap.size) :
    ∃ v' w', (Builtin.append_ #[36, 36] ty #[v, u]).run Try.prog W = .ok v' w' ∧ Own w' base v' (xs ++ zs) ∧ W.grownBy w' v.ownBlock ∧ (v'.ownBlock = v.ownBlock ∨ v'.ownBlock = some W.heap.size) := by
  obtain ⟨i0, hi, hz0, hz1, hz2⟩ := info_parts infoInt
  obtain ⟨ad, cap, rfl, h1, ⟨h2, h2'⟩, h3⟩ := hr
  cases ad with
  | none =>
    have hz : zs = [] := by
      rcases h3 with h3 | ⟨b, off, hb, _⟩
      · exact h3
      · cases hb
    subst hz
    obtain rfl := h2' rfl
    have hrun := run_append_owned_none (P := Try.prog) (w := W) base 36 ty 3 i0 1 Try.underlying36 hi v xs.length _ hown
    refine ⟨v, W, hrun, ?_, World.grownBy.refl _ _, .inl rfl⟩
    rw [List.append_nil]
    exact hown
  | some ad =>
    have hnews : ∀ j y, (zs.map (Value.int .i64))[j]? = some y → W.cell? (ad.add j) = some y := by
      intro j y hj
      have hjl : j < zs.length := by simpa using (List.getElem?_eq_some_iff.1 hj).1
      rcases h3 with h3 | ⟨b, off, hb, _, hc⟩
      · subst h3; simp at hjl
      obtain rfl := Option.some.inj hb
      have hadd : (⟨b, off, none⟩ : Addr).add j = ⟨b, off + j, none⟩ := by unfold Addr.add; split <;> simp_all
      rw [hadd, hc j hjl]
      rw [List.getElem?_map, List.getElem?_eq_getElem hjl] at hj
      simp only [Option.map_some, Option.some.injEq] at hj
      rw [← hj, List.getD_eq_getElem?_getD, List.getElem?_eq_getElem hjl, Option.getD_some]
    obtain ⟨v', w', hrun, ho', hg', _, hat⟩ := run_append_own_at (P := Try.prog) W base 36 ty 3 i0 (.int .i64 0) 1 8 Try.underlying36 hi hz0 hz1 hz2 rfl (by decide) v xs.length _ hown ad zs.length cap (zs.map (Value.int .i64)) (by simp) hnews (ints_oneCell _ _) (by unfold maxLen; omega) (by omega) hbase
    refine ⟨v', w', hrun, ?_, hg', hat⟩
    show World.ownsRow _ _ _ _ _ (xs ++ zs).length _
    rw [List.map_append, List.length_append]
    exact ho'
theorem step_app_int {W : World} {ops : Array Oper} {o : Oper} {a : Act} {K : Act → World → Prop} {Q : Exit → Act → World → Prop} {E : Prop} (hgd : o.guard = none) (s x : Operand)
    (ho : o.op = .call { callee := .builtin .append, args := #[s, x], argTypes := #[36, 36] }) (base : Nat) (v : Value) (hs : a.eval s = v) (xs : List Int) (hown : Own W base v xs) (u : Value) (hx : a.eval x = u) (zs : List Int) (hr : Rd W u zs) (hm : xs.length + zs.length ≤ 17179869184) (hbase : base ≤ W.heap.size)
    (h : ∀ v' w', Own w' base v' (xs ++ zs) → W.grownBy w' v.ownBlock → (v'.ownBlock = v.ownBlock ∨ v'.ownBlock = some W.heap.size) → K (a.put o.dst v') w') :
    if Region.wanted o (yielded ops a.tmps) = true then Oper.wp Try.prog o a W K Q else E := by
  have hw : Region.wanted o (yielded ops a.tmps) = true := by simp [Region.wanted, hgd]
  rw [if_pos hw]
  obtain ⟨v', w', hrun, h1, h2, h3⟩ := run_app_int (W := W) o.type base v xs hown u zs hr hm hbase
  unfold Oper.wp execOp
  simp only [ho, resolve, invoke, builtin, Sem.run_bind, Sem.run_pure, Result.andThen_ok, List.map_toArray, List.map_cons, List.map_nil, hs, hx, hrun]
  exact h v' w' h1 h2 h3
theorem wpList_app_int {W : World} {ops : Array Oper} {rest : List Oper} {o : Oper} {a : Act} {Q : Exit → Act → World → Prop} (hgd : o.guard = none) (s x : Operand)
    (ho : o.op = .call { callee := .builtin .append, args := #[s, x], argTypes := #[36, 36] }) (base : Nat) (v : Value) (hs : a.eval s = v) (xs : List Int) (hown : Own W base v xs) (u : Value) (hx : a.eval x = u) (zs : List Int) (hr : Rd W u zs) (hm : xs.length + zs.length ≤ 17179869184) (hbase : base ≤ W.heap.size)
    (h : ∀ v' w', Own w' base v' (xs ++ zs) → W.grownBy w' v.ownBlock → (v'.ownBlock = v.ownBlock ∨ v'.ownBlock = some W.heap.size) → wpList Try.prog ops Q rest (a.put o.dst v') w') : wpList Try.prog ops Q (o :: rest) a W := by
  refine wpList_plain hgd fun K hK => ?_
  obtain ⟨v', w', hrun, h1, h2, h3⟩ := run_app_int (W := W) o.type base v xs hown u zs hr hm hbase
  unfold Oper.wp execOp
  simp only [ho, resolve, invoke, builtin, Sem.run_bind, Sem.run_pure, Result.andThen_ok, List.map_toArray, List.map_cons, List.map_nil, hs, hx, hrun]
  exact hK _ _ (h v' w' h1 h2 h3)

/-- A new, empty row. -/
theorem Rws.build {w : World} {lo hi : Nat} {us : List Value} {ks : List (List Int)} (h : Rws w lo hi us ks) (hh : hi ≤ w.heap.size) (hlo : lo ≤ w.heap.size) :
    Rws (w.alloc (.cells #[] 3)) lo (w.alloc (.cells #[] 3)).heap.size (.slice (some ⟨w.heap.size, 0, none⟩) 0 0 :: us) ([] :: ks) := by
  have hb := below_box w (.cells #[] 3)
  refine (h.below hb).cons ?_ (Nat.le_trans hh hb.size) (fun b hb' => ?_)
  · exact World.ownsRow_lit w #[] 0 hlo (Nat.zero_le _) rfl
  · simp only [Value.ownBlock, Option.some.injEq] at hb'
    subst hb'
    exact ⟨by simp, hh⟩
/-- A row grows: where it lay, or in a new block. -/
theorem Rws.app {w w' : World} {lo hi : Nat} {us : List Value} {ks : List (List Int)} {v' : Value} {r : List Int} (h : Rws w lo hi us ks) (i : Nat) (hi' : i < ks.length) (ho : Own w' lo v' r) (hg : w.grownBy w' (us.getD i nilRow).ownBlock) (hat : v'.ownBlock = (us.getD i nilRow).ownBlock ∨ v'.ownBlock = some w.heap.size) (hh : hi ≤ w.heap.size) :
    Rws w' lo w'.heap.size (us.set i v') (ks.set i r) := by
  have hl : i < us.length := by rw [h.len]; exact hi'
  have hs := hg.size
  refine ⟨by rw [List.length_set, List.length_set]; exact h.len, fun j hj => ?_, fun j b hj hb => ?_, fun j k hj hk hjk => ?_⟩
  · rw [List.length_set] at hj
    rw [getD_set _ _ _ _ _ hl, getD_set _ _ _ _ _ hi']
    by_cases e : j = i
    · rw [if_pos e, if_pos e]; exact ho
    · rw [if_neg e, if_neg e]
      exact World.ownsRow.kept (h.row j hj) hg (h.apart j i hj hi' e)
  · rw [List.length_set] at hj
    rw [getD_set _ _ _ _ _ hl] at hb
    by_cases e : j = i
    · rw [if_pos e] at hb; exact (World.ownsRow.lt ho b hb).2
    · rw [if_neg e] at hb
      have := h.tops j b hj hb
      omega
  · rw [List.length_set] at hj hk
    rw [getD_set _ _ _ _ _ hl, getD_set _ _ _ _ _ hl]
    by_cases e : j = i
    · rw [if_pos e, if_neg (by omega)]
      cases hb : v'.ownBlock with
      | none => exact .inl rfl
      | some b =>
        right
        intro e'
        rcases hat with h1 | h1
        · rcases h.apart k i hk hi' (by omega) with h2 | h2
          · rw [h2] at e'; cases e'
          · exact h2 (by rw [← e', ← hb, h1])
        · rw [hb] at h1
          have := h.tops k b hk e'.symm
          have : b = w.heap.size := Option.some.inj h1
          omega
    · rw [if_neg e]
      by_cases e2 : k = i
      · rw [if_pos e2]
        cases hb : (us.getD j nilRow).ownBlock with
        | none => exact .inl rfl
        | some b =>
          right
          intro e'
          rcases hat with h1 | h1
          · rcases h.apart j i hj hi' e with h2 | h2
            · rw [h2] at hb; cases hb
            · exact h2 (by rw [hb, e', h1])
          · rw [← e'] at h1
            have := h.tops j b hj hb
            have : b = w.heap.size := Option.some.inj h1
            omega
      · rw [if_neg e2]
        exact h.apart j k hj hk hjk
theorem Rws.swap {w : World} {lo hi : Nat} {a b : Value} {x y : List Int} (h : Rws w lo hi [a, b] [x, y]) : Rws w lo hi [b, a] [y, x] := by
  have h0 := h.row 0 (by simp)
  have h1 := h.row 1 (by simp)
  have t0 := h.tops 0
  have t1 := h.tops 1
  have p := h.apart 0 1 (by simp) (by simp) (by decide)
  have q := h.apart 1 0 (by simp) (by simp) (by decide)
  refine ⟨rfl, fun i hi => ?_, fun i b hi hb => ?_, fun i j hi hj hij => ?_⟩
  · rcases i with _ | _ | i
    · exact h1
    · exact h0
    · exfalso; simp at hi; omega
  · rcases i with _ | _ | i
    · exact t1 b (by simp) hb
    · exact t0 b (by simp) hb
    · exfalso; simp at hi; omega
  · rcases i with _ | _ | i <;> rcases j with _ | _ | j
    · exact absurd rfl hij
    · exact q
    · exfalso; simp at hj; omega
    · exact p
    · exact absurd rfl hij
    · exfalso; simp at hj; omega
    · exfalso; simp at hi; omega
    · exfalso; simp at hi; omega
    · exfalso; simp at hi; omega
theorem BoxAt.offT {w : World} {g : Nat} {cs : Array Value} {T e : TypeId} {lo n s : Nat} {v : Value} {xs : List Value} (h : BoxAt w g cs T) (ho : w.ownsRow lo e s v n xs) (hne : e ≠ T) : v.ownBlock ≠ some g := by
  intro hv
  rcases ho.2 with ⟨rfl, _⟩ | ⟨g', cap, cur, rfl, _, hg, _⟩
  · simp [Value.ownBlock] at hv
  · simp only [Value.ownBlock, Option.some.injEq] at hv
    subst hv
    unfold BoxAt at h
    rw [h] at hg
    simp only [Option.some.injEq, Obj.cells.injEq] at hg
    exact hne hg.2.1.symm
theorem BoxAt.kept {w w' : World} {g : Nat} {cs : Array Value} {T : TypeId} {row : Option Nat} (h : BoxAt w g cs T) (hg : w.grownBy w' row) (hne : row ≠ some g) : BoxAt w' g cs T := by
  unfold BoxAt
  rw [hg.block g h.lt (fun e => hne e.symm)]
  exact h
theorem grown_setCell (w : World) (g j : Nat) (x : Value) : w.grownBy (w.setCell ⟨g, j, none⟩ x) (some g) := ⟨rfl, rfl, rfl, by simp, fun k _ hk => heap_setCell_other w ⟨g, j, none⟩ k x (fun e => hk (by simp [e]))⟩
theorem BoxAt.other {w : World} {g g' j : Nat} {cs : Array Value} {T : TypeId} {x : Value} (h : BoxAt w g cs T) (hne : g ≠ g') : BoxAt (w.setCell ⟨g', j, none⟩ x) g cs T :=
  h.kept (grown_setCell w g' j x) (by simpa using hne.symm)
theorem own_at2 {g n c j : Nat} (h : (Value.slice (some ⟨g, 0, none⟩) n c).ownBlock = some j) : g ≤ j ∧ j < g + 1 := by
  have e : g = j := by simpa [Value.ownBlock] using h
  omega
theorem own_at1 {g n c j b : Nat} (hb : b ≤ g) (h : (Value.slice (some ⟨g, 0, none⟩) n c).ownBlock = some j) : b ≤ j := by
  have e : g = j := by simpa [Value.ownBlock] using h
  omega
theorem slice_one (a : Option Addr) (n c : Nat) : (Value.slice a n c).oneCell' = true := rfl

/-- A list, where it is answered; else nothing. -/
def gX {α : Type} (ok : Bool) (l : List α) : List α := if ok = true then l else []
theorem gX_true {α : Type} (l : List α) : gX true l = l := rfl
theorem gX_false {α : Type} (l : List α) : gX false l = [] := rfl
/-- A place of a row: what stands there, and what the row is when it is written. -/
theorem own_put {w : World} {lo n : Nat} {v : Value} {cs : List Int} (h : Own w lo v cs) (hn : n < cs.length) :
    ∃ g cap, v = .slice (some ⟨g, 0, none⟩) cs.length cap ∧ w.cell? ⟨g, n, none⟩ = some (.int .i64 (cs.getD n 0)) ∧ w.frozen? ⟨g, n, none⟩ = false ∧ ∀ y : Int, Own (w.setCell ⟨g, n, none⟩ (.int .i64 y)) lo v (cs.set n y) ∧ w.grownBy (w.setCell ⟨g, n, none⟩ (.int .i64 y)) v.ownBlock := by
  obtain ⟨g, cap, rfl⟩ : ∃ g cap, v = .slice (some ⟨g, 0, none⟩) cs.length cap := by
    rcases h.2 with ⟨_, h0⟩ | ⟨g, cap, cur, rfl, _⟩
    · omega
    · exact ⟨g, cap, rfl⟩
  refine ⟨g, cap, rfl, ?_, World.ownsRow.frozenAt h n, fun y => ?_⟩
  · rw [World.ownsRow.cellAt h n (by omega), List.getElem?_map, List.getElem?_eq_getElem hn, List.getD_eq_getElem?_getD, List.getElem?_eq_getElem hn]
    rfl
  · have st := World.ownsRow.stored h n (.int .i64 y)
    refine ⟨?_, st.2⟩
    have h1 := st.1
    unfold Own
    rw [List.length_set]
    rw [← List.map_set] at h1
    exact h1
theorem rd_one {w : World} {g : Nat} {x : Int} (h : BoxAt w g #[.int .i64 x] 3) : Rd w (.slice (some ⟨g, 0, none⟩) 1 1) [x] := by
  refine ⟨_, 1, rfl, by simp, ⟨by unfold maxLen; omega, fun h => by cases h⟩, .inr ⟨g, 0, rfl, h.lt, fun i hi => ?_⟩⟩
  have : i = 0 := by simpa using hi
  subst this
  rw [Nat.zero_add, h.cell 0]
  rfl
/-- A number put to its place, once. -/
def putS (n : Int) : List Int → List Int
  | [] => [n]
  | x :: r => if x < n then x :: putS n r else if x = n then x :: r else n :: x :: r
theorem putS_at (n : Int) : ∀ (k : Nat) (xs : List Int), k ≤ xs.length → (∀ i, i < k → xs.getD i 0 < n) → putS n xs = xs.take k ++ putS n (xs.drop k)
  | 0, xs, _, _ => by simp
  | k + 1, [], h, _ => by simp at h
  | k + 1, x :: r, h, hl => by
    have h0 : x < n := hl 0 (by omega)
    have ih := putS_at n k r (by simpa using h) (fun i hi => by simpa using hl (i + 1) (by omega))
    simp only [putS, if_pos h0, List.take_succ_cons, List.drop_succ_cons, List.cons_append, ih]
theorem putS_end (n : Int) (xs : List Int) (hl : ∀ i, i < xs.length → xs.getD i 0 < n) : putS n xs = xs ++ [n] := by
  have := putS_at n xs.length xs (Nat.le_refl _) hl
  simpa [putS] using this
theorem drop_getD (xs : List Int) (k : Nat) (h : k < xs.length) : xs.drop k = xs.getD k 0 :: xs.drop (k + 1) := by
  rw [List.drop_eq_getElem_cons h]
  simp [List.getD_eq_getElem?_getD, h]
theorem putS_same (n : Int) (k : Nat) (xs : List Int) (hk : k < xs.length) (hl : ∀ i, i < k → xs.getD i 0 < n) (he : xs.getD k 0 = n) : putS n xs = xs := by
  rw [putS_at n k xs (by omega) hl, drop_getD xs k hk, he]
  simp only [putS, Int.lt_irrefl, if_false, if_true]
  conv => rhs; rw [← List.take_append_drop k xs, drop_getD xs k hk, he]
theorem putS_mid (n : Int) (k : Nat) (xs : List Int) (hk : k < xs.length) (hl : ∀ i, i < k → xs.getD i 0 < n) (h1 : ¬ xs.getD k 0 < n) (h2 : ¬ xs.getD k 0 = n) : putS n xs = (xs.take k ++ [n]) ++ xs.drop k := by
  rw [putS_at n k xs (by omega) hl, drop_getD xs k hk]
  simp only [putS, if_neg h1, if_neg h2]
  simp
theorem putS_low (n : Int) : ∀ (xs : List Int), (∀ y ∈ xs, n < y) → putS n xs = n :: xs
  | [], _ => rfl
  | x :: r, h => by
    have := h x (by simp)
    simp only [putS]
    rw [if_neg (by omega), if_neg (by omega)]
/-- The numbers that Booleans tell. -/
def selF (o : Nat) : List Bool → List Int
  | [] => []
  | b :: r => if b then (o : Int) :: selF (o + 1) r else selF (o + 1) r
theorem selF_ge : ∀ (bs : List Bool) (o : Nat), ∀ y ∈ selF o bs, (o : Int) ≤ y
  | [], o, y, h => by simp [selF] at h
  | b :: r, o, y, h => by
    simp only [selF] at h
    split at h
    · rcases List.mem_cons.1 h with rfl | h
      · omega
      · have := selF_ge r (o + 1) y h
        omega
    · have := selF_ge r (o + 1) y h
      omega
theorem selF_len : ∀ (bs : List Bool) (o : Nat), (selF o bs).length ≤ bs.length
  | [], o => Nat.le_refl _
  | b :: r, o => by
    have := selF_len r (o + 1)
    simp only [selF]
    split <;> simp <;> omega
theorem putS_sel : ∀ (bs : List Bool) (o i : Nat), i < bs.length → putS ((o + i : Nat) : Int) (selF o bs) = selF o (bs.set i true)
  | [], o, i, h => by simp at h
  | b :: r, o, 0, h => by
    cases b with
    | true => simp [selF, putS]
    | false =>
      simp only [selF, List.set_cons_zero, if_true, Nat.add_zero]
      exact putS_low _ _ (fun y hy => by have := selF_ge r (o + 1) y (by simpa using hy); omega)
  | b :: r, o, i + 1, h => by
    have ih := putS_sel r (o + 1) i (by simpa using h)
    rw [show o + 1 + i = o + (i + 1) from by omega] at ih
    cases b with
    | true =>
      simp only [selF, List.set_cons_succ, if_true, putS]
      rw [if_pos (by omega), ih]
    | false =>
      simp only [selF, List.set_cons_succ, Bool.false_eq_true, if_false]
      exact ih
theorem selF_mem : ∀ (bs : List Bool) (o i : Nat), ((o + i : Nat) : Int) ∈ selF o bs ↔ bs.getD i false = true
  | [], o, i => by simp [selF]
  | b :: r, o, 0 => by
    cases b with
    | true => simp [selF]
    | false =>
      simp only [selF, Bool.false_eq_true, if_false, List.getD_cons_zero, iff_false]
      intro h
      have := selF_ge r (o + 1) _ h
      omega
  | b :: r, o, i + 1 => by
    have ih := selF_mem r (o + 1) i
    rw [show o + 1 + i = o + (i + 1) from by omega] at ih
    cases b with
    | true =>
      simp only [selF, if_true, List.mem_cons, List.getD_cons_succ]
      rw [← ih]
      constructor
      · rintro (h | h)
        · omega
        · exact h
      · exact .inr
    | false =>
      simp only [selF, Bool.false_eq_true, if_false, List.getD_cons_succ]
      exact ih
theorem selF_app : ∀ (a b : List Bool) (o : Nat), selF o (a ++ b) = selF o a ++ selF (o + a.length) b
  | [], b, o => by simp [selF]
  | x :: r, b, o => by
    have ih := selF_app r b (o + 1)
    rw [show o + 1 + r.length = o + (x :: r).length from by simp; omega] at ih
    simp only [List.cons_append, selF, ih]
    split <;> simp
theorem selF_succ (bs : List Bool) (k : Nat) (h : k < bs.length) : selF 0 (bs.take (k + 1)) = selF 0 (bs.take k) ++ (if bs.getD k false then [(k : Int)] else []) := by
  rw [take_succ_getD bs k false h, selF_app]
  simp [selF, Nat.min_eq_left (Nat.le_of_lt h)]
theorem selF_none (n o : Nat) : selF o (List.replicate n false) = [] := by
  induction n generalizing o with
  | zero => rfl
  | succ n ih => simp [List.replicate_succ, selF, ih]
/-- Numbers are come to, one after the other. -/
def rchN (bs : List Bool) (ks : List Int) : List Bool := ks.foldl (fun b x => b.set x.toNat true) bs
theorem rchN_len : ∀ (ks : List Int) (bs : List Bool), (rchN bs ks).length = bs.length
  | [], bs => rfl
  | x :: r, bs => by
    have := rchN_len r (bs.set x.toNat true)
    simpa [rchN] using this
theorem rchN_succ (bs : List Bool) (ks : List Int) (i : Nat) (h : i < ks.length) : rchN bs (ks.take (i + 1)) = (rchN bs (ks.take i)).set (ks.getD i 0).toNat true := by
  rw [take_succ_getD ks i 0 h]
  simp [rchN, List.foldl_append]
/-- Down the numbers from k. -/
def rchD (m : List Nd) : Nat → List Bool → List Bool
  | 0, bs => bs
  | k + 1, bs => rchD m k (if bs.getD k false then rchN bs (m.getD k nd0).1 else bs)
theorem rchD_len (m : List Nd) : ∀ (k : Nat) (bs : List Bool), (rchD m k bs).length = bs.length
  | 0, bs => rfl
  | k + 1, bs => by
    simp only [rchD]
    rw [rchD_len m k]
    split
    · exact rchN_len _ _
    · rfl
/-- What is come to from the roots. -/
def rchA (m : List Nd) (rs : List Int) : List Bool := rchD m m.length (rchN (List.replicate m.length false) rs)
theorem rchA_len (m : List Nd) (rs : List Int) : (rchA m rs).length = m.length := by
  unfold rchA
  rw [rchD_len, rchN_len, List.length_replicate]

theorem rd_takeR {w : World} {a : Option Addr} {n cap : Nat} {xs : List Int} (h : Rd w (.slice a n cap) xs) (i : Nat) (hi : i ≤ xs.length) : Rd w (.slice a i cap) (xs.take i) := by
  obtain ⟨a', cap', hv, h1, h2, h3⟩ := h
  simp only [Value.slice.injEq] at hv
  obtain ⟨rfl, rfl, rfl⟩ := hv
  have hl : (xs.take i).length = i := by simp; omega
  refine ⟨a, cap, by rw [hl], by rw [hl]; omega, h2, ?_⟩
  rcases h3 with h3 | ⟨b, off, rfl, hlt, hc⟩
  · subst h3; exact .inl (by simp)
  · refine .inr ⟨b, off, rfl, hlt, fun j hj => ?_⟩
    rw [hl] at hj
    rw [hc j (by omega)]
    simp [List.getD_eq_getElem?_getD, hj]
theorem rd_dropR {w : World} {b off n cap : Nat} {xs : List Int} (h : Rd w (.slice (some ⟨b, off, none⟩) n cap) xs) (p : Nat) (hp : p < xs.length) : Rd w (.slice (some ⟨b, off + p, none⟩) (n - p) (cap - p)) (xs.drop p) := by
  obtain ⟨a', cap', hv, h1, h2, h3⟩ := h
  simp only [Value.slice.injEq] at hv
  obtain ⟨rfl, rfl, rfl⟩ := hv
  have hl : (xs.drop p).length = xs.length - p := List.length_drop
  refine ⟨_, cap - p, by rw [hl], by rw [hl]; omega, ⟨by have := h2.1; omega, fun h => by cases h⟩, ?_⟩
  rcases h3 with h3 | ⟨b', off', he, hlt, hc⟩
  · subst h3; simp at hp
  · simp only [Option.some.injEq, Addr.mk.injEq, and_true] at he
    obtain ⟨rfl, rfl⟩ := he
    refine .inr ⟨b, off + p, rfl, hlt, fun i hi => ?_⟩
    rw [hl] at hi
    have := hc (p + i) (by omega)
    rw [← Nat.add_assoc] at this
    rw [this]
    simp [List.getD_eq_getElem?_getD]

theorem rd_singleR {w : World} {z : Int} : Rd (w.alloc (.cells #[.int .i64 z] 3)) (.slice (some ⟨w.heap.size, 0, none⟩) 1 1) [z] := by
  refine ⟨_, 1, rfl, Nat.le_refl _, ⟨by unfold maxLen; omega, fun h => by cases h⟩, .inr ⟨_, 0, rfl, by simp, fun i hi => ?_⟩⟩
  simp at hi
  subst hi
  exact World.cell?_alloc_at _ _ _ _ (by simp)
set_option maxRecDepth 100000 in
set_option maxHeartbeats 3200000 in
theorem l1PutE_calls (v : Value) (xs : List Int) (n : Int) (w : World) (h : Rd w v xs) (hl : xs.length ≤ 1000) :
    Calls Try.prog 113 #[v, .int .i64 n] w fun e w' => ∃ v' : Value, e = .returned v' ∧ ((v' = v ∧ putS n xs = xs) ∨ Own w' w.heap.size v' (putS n xs)) ∧ Below w.heap.size w w' := by
  have R := hide h
  obtain ⟨a, cap, rfl, hcap, hcm, _⟩ := h
  go_enter Try.func113, Try.ntmps113
  go_wp2
  go_loop [5] (fun vk => ∃ k : Nat, k ≤ xs.length ∧ vk = .int .i64 k ∧ ∀ i, i < k → xs.getD i 0 < n) (fun vk => xs.length - (intOf vk).toNat)
  case atStart => exact ⟨0, Nat.zero_le _, rfl, fun i hi => by omega⟩
  case round =>
    obtain ⟨k, hk, rfl, hal⟩ := hrel
    have AL := hide hal
    clear hal
    by_cases hlt : k < xs.length
    · have hlt' : (k : Int) < (xs.length : Int) := by omega
      obtain ⟨b, off, rfl, hc⟩ := R.out.cellAt k hlt
      obtain ⟨x, hx⟩ : ∃ x, x = xs.getD k 0 := ⟨_, rfl⟩
      rw [← hx] at hc
      have HXE := hide hx
      clear hx
      by_cases hxn : x < n
      · go_wp2
        go_round
        case rel =>
          refine ⟨k + 1, by omega, by go_num, fun i hi => ?_⟩
          by_cases e : i = k
          · subst e; rw [← HXE.out]; exact hxn
          · exact AL.out i (by omega)
        case measure => simp [intOf]; omega
      · by_cases hxe : x = n
        · have te : (x == n) = true := by simp [hxe]
          have HX := hide hxe
          clear hxe
          go_wp2
          go_ret
          exact ⟨_, rfl, .inl ⟨rfl, putS_same n k xs hlt AL.out (HXE.out.symm.trans HX.out)⟩, Below.refl _ _⟩
        · have te : (x == n) = false := by simp [hxe]
          have PM : Hid (putS n xs = (xs.take k ++ [n]) ++ xs.drop k) := putS_mid n k xs hlt AL.out (by rw [← HXE.out]; exact hxn) (by rw [← HXE.out]; exact hxe)
          have RT := hide (rd_takeR R.out k hk)
          have RD := hide (rd_dropR R.out k hlt)
          have i1 : (k : Int) ≤ (cap : Int) := by omega
          have i2 : ¬ cap = k := by omega
          have i3 : (k : Int) ≤ (xs.length : Int) := by omega
          clear hxe
          go_wp2_with (at_builtin; refine wpList_append_rd rfl (.tmp 34) (.tmp 37) rfl w.heap.size _ 0 [] (xs.take k) rfl (World.ownsRow_nil _ _ _ _) _ rfl RT.out (by rw [List.length_take]; omega) (Nat.le_refl _) ?_)
          intro v1 w1 ho1 hg1
          have b1 : Below w.heap.size w w1 := (Below.refl _ _).grown hg1 (Nat.le_refl _) (fun j hj => by cases hj)
          have ho1 : Own w1 w.heap.size v1 (xs.take k) := ho1
          have B1 := hide b1
          have l1 : (xs.take k).length = k := by rw [List.length_take]; omega
          have O1 := hide (ho1.alloc (.cells #[.int .i64 n] 3))
          have low1 : Hid (∀ j, v1.ownBlock = some j → w.heap.size ≤ j) := fun j hj => (ho1.lt j hj).1
          have L1 := hide l1
          clear ho1 hg1 b1 l1
          go_wp2_with (at_builtin; refine wpList_append_rd rfl (.tmp 39) (.tmp 41) rfl w.heap.size _ (xs.take k).length (xs.take k) [n] rfl O1.out _ rfl rd_singleR (by rw [L1.out]; simp; omega) (by have := B1.out.size; simp; omega) ?_)
          intro v2 w2 ho2 hg2
          have b2 : Below w.heap.size w w2 := (B1.out.alloc B1.out.size _).grown hg2 (by have := B1.out.size; simp; omega) low1.out
          have B2 := hide b2
          have O2 := hide ho2
          have low2 : Hid (∀ j, v2.ownBlock = some j → w.heap.size ≤ j) := fun j hj => (ho2.lt j hj).1
          have RD2 := hide (RD.out.below b2)
          have L2 : Hid ((xs.take k ++ [n]).length = k + 1) := by show (xs.take k ++ [n]).length = k + 1; rw [List.length_append, L1.out]; rfl
          clear ho2 hg2 b2
          go_wp2_with (at_builtin; refine wpList_append_rd rfl (.tmp 43) (.tmp 46) rfl w.heap.size _ (xs.take k ++ [n]).length (xs.take k ++ [n]) (xs.drop k) rfl O2.out _ rfl RD2.out (by rw [L2.out, List.length_drop]; omega) (by have := B2.out.size; omega) ?_)
          intro v3 w3 ho3 hg3
          have B3 : Hid (Below w.heap.size w w3) := B2.out.grown hg3 B2.out.size low2.out
          have R3 : Hid (Own w3 w.heap.size v3 (putS n xs)) := by show Own _ _ _ _; rw [PM.out]; simpa using ho3
          clear ho3 hg3
          go_wp2
          go_ret
          exact ⟨_, rfl, .inr R3.out, B3.out⟩
    · obtain rfl : k = xs.length := by omega
      have i1 : (xs.length : Int) ≤ (cap : Int) := by omega
      have RT : Hid (Rd w (.slice a xs.length cap) xs) := R.out
      by_cases hce : cap = xs.length
      · obtain rfl : cap = xs.length := hce
        go_wp2_with (at_builtin; refine wpList_append_rd rfl (.tmp 34) (.tmp 37) rfl w.heap.size _ 0 [] xs rfl (World.ownsRow_nil _ _ _ _) _ rfl RT.out (by omega) (Nat.le_refl _) ?_)
        intro v1 w1 ho1 hg1
        have b1 : Below w.heap.size w w1 := (Below.refl _ _).grown hg1 (Nat.le_refl _) (fun j hj => by cases hj)
        have ho1 : Own w1 w.heap.size v1 xs := ho1
        have B1 := hide b1
        have O1 := hide (ho1.alloc (.cells #[.int .i64 n] 3))
        have low1 : Hid (∀ j, v1.ownBlock = some j → w.heap.size ≤ j) := fun j hj => (ho1.lt j hj).1
        clear ho1 hg1 b1
        go_wp2_with (at_builtin; refine wpList_append_rd rfl (.tmp 39) (.tmp 41) rfl w.heap.size _ xs.length xs [n] rfl O1.out _ rfl rd_singleR (by simp; omega) (by have := B1.out.size; simp; omega) ?_)
        intro v2 w2 ho2 hg2
        have b2 : Below w.heap.size w w2 := (B1.out.alloc B1.out.size _).grown hg2 (by have := B1.out.size; simp; omega) low1.out
        have B2 := hide b2
        have O2 := hide ho2
        have low2 : Hid (∀ j, v2.ownBlock = some j → w.heap.size ≤ j) := fun j hj => (ho2.lt j hj).1
        have L2 : Hid ((xs ++ [n]).length = xs.length + 1) := by show (xs ++ [n]).length = xs.length + 1; simp
        clear ho2 hg2 b2
        go_wp2_with (at_builtin; refine wpList_append_rd rfl (.tmp 43) (.tmp 46) rfl w.heap.size _ (xs ++ [n]).length (xs ++ [n]) [] rfl O2.out _ rfl ⟨_, _, rfl, Nat.zero_le _, ⟨by omega, by intro h; first | rfl | omega | (cases h)⟩, .inl rfl⟩ (by rw [L2.out]; simp; omega) (by have := B2.out.size; omega) ?_)
        intro v3 w3 ho3 hg3
        have B3 : Hid (Below w.heap.size w w3) := B2.out.grown hg3 B2.out.size low2.out
        have R3 : Hid (Own w3 w.heap.size v3 (putS n xs)) := by show Own _ _ _ _; rw [putS_end n xs AL.out]; simpa using ho3
        clear ho3 hg3
        go_wp2
        go_ret
        exact ⟨_, rfl, .inr R3.out, B3.out⟩
      · have ce : ¬ cap = xs.length := hce
        obtain ⟨ad, rfl⟩ : ∃ ad, a = some ad := by
          cases a with
          | none => exact absurd (by have := hcm.2 rfl; omega) ce
          | some ad => exact ⟨ad, rfl⟩
        go_wp2_with (at_builtin; refine wpList_append_rd rfl (.tmp 34) (.tmp 37) rfl w.heap.size _ 0 [] xs rfl (World.ownsRow_nil _ _ _ _) _ rfl RT.out (by omega) (Nat.le_refl _) ?_)
        intro v1 w1 ho1 hg1
        have b1 : Below w.heap.size w w1 := (Below.refl _ _).grown hg1 (Nat.le_refl _) (fun j hj => by cases hj)
        have ho1 : Own w1 w.heap.size v1 xs := ho1
        have B1 := hide b1
        have O1 := hide (ho1.alloc (.cells #[.int .i64 n] 3))
        have low1 : Hid (∀ j, v1.ownBlock = some j → w.heap.size ≤ j) := fun j hj => (ho1.lt j hj).1
        clear ho1 hg1 b1
        go_wp2_with (at_builtin; refine wpList_append_rd rfl (.tmp 39) (.tmp 41) rfl w.heap.size _ xs.length xs [n] rfl O1.out _ rfl rd_singleR (by simp; omega) (by have := B1.out.size; simp; omega) ?_)
        intro v2 w2 ho2 hg2
        have b2 : Below w.heap.size w w2 := (B1.out.alloc B1.out.size _).grown hg2 (by have := B1.out.size; simp; omega) low1.out
        have B2 := hide b2
        have O2 := hide ho2
        have low2 : Hid (∀ j, v2.ownBlock = some j → w.heap.size ≤ j) := fun j hj => (ho2.lt j hj).1
        have L2 : Hid ((xs ++ [n]).length = xs.length + 1) := by show (xs ++ [n]).length = xs.length + 1; simp
        clear ho2 hg2 b2
        go_wp2_with (at_builtin; refine wpList_append_rd rfl (.tmp 43) (.tmp 46) rfl w.heap.size _ (xs ++ [n]).length (xs ++ [n]) [] rfl O2.out _ rfl ⟨_, _, rfl, Nat.zero_le _, ⟨by omega, by intro h; first | rfl | omega | (cases h)⟩, .inl rfl⟩ (by rw [L2.out]; simp; omega) (by have := B2.out.size; omega) ?_)
        intro v3 w3 ho3 hg3
        have B3 : Hid (Below w.heap.size w w3) := B2.out.grown hg3 B2.out.size low2.out
        have R3 : Hid (Own w3 w.heap.size v3 (putS n xs)) := by show Own _ _ _ _; rw [putS_end n xs AL.out]; simpa using ho3
        clear ho3 hg3
        go_wp2
        go_ret
        exact ⟨_, rfl, .inr R3.out, B3.out⟩
theorem put_step {w w' : World} {lo : Nat} {v v' : Value} {bs : List Bool} {n : Nat} (ho : Own w lo v (selF 0 bs)) (hlo : lo ≤ w.heap.size) (hn : n < bs.length) (hv : (v' = v ∧ putS (n : Int) (selF 0 bs) = selF 0 bs) ∨ Own w' w.heap.size v' (putS (n : Int) (selF 0 bs))) (hb : Below w.heap.size w w') : Own w' lo v' (selF 0 (bs.set n true)) := by
  have e := putS_sel bs 0 n hn
  rw [Nat.zero_add] at e
  rcases hv with ⟨rfl, h⟩ | h
  · rw [← e, h]
    exact ho.below hb
  · rw [← e]
    exact Own.mono h hlo
end Go.Proofs.Ytjffjoednmlkiaa

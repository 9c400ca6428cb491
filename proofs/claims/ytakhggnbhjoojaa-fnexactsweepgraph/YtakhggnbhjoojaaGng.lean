/-
  The model's copy of a graph, call by call. The contract says what it asks.
-/
import Derived.Test.YtakhggnbhjoojaaGnh
import Derived.Maps.AppendAt
import Derived.Deep.DeepCutAuto
namespace Go.Proofs.Ytakhggnbhjoojaa
open Go.RowKit
set_option linter.unusedVariables false

/-- 'append(out, p...)', out the call's own row of integers, p whatever reads as these (nil too); and where the row lies then. -/
theorem run_app_int {W : World} (ty : TypeId) (base : Nat) (v : Value) (xs : List Int) (hown : Own W base v xs) (u : Value) (zs : List Int) (hr : Rd W u zs) (hm : xs.length + zs.length ≤ 17179869184) (hbase : base ≤ W.heap.size) :
    ∃ v' w', (Builtin.append_ #[23, 23] ty #[v, u]).run Try.prog W = .ok v' w' ∧ Own w' base v' (xs ++ zs) ∧ W.grownBy w' v.ownBlock ∧ (v'.ownBlock = v.ownBlock ∨ v'.ownBlock = some W.heap.size) := by
  obtain ⟨i0, hi, hz0, hz1, hz2⟩ := info_parts infoInt
  obtain ⟨ad, cap, rfl, h1, ⟨h2, h2'⟩, h3⟩ := hr
  cases ad with
  | none =>
    have hz : zs = [] := by
      rcases h3 with h3 | ⟨b, off, hb, _⟩
      · exact h3
      · cases hb
    subst hz
    obtain rfl := h2' rfl
    have hrun := run_append_owned_none (P := Try.prog) (w := W) base 23 ty 3 i0 1 Try.underlying23 hi v xs.length _ hown
    refine ⟨v, W, hrun, ?_, World.grownBy.refl _ _, .inl rfl⟩
    rw [List.append_nil]
    exact hown
  | some ad =>
    have hnews : ∀ j y, (zs.map (Value.int .i64))[j]? = some y → W.cell? (ad.add j) = some y := by
      intro j y hj
      have hjl : j < zs.length := by simpa using (List.getElem?_eq_some_iff.1 hj).1
      rcases h3 with h3 | ⟨b, off, hb, _, hc⟩
      · subst h3; simp at hjl
      obtain rfl := Option.some.inj hb
      have hadd : (⟨b, off, none⟩ : Addr).add j = ⟨b, off + j, none⟩ := by unfold Addr.add; split <;> simp_all
      rw [hadd, hc j hjl]
      rw [List.getElem?_map, List.getElem?_eq_getElem hjl] at hj
      simp only [Option.map_some, Option.some.injEq] at hj
      rw [← hj, List.getD_eq_getElem?_getD, List.getElem?_eq_getElem hjl, Option.getD_some]
    obtain ⟨v', w', hrun, ho', hg', _, hat⟩ := run_append_own_at (P := Try.prog) W base 23 ty 3 i0 (.int .i64 0) 1 8 Try.underlying23 hi hz0 hz1 hz2 rfl (by decide) v xs.length _ hown ad zs.length cap (zs.map (Value.int .i64)) (by simp) hnews (ints_oneCell _ _) (by unfold maxLen; omega) (by omega) hbase
    refine ⟨v', w', hrun, ?_, hg', hat⟩
    show World.ownsRow _ _ _ _ _ (xs ++ zs).length _
    rw [List.map_append, List.length_append]
    exact ho'
theorem step_app_int {W : World} {ops : Array Oper} {o : Oper} {a : Act} {K : Act → World → Prop} {Q : Exit → Act → World → Prop} {E : Prop} (hgd : o.guard = none) (s x : Operand)
    (ho : o.op = .call { callee := .builtin .append, args := #[s, x], argTypes := #[23, 23] }) (base : Nat) (v : Value) (hs : a.eval s = v) (xs : List Int) (hown : Own W base v xs) (u : Value) (hx : a.eval x = u) (zs : List Int) (hr : Rd W u zs) (hm : xs.length + zs.length ≤ 17179869184) (hbase : base ≤ W.heap.size)
    (h : ∀ v' w', Own w' base v' (xs ++ zs) → W.grownBy w' v.ownBlock → (v'.ownBlock = v.ownBlock ∨ v'.ownBlock = some W.heap.size) → K (a.put o.dst v') w') :
    if Region.wanted o (yielded ops a.tmps) = true then Oper.wp Try.prog o a W K Q else E := by
  have hw : Region.wanted o (yielded ops a.tmps) = true := by simp [Region.wanted, hgd]
  rw [if_pos hw]
  obtain ⟨v', w', hrun, h1, h2, h3⟩ := run_app_int (W := W) o.type base v xs hown u zs hr hm hbase
  unfold Oper.wp execOp
  simp only [ho, resolve, invoke, builtin, Sem.run_bind, Sem.run_pure, Result.andThen_ok, List.map_toArray, List.map_cons, List.map_nil, hs, hx, hrun]
  exact h v' w' h1 h2 h3
theorem wpList_app_int {W : World} {ops : Array Oper} {rest : List Oper} {o : Oper} {a : Act} {Q : Exit → Act → World → Prop} (hgd : o.guard = none) (s x : Operand)
    (ho : o.op = .call { callee := .builtin .append, args := #[s, x], argTypes := #[23, 23] }) (base : Nat) (v : Value) (hs : a.eval s = v) (xs : List Int) (hown : Own W base v xs) (u : Value) (hx : a.eval x = u) (zs : List Int) (hr : Rd W u zs) (hm : xs.length + zs.length ≤ 17179869184) (hbase : base ≤ W.heap.size)
    (h : ∀ v' w', Own w' base v' (xs ++ zs) → W.grownBy w' v.ownBlock → (v'.ownBlock = v.ownBlock ∨ v'.ownBlock = some W.heap.size) → wpList Try.prog ops Q rest (a.put o.dst v') w') : wpList Try.prog ops Q (o :: rest) a W := by
  refine wpList_plain hgd fun K hK => ?_
  obtain ⟨v', w', hrun, h1, h2, h3⟩ := run_app_int (W := W) o.type base v xs hown u zs hr hm hbase
  unfold Oper.wp execOp
  simp only [ho, resolve, invoke, builtin, Sem.run_bind, Sem.run_pure, Result.andThen_ok, List.map_toArray, List.map_cons, List.map_nil, hs, hx, hrun]
  exact hK _ _ (h v' w' h1 h2 h3)

/-- A new, empty row. -/
theorem Rws.build {w : World} {lo hi : Nat} {us : List Value} {ks : List (List Int)} (h : Rws w lo hi us ks) (hh : hi ≤ w.heap.size) (hlo : lo ≤ w.heap.size) :
    Rws (w.alloc (.cells #[] 3)) lo (w.alloc (.cells #[] 3)).heap.size (.slice (some ⟨w.heap.size, 0, none⟩) 0 0 :: us) ([] :: ks) := by
  have hb := below_box w (.cells #[] 3)
  refine (h.below hb).cons ?_ (Nat.le_trans hh hb.size) (fun b hb' => ?_)
  · exact World.ownsRow_lit w #[] 0 hlo (Nat.zero_le _) rfl
  · simp only [Value.ownBlock, Option.some.injEq] at hb'
    subst hb'
    exact ⟨by simp, hh⟩
/-- A row grows: where it lay, or in a new block. -/
theorem Rws.app {w w' : World} {lo hi : Nat} {us : List Value} {ks : List (List Int)} {v' : Value} {r : List Int} (h : Rws w lo hi us ks) (i : Nat) (hi' : i < ks.length) (ho : Own w' lo v' r) (hg : w.grownBy w' (us.getD i nilRow).ownBlock) (hat : v'.ownBlock = (us.getD i nilRow).ownBlock ∨ v'.ownBlock = some w.heap.size) (hh : hi ≤ w.heap.size) :
    Rws w' lo w'.heap.size (us.set i v') (ks.set i r) := by
  have hl : i < us.length := by rw [h.len]; exact hi'
  have hs := hg.size
  refine ⟨by rw [List.length_set, List.length_set]; exact h.len, fun j hj => ?_, fun j b hj hb => ?_, fun j k hj hk hjk => ?_⟩
  · rw [List.length_set] at hj
    rw [getD_set _ _ _ _ _ hl, getD_set _ _ _ _ _ hi']
    by_cases e : j = i
    · rw [if_pos e, if_pos e]; exact ho
    · rw [if_neg e, if_neg e]
      exact World.ownsRow.kept (h.row j hj) hg (h.apart j i hj hi' e)
  · rw [List.length_set] at hj
    rw [getD_set _ _ _ _ _ hl] at hb
    by_cases e : j = i
    · rw [if_pos e] at hb; exact (World.ownsRow.lt ho b hb).2
    · rw [if_neg e] at hb
      have := h.tops j b hj hb
      omega
  · rw [List.length_set] at hj hk
    rw [getD_set _ _ _ _ _ hl, getD_set _ _ _ _ _ hl]
    by_cases e : j = i
    · rw [if_pos e, if_neg (by omega)]
      cases hb : v'.ownBlock with
      | none => exact .inl rfl
      | some b =>
        right
        intro e'
        rcases hat with h1 | h1
        · rcases h.apart k i hk hi' (by omega) with h2 | h2
          · rw [h2] at e'; cases e'
          · exact h2 (by rw [← e', ← hb, h1])
        · rw [hb] at h1
          have := h.tops k b hk e'.symm
          have : b = w.heap.size := Option.some.inj h1
          omega
    · rw [if_neg e]
      by_cases e2 : k = i
      · rw [if_pos e2]
        cases hb : (us.getD j nilRow).ownBlock with
        | none => exact .inl rfl
        | some b =>
          right
          intro e'
          rcases hat with h1 | h1
          · rcases h.apart j i hj hi' e with h2 | h2
            · rw [h2] at hb; cases hb
            · exact h2 (by rw [hb, e', h1])
          · rw [← e'] at h1
            have := h.tops j b hj hb
            have : b = w.heap.size := Option.some.inj h1
            omega
      · rw [if_neg e2]
        exact h.apart j k hj hk hjk
theorem Rws.swap {w : World} {lo hi : Nat} {a b : Value} {x y : List Int} (h : Rws w lo hi [a, b] [x, y]) : Rws w lo hi [b, a] [y, x] := by
  have h0 := h.row 0 (by simp)
  have h1 := h.row 1 (by simp)
  have t0 := h.tops 0
  have t1 := h.tops 1
  have p := h.apart 0 1 (by simp) (by simp) (by decide)
  have q := h.apart 1 0 (by simp) (by simp) (by decide)
  refine ⟨rfl, fun i hi => ?_, fun i b hi hb => ?_, fun i j hi hj hij => ?_⟩
  · rcases i with _ | _ | i
    · exact h1
    · exact h0
    · exfalso; simp at hi; omega
  · rcases i with _ | _ | i
    · exact t1 b (by simp) hb
    · exact t0 b (by simp) hb
    · exfalso; simp at hi; omega
  · rcases i with _ | _ | i <;> rcases j with _ | _ | j
    · exact absurd rfl hij
    · exact q
    · exfalso; simp at hj; omega
    · exact p
    · exact absurd rfl hij
    · exfalso; simp at hj; omega
    · exfalso; simp at hi; omega
    · exfalso; simp at hi; omega
    · exfalso; simp at hi; omega
theorem BoxAt.offT {w : World} {g : Nat} {cs : Array Value} {T e : TypeId} {lo n s : Nat} {v : Value} {xs : List Value} (h : BoxAt w g cs T) (ho : w.ownsRow lo e s v n xs) (hne : e ≠ T) : v.ownBlock ≠ some g := by
  intro hv
  rcases ho.2 with ⟨rfl, _⟩ | ⟨g', cap, cur, rfl, _, hg, _⟩
  · simp [Value.ownBlock] at hv
  · simp only [Value.ownBlock, Option.some.injEq] at hv
    subst hv
    unfold BoxAt at h
    rw [h] at hg
    simp only [Option.some.injEq, Obj.cells.injEq] at hg
    exact hne hg.2.1.symm
theorem BoxAt.kept {w w' : World} {g : Nat} {cs : Array Value} {T : TypeId} {row : Option Nat} (h : BoxAt w g cs T) (hg : w.grownBy w' row) (hne : row ≠ some g) : BoxAt w' g cs T := by
  unfold BoxAt
  rw [hg.block g h.lt (fun e => hne e.symm)]
  exact h
/-- The end of the first statement: the variable is stored. -/
theorem own_fin {V u : World} {lo hi g : Nat} {v1 v2 : Value} {rs cs : List Int} (h : Rws u lo hi [v1, v2] [rs, cs]) (hx : BoxAt u g nilG 27) (hb : Below V.heap.size V u) (hg : V.heap.size ≤ g) :
    BoxAt (((u.setCell ⟨g, 0, none⟩ (.slice none 0 0)).setCell ⟨g, 1, none⟩ v1).setCell ⟨g, 2, none⟩ v2) g #[.slice none 0 0, v1, v2] 27 ∧
    Rws (((u.setCell ⟨g, 0, none⟩ (.slice none 0 0)).setCell ⟨g, 1, none⟩ v1).setCell ⟨g, 2, none⟩ v2) lo hi [v1, v2] [rs, cs] ∧
    Below V.heap.size V (((u.setCell ⟨g, 0, none⟩ (.slice none 0 0)).setCell ⟨g, 1, none⟩ v1).setCell ⟨g, 2, none⟩ v2) := by
  refine ⟨hx.store3 _ _ _, ?_, ((hb.setCell (by exact hg) _).setCell (by exact hg) _).setCell (by exact hg) _⟩
  have gr : u.grownBy (((u.setCell ⟨g, 0, none⟩ (.slice none 0 0)).setCell ⟨g, 1, none⟩ v1).setCell ⟨g, 2, none⟩ v2) (some g) := by
    have st : ∀ (w : World) (j : Nat) (x : Value), w.grownBy (w.setCell ⟨g, j, none⟩ x) (some g) := fun w j x => ⟨rfl, rfl, rfl, by simp, fun k _ hk => heap_setCell_other w ⟨g, j, none⟩ k x (fun e => hk (by simp [e]))⟩
    exact grown_tr (grown_tr (st _ _ _) (st _ _ _)) (st _ _ _)
  exact h.kept gr (fun i hi' => .inr (hx.offT (h.row i hi') (by decide)))

/-- A node behind nodes of a call's own, in a row that grows. -/
theorem wpList_app_node {W : World} {ops : Array Oper} {rest : List Oper} {o : Oper} {a : Act} {Q : Exit → Act → World → Prop} (hgd : o.guard = none) (s x : Operand)
    (ho : o.op = .call { callee := .builtin .append, args := #[s, x], argTypes := #[25, 25] }) (lo hi : Nat) (v : Value) (hs : a.eval s = v) (es us : List Value) (qs : List (List Int)) (xs : List Nd) (hN : NdV W lo hi v es us qs xs)
    (gx : Nat) (hx : a.eval x = .slice (some ⟨gx, 0, none⟩) 1 1) (u : Value) (y : Nd) (c0 : W.cell? ⟨gx, 0, none⟩ = some u) (c1 : W.cell? ⟨gx, 1, none⟩ = some (.bool y.2)) (hu1 : u.oneCell' = true) (ho1 : Own W lo u y.1) (hub : ∀ b, u.ownBlock = some b → hi ≤ b) (hh : hi ≤ W.heap.size) (hm : xs.length ≤ 1048576) (hlo : lo ≤ W.heap.size)
    (h : ∀ v' w', NdV w' lo w'.heap.size v' es (us ++ [u]) qs (xs ++ [y]) → W.grownBy w' v.ownBlock → wpList Try.prog ops Q rest (a.put o.dst v') w') : wpList Try.prog ops Q (o :: rest) a W := by
  obtain ⟨i0, hi0, hz0, hz1, hz2⟩ := info_parts infoNd
  refine wpList_append_own (w := W) hgd s x _ ho lo _ i0 (.agg #[.slice none 0 0, .bool false]) 2 32 Try.underlying25 hi0 hz0 hz1 hz2 rfl (by decide) v xs.length _ hs hN.head ⟨gx, 0, none⟩ 1 1 [u, .bool y.2] hx rfl ?_ ?_ (by unfold maxLen; omega) (by omega) hlo ?_
  · intro j z hj
    rcases j with _ | _ | j
    · simp at hj
      subst hj
      simpa [Addr.add] using c0
    · simp at hj
      subst hj
      simpa [Addr.add] using c1
    · simp at hj
  · intro z hz
    simp only [List.mem_cons, List.not_mem_nil, or_false] at hz
    rcases hz with rfl | rfl
    · exact hu1
    · rfl
  · intro v' w' ho' hg' _
    refine h v' w' (hN.push (hi2 := w'.heap.size) ho1 (Nat.le_trans hh hg'.size) (fun b hb => ⟨?_, hub b hb⟩) ho' hg' (fun k hk => (World.ownsRow.lt ho' k hk).2)) hg'
    have := (World.ownsRow.lt ho1 b hb).2
    have := hg'.size
    omega
theorem grown_setCell (w : World) (g j : Nat) (x : Value) : w.grownBy (w.setCell ⟨g, j, none⟩ x) (some g) := ⟨rfl, rfl, rfl, by simp, fun k _ hk => heap_setCell_other w ⟨g, j, none⟩ k x (fun e => hk (by simp [e]))⟩
/-- A variable of another type is written. -/
theorem NdV.atBox {w : World} {lo hi g : Nat} {v : Value} {es us : List Value} {qs : List (List Int)} {xs : List Nd} {cs : Array Value} {T : TypeId} (h : NdV w lo hi v es us qs xs) (hx : BoxAt w g cs T) (h1 : 84 ≠ T) (h2 : 3 ≠ T) (j : Nat) (x : Value) : NdV (w.setCell ⟨g, j, none⟩ x) lo hi v es us qs xs :=
  ⟨World.ownsRow.kept h.head (grown_setCell w g j x) (.inr (hx.offT h.head h1)), h.top, h.lenE, h.rws.kept (grown_setCell w g j x) (fun i hi' => .inr (hx.offT (h.rws.row i hi') h2))⟩
theorem BoxAt.other {w : World} {g g' j : Nat} {cs : Array Value} {T : TypeId} {x : Value} (h : BoxAt w g cs T) (hne : g ≠ g') : BoxAt (w.setCell ⟨g', j, none⟩ x) g cs T :=
  h.kept (grown_setCell w g' j x) (by simpa using hne.symm)
theorem own_at2 {g n c j : Nat} (h : (Value.slice (some ⟨g, 0, none⟩) n c).ownBlock = some j) : g ≤ j ∧ j < g + 1 := by
  have e : g = j := by simpa [Value.ownBlock] using h
  omega
theorem own_at1 {g n c j b : Nat} (hb : b ≤ g) (h : (Value.slice (some ⟨g, 0, none⟩) n c).ownBlock = some j) : b ≤ j := by
  have e : g = j := by simpa [Value.ownBlock] using h
  omega
theorem slice_one (a : Option Addr) (n c : Nat) : (Value.slice a n c).oneCell' = true := rfl

set_option linter.unusedSimpArgs false in
set_option maxRecDepth 100000 in
set_option maxHeartbeats 6400000 in
theorem l10Own_calls (p r c : Value) (m : List Nd) (rs cs : List Int) (w : World) (h : RdG w p r c m rs cs) (hz : SzG m rs cs) :
    Calls Try.prog 68 #[.agg #[p, r, c]] w fun e w' => ∃ p' r' c', e = .returned (.agg #[p', r', c']) ∧ TGrf p' r' c' m rs cs w.heap.size w'.heap.size w' ∧ Below w.heap.size w w' := by
  have R := hide h
  have Z := hide hz
  obtain ⟨⟨ap, cp, rfl, _⟩, ⟨ar, cr, rfl, _⟩, ⟨ac, cc, rfl, _⟩⟩ := h
  have A0 := hide (Hand.twoN w #[.slice ap m.length cp, .slice ar rs.length cr, .slice ac cs.length cc] nilG 27 27)
  have hml : m.length ≤ 1048576 := by have := hz.1; omega
  clear hz
  go_enter Try.func68, Try.ntmps68
  go_upto_region 1 with fail
  go_cut [3] (fun s3 wx => ∃ (V0 : World) (g9 : Nat) (a3 : Option Addr) (c3 : Nat) (a7 : Option Addr) (c7 : Nat) (hi : Nat), s3 = .pointer (some ⟨g9, 0, none⟩) ∧ BoxAt wx g9 #[.slice none 0 0, .slice a3 rs.length c3, .slice a7 cs.length c7] 27 ∧ Rws wx V0.heap.size hi [.slice a3 rs.length c3, .slice a7 cs.length c7] [rs, cs] ∧ hi ≤ wx.heap.size ∧ Below V0.heap.size V0 wx ∧ V0.heap.size ≤ g9 ∧ Hand w V0 [TBox (w.heap.size + 1) nilG 27, TBox w.heap.size #[.slice ap m.length cp, .slice ar rs.length cr, .slice ac cs.length cc] 27])
  case first =>
    refine wp_region_noPanic ?_
    refine wp_region_held_drew (S := fun w' => w'.cell? ⟨w.heap.size, 0, none⟩ = some (.slice ap m.length cp) ∧ w'.cell? ⟨w.heap.size, 1, none⟩ = some (.slice ar rs.length cr) ∧ w'.cell? ⟨w.heap.size, 2, none⟩ = some (.slice ac cs.length cc)) (by kernel_rfl) ((A0.out.step (Below.refl _ _).drew).atBox 1 rfl |>.c3) (fun hHeld => ?_)
    have G0 := hide (A0.out.step (Below.refl _ _).drew)
    clear A0
    generalize World.drew _ = V0 at *
    have F : Hid (∀ W, Below V0.heap.size V0 W → (W.cell? ⟨w.heap.size, 0, none⟩ = some (.slice ap m.length cp) ∧ W.cell? ⟨w.heap.size, 1, none⟩ = some (.slice ar rs.length cr) ∧ W.cell? ⟨w.heap.size, 2, none⟩ = some (.slice ac cs.length cc))) := fun W hW => ((G0.out.step hW).atBox 1 rfl).c3
    have RR := hide (R.out.below G0.out.below)
    have BV0 := hide (Below.refl V0.heap.size V0)
    obtain ⟨lo, hlo⟩ : ∃ lo, lo = V0.heap.size := ⟨_, rfl⟩
    have LO := hide hlo
    clear hlo
    have RV0 := hide (Rws.nil V0 lo V0.heap.size)
    refine wpAnyH_take (i := 1) (v := ?v1) rfl (by kernel_rfl) (by kernel_rfl) (by kernel_rfl) (fun _ _ _ h => h) (Or.inl ⟨by rfl, ?hy1⟩) (by assumption) ?rest1
    case hy1 => (intro w' hSw; dsimp only [List.getElem_toArray, List.getElem_cons_zero, List.getElem_cons_succ] at hSw ⊢; go_simp; try (with_reducible rfl))
    try simp only [Act.put, List.getElem_toArray, List.getElem_cons_zero, List.getElem_cons_succ, List.setIfInBounds_toArray, List.set_cons_zero, List.set_cons_succ]
    refine wpAnyH_take (i := 2) (v := ?v2) rfl (by kernel_rfl) (by kernel_rfl) (by kernel_rfl) (fun _ _ _ h => h) (Or.inl ⟨by rfl, ?hy2⟩) (by assumption) ?rest2
    case hy2 => (intro w' hSw; dsimp only [List.getElem_toArray, List.getElem_cons_zero, List.getElem_cons_succ] at hSw ⊢; go_simp; try (with_reducible rfl))
    try simp only [Act.put, List.getElem_toArray, List.getElem_cons_zero, List.getElem_cons_succ, List.setIfInBounds_toArray, List.set_cons_zero, List.set_cons_succ]
    refine wpAnyH_take (i := 5) (v := ?v3) rfl (by kernel_rfl) (by kernel_rfl) (by kernel_rfl) (fun _ _ _ h => h) (Or.inl ⟨by rfl, ?hy3⟩) (by assumption) ?rest3
    case hy3 => (intro w' hSw; dsimp only [List.getElem_toArray, List.getElem_cons_zero, List.getElem_cons_succ] at hSw ⊢; go_simp; try (with_reducible rfl))
    try simp only [Act.put, List.getElem_toArray, List.getElem_cons_zero, List.getElem_cons_succ, List.setIfInBounds_toArray, List.set_cons_zero, List.set_cons_succ]
    refine wpAnyH_take (i := 6) (v := ?v4) rfl (by kernel_rfl) (by kernel_rfl) (by kernel_rfl) (fun _ _ _ h => h) (Or.inl ⟨by rfl, ?hy4⟩) (by assumption) ?rest4
    case hy4 => (intro w' hSw; dsimp only [List.getElem_toArray, List.getElem_cons_zero, List.getElem_cons_succ] at hSw ⊢; go_simp; try (with_reducible rfl))
    try simp only [Act.put, List.getElem_toArray, List.getElem_cons_zero, List.getElem_cons_succ, List.setIfInBounds_toArray, List.set_cons_zero, List.set_cons_succ]
    refine wpAnyH_ready (rs := [0, 4, 9]) (by kernel_rfl) (by simp) ?_
    refine AllReadyH.cons rfl (fun K hK => ?_) (AllReadyH.cons rfl (fun K hK => ?_) (AllReadyH.cons rfl (fun K hK => ?_) (AllReadyH.nil)))
    · dsimp only [List.getElem_toArray, List.getElem_cons_zero, List.getElem_cons_succ]
      go_simp
      have bb := below_box V0 (.cells #[] 3)
      have rr := RV0.out.build (Nat.le_refl _) (by rw [LO.out]; exact BV0.out.size)
      obtain ⟨g0, hg0⟩ : ∃ g, g = V0.heap.size := ⟨_, rfl⟩
      rw [← hg0] at rr ⊢
      clear hg0
      generalize V0.alloc (.cells #[] 3) = u1 at bb rr ⊢
      have Ru1 := hide rr
      have Bu1 := hide (BV0.out.trans (bb.mono BV0.out.size))
      clear bb rr hHeld RV0
      refine hK.out _ _ (F.out _ Bu1.out) (fun hHeld => ?_)
      clear hK K
      try simp only [Act.put, List.getElem_toArray, List.getElem_cons_zero, List.getElem_cons_succ, List.setIfInBounds_toArray, List.set_cons_zero, List.set_cons_succ]
      refine wpAnyH_ready (rs := [3, 4, 9]) (by kernel_rfl) (by simp) ?_
      refine AllReadyH.cons rfl (fun K hK => ?_) (AllReadyH.cons rfl (fun K hK => ?_) (AllReadyH.cons rfl (fun K hK => ?_) (AllReadyH.nil)))
      · refine step_app_int (by rfl) (.tmp 6) (.tmp 8) (by rfl) _ (.slice (some ⟨g0, 0, none⟩) 0 0) (by rfl) [] (Ru1.out.row 0 (by simp)) _ (by rfl) rs (RR.out.2.1.below Bu1.out) (by have h9 := Z.out.2.1; simp only [List.length_nil]; omega) (by rw [LO.out]; exact Bu1.out.size) ?_
        intro v3 u2 o bg at3
        rw [List.nil_append] at o
        have rr := Ru1.out.app 0 (by simp) o bg at3 (Nat.le_refl _)
        have bb : Below V0.heap.size V0 u2 := Bu1.out.grown bg Bu1.out.size (fun k hk => by cases hk; rw [← LO.out]; exact (World.ownsRow.lt (Ru1.out.row 0 (by simp)) _ rfl).1)
        obtain ⟨a3, c3, rfl⟩ := row_slice o
        have Ru2 := hide rr
        have Bu2 := hide bb
        clear o bg at3 rr bb hHeld Ru1
        refine hK.out _ _ (F.out _ Bu2.out) (fun hHeld => ?_)
        clear hK K
        try simp only [Act.put, List.getElem_toArray, List.getElem_cons_zero, List.getElem_cons_succ, List.setIfInBounds_toArray, List.set_cons_zero, List.set_cons_succ]
        refine wpAnyH_ready (rs := [4, 9]) (by kernel_rfl) (by simp) ?_
        refine AllReadyH.cons rfl (fun K hK => ?_) (AllReadyH.cons rfl (fun K hK => ?_) (AllReadyH.nil))
        · dsimp only [List.getElem_toArray, List.getElem_cons_zero, List.getElem_cons_succ]
          go_simp
          have bb := below_box u2 (.cells #[] 3)
          have rr := Ru2.out.build (Nat.le_refl _) (by rw [LO.out]; exact Bu2.out.size)
          obtain ⟨g4, hg4⟩ : ∃ g, g = u2.heap.size := ⟨_, rfl⟩
          rw [← hg4] at rr ⊢
          clear hg4
          generalize u2.alloc (.cells #[] 3) = u3 at bb rr ⊢
          have Ru3 := hide rr
          have Bu3 := hide (Bu2.out.trans (bb.mono Bu2.out.size))
          clear bb rr hHeld Ru2
          refine hK.out _ _ (F.out _ Bu3.out) (fun hHeld => ?_)
          clear hK K
          try simp only [Act.put, List.getElem_toArray, List.getElem_cons_zero, List.getElem_cons_succ, List.setIfInBounds_toArray, List.set_cons_zero, List.set_cons_succ]
          refine wpAnyH_ready (rs := [7, 9]) (by kernel_rfl) (by simp) ?_
          refine AllReadyH.cons rfl (fun K hK => ?_) (AllReadyH.cons rfl (fun K hK => ?_) (AllReadyH.nil))
          · refine step_app_int (by rfl) (.tmp 10) (.tmp 12) (by rfl) _ (.slice (some ⟨g4, 0, none⟩) 0 0) (by rfl) [] (Ru3.out.row 0 (by simp)) _ (by rfl) cs (RR.out.2.2.below Bu3.out) (by have h9 := Z.out.2.2; simp only [List.length_nil]; omega) (by rw [LO.out]; exact Bu3.out.size) ?_
            intro v7 u4 o bg at7
            rw [List.nil_append] at o
            have rr := Ru3.out.app 0 (by simp) o bg at7 (Nat.le_refl _)
            have bb : Below V0.heap.size V0 u4 := Bu3.out.grown bg Bu3.out.size (fun k hk => by cases hk; rw [← LO.out]; exact (World.ownsRow.lt (Ru3.out.row 0 (by simp)) _ rfl).1)
            obtain ⟨a7, c7, rfl⟩ := row_slice o
            have Ru4 := hide rr
            have Bu4 := hide bb
            clear o bg at7 rr bb hHeld Ru3
            refine hK.out _ _ (F.out _ Bu4.out) (fun hHeld => ?_)
            clear hK K
            try simp only [Act.put, List.getElem_toArray, List.getElem_cons_zero, List.getElem_cons_succ, List.setIfInBounds_toArray, List.set_cons_zero, List.set_cons_succ]
            refine wpAnyH_take (i := 8) (v := ?v5) rfl (by kernel_rfl) (by kernel_rfl) (by kernel_rfl) (fun _ _ _ h => h) (Or.inl ⟨by rfl, ?hy5⟩) (by assumption) ?rest5
            case hy5 => (intro w' hSw; dsimp only [List.getElem_toArray, List.getElem_cons_zero, List.getElem_cons_succ] at hSw ⊢; go_simp; try (with_reducible rfl))
            try simp only [Act.put, List.getElem_toArray, List.getElem_cons_zero, List.getElem_cons_succ, List.setIfInBounds_toArray, List.set_cons_zero, List.set_cons_succ]
            refine wpAnyH_ready (rs := [9]) (by kernel_rfl) (by simp) ?_
            refine AllReadyH.cons rfl (fun K hK => ?_) (AllReadyH.nil)
            dsimp only [List.getElem_toArray, List.getElem_cons_zero, List.getElem_cons_succ]
            go_simp
            have bb := below_box u4 (.cells nilG 27)
            have xx := BoxAt.new u4 nilG 27
            have ll : lo ≤ u4.heap.size := by rw [LO.out]; exact Bu4.out.size
            obtain ⟨g9, hg9⟩ : ∃ g, g = u4.heap.size := ⟨_, rfl⟩
            rw [← hg9] at xx ll ⊢
            clear hg9
            generalize u4.alloc (.cells nilG 27) = u5 at bb xx ⊢
            have Ru5 := hide ((Ru4.out.below bb).wider (Nat.le_refl _) bb.size)
            have Bu5 := hide (Bu4.out.trans (bb.mono Bu4.out.size))
            have Xu5 := hide xx
            have LG := hide ll
            clear bb xx ll hHeld Ru4
            refine hK.out _ _ (F.out _ Bu5.out) (fun hHeld => ?_)
            clear hK K
            try simp only [Act.put, List.getElem_toArray, List.getElem_cons_zero, List.getElem_cons_succ, List.setIfInBounds_toArray, List.set_cons_zero, List.set_cons_succ]
            refine wpAnyH_ready (rs := [10]) (by kernel_rfl) (by simp) ?_
            refine AllReadyH.cons rfl (fun K hK => ?_) AllReadyH.nil
            obtain ⟨d0, d1, d2⟩ := Xu5.out.c3
            have f0 := Xu5.out.frozen 0
            have f1 := Xu5.out.frozen 1
            have f2 := Xu5.out.frozen 2
            dsimp only [List.getElem_toArray, List.getElem_cons_zero, List.getElem_cons_succ]
            go_simp
            clear d0 d1 d2 f0 f1 f2 hHeld
            have fin := own_fin Ru5.out.swap Xu5.out Bu5.out (by rw [← LO.out]; exact LG.out)
            refine hK.out _ _ (F.out _ fin.2.2) (fun hHeld => ?_)
            clear hK K hHeld
            try simp only [Act.put, List.getElem_toArray, List.getElem_cons_zero, List.getElem_cons_succ, List.setIfInBounds_toArray, List.set_cons_zero, List.set_cons_succ]
            refine wpAnyH_done (by kernel_rfl) ?_ _
            refine NoPanic.normal ?_
            go_wp2_with fail
            go_meet
            exact ⟨V0, g9, a3, c3, a7, c7, _, rfl, fin.1, (by rw [← LO.out]; exact fin.2.1), by simp, fin.2.2, (by rw [← LO.out]; exact LG.out), G0.out⟩
          · dsimp only [List.getElem_toArray, List.getElem_cons_zero, List.getElem_cons_succ]
            go_simp
            have bb := below_box u3 (.cells nilG 27)
            have xx := BoxAt.new u3 nilG 27
            have ll : lo ≤ u3.heap.size := by rw [LO.out]; exact Bu3.out.size
            obtain ⟨g9, hg9⟩ : ∃ g, g = u3.heap.size := ⟨_, rfl⟩
            rw [← hg9] at xx ll ⊢
            clear hg9
            generalize u3.alloc (.cells nilG 27) = u6 at bb xx ⊢
            have Ru6 := hide ((Ru3.out.below bb).wider (Nat.le_refl _) bb.size)
            have Bu6 := hide (Bu3.out.trans (bb.mono Bu3.out.size))
            have Xu6 := hide xx
            have LG := hide ll
            clear bb xx ll hHeld Ru3
            refine hK.out _ _ (F.out _ Bu6.out) (fun hHeld => ?_)
            clear hK K
            try simp only [Act.put, List.getElem_toArray, List.getElem_cons_zero, List.getElem_cons_succ, List.setIfInBounds_toArray, List.set_cons_zero, List.set_cons_succ]
            refine wpAnyH_ready (rs := [7]) (by kernel_rfl) (by simp) ?_
            refine AllReadyH.cons rfl (fun K hK => ?_) (AllReadyH.nil)
            refine step_app_int (by rfl) (.tmp 10) (.tmp 12) (by rfl) _ (.slice (some ⟨g4, 0, none⟩) 0 0) (by rfl) [] (Ru6.out.row 0 (by simp)) _ (by rfl) cs (RR.out.2.2.below Bu6.out) (by have h9 := Z.out.2.2; simp only [List.length_nil]; omega) (by rw [LO.out]; exact Bu6.out.size) ?_
            intro v7 u7 o bg at7
            rw [List.nil_append] at o
            have rr := Ru6.out.app 0 (by simp) o bg at7 (Nat.le_refl _)
            have bb : Below V0.heap.size V0 u7 := Bu6.out.grown bg Bu6.out.size (fun k hk => by cases hk; rw [← LO.out]; exact (World.ownsRow.lt (Ru6.out.row 0 (by simp)) _ rfl).1)
            obtain ⟨a7, c7, rfl⟩ := row_slice o
            have Ru7 := hide rr
            have Bu7 := hide bb
            have Xu7 : Hid (BoxAt u7 g9 nilG 27) := Xu6.out.kept bg (Xu6.out.offT (Ru6.out.row 0 (by simp)) (by decide))
            clear o bg at7 rr bb hHeld Ru6
            refine hK.out _ _ (F.out _ Bu7.out) (fun hHeld => ?_)
            clear hK K
            try simp only [Act.put, List.getElem_toArray, List.getElem_cons_zero, List.getElem_cons_succ, List.setIfInBounds_toArray, List.set_cons_zero, List.set_cons_succ]
            refine wpAnyH_take (i := 8) (v := ?v6) rfl (by kernel_rfl) (by kernel_rfl) (by kernel_rfl) (fun _ _ _ h => h) (Or.inl ⟨by rfl, ?hy6⟩) (by assumption) ?rest6
            case hy6 => (intro w' hSw; dsimp only [List.getElem_toArray, List.getElem_cons_zero, List.getElem_cons_succ] at hSw ⊢; go_simp; try (with_reducible rfl))
            try simp only [Act.put, List.getElem_toArray, List.getElem_cons_zero, List.getElem_cons_succ, List.setIfInBounds_toArray, List.set_cons_zero, List.set_cons_succ]
            refine wpAnyH_ready (rs := [10]) (by kernel_rfl) (by simp) ?_
            refine AllReadyH.cons rfl (fun K hK => ?_) AllReadyH.nil
            obtain ⟨d0, d1, d2⟩ := Xu7.out.c3
            have f0 := Xu7.out.frozen 0
            have f1 := Xu7.out.frozen 1
            have f2 := Xu7.out.frozen 2
            dsimp only [List.getElem_toArray, List.getElem_cons_zero, List.getElem_cons_succ]
            go_simp
            clear d0 d1 d2 f0 f1 f2 hHeld
            have fin := own_fin Ru7.out.swap Xu7.out Bu7.out (by rw [← LO.out]; exact LG.out)
            refine hK.out _ _ (F.out _ fin.2.2) (fun hHeld => ?_)
            clear hK K hHeld
            try simp only [Act.put, List.getElem_toArray, List.getElem_cons_zero, List.getElem_cons_succ, List.setIfInBounds_toArray, List.set_cons_zero, List.set_cons_succ]
            refine wpAnyH_done (by kernel_rfl) ?_ _
            refine NoPanic.normal ?_
            go_wp2_with fail
            go_meet
            exact ⟨V0, g9, a3, c3, a7, c7, _, rfl, fin.1, (by rw [← LO.out]; exact fin.2.1), by simp, fin.2.2, (by rw [← LO.out]; exact LG.out), G0.out⟩
        · dsimp only [List.getElem_toArray, List.getElem_cons_zero, List.getElem_cons_succ]
          go_simp
          have bb := below_box u2 (.cells nilG 27)
          have xx := BoxAt.new u2 nilG 27
          have ll : lo ≤ u2.heap.size := by rw [LO.out]; exact Bu2.out.size
          obtain ⟨g9, hg9⟩ : ∃ g, g = u2.heap.size := ⟨_, rfl⟩
          rw [← hg9] at xx ll ⊢
          clear hg9
          generalize u2.alloc (.cells nilG 27) = u8 at bb xx ⊢
          have Ru8 := hide ((Ru2.out.below bb).wider (Nat.le_refl _) bb.size)
          have Bu8 := hide (Bu2.out.trans (bb.mono Bu2.out.size))
          have Xu8 := hide xx
          have LG := hide ll
          clear bb xx ll hHeld Ru2
          refine hK.out _ _ (F.out _ Bu8.out) (fun hHeld => ?_)
          clear hK K
          try simp only [Act.put, List.getElem_toArray, List.getElem_cons_zero, List.getElem_cons_succ, List.setIfInBounds_toArray, List.set_cons_zero, List.set_cons_succ]
          refine wpAnyH_ready (rs := [4]) (by kernel_rfl) (by simp) ?_
          refine AllReadyH.cons rfl (fun K hK => ?_) (AllReadyH.nil)
          dsimp only [List.getElem_toArray, List.getElem_cons_zero, List.getElem_cons_succ]
          go_simp
          have bb := below_box u8 (.cells #[] 3)
          have rr := Ru8.out.build (Nat.le_refl _) (by rw [LO.out]; exact Bu8.out.size)
          obtain ⟨g4, hg4⟩ : ∃ g, g = u8.heap.size := ⟨_, rfl⟩
          rw [← hg4] at rr ⊢
          clear hg4
          generalize u8.alloc (.cells #[] 3) = u9 at bb rr ⊢
          have Ru9 := hide rr
          have Bu9 := hide (Bu8.out.trans (bb.mono Bu8.out.size))
          have Xu9 := hide (Xu8.out.below bb)
          clear bb rr hHeld Ru8
          refine hK.out _ _ (F.out _ Bu9.out) (fun hHeld => ?_)
          clear hK K
          try simp only [Act.put, List.getElem_toArray, List.getElem_cons_zero, List.getElem_cons_succ, List.setIfInBounds_toArray, List.set_cons_zero, List.set_cons_succ]
          refine wpAnyH_ready (rs := [7]) (by kernel_rfl) (by simp) ?_
          refine AllReadyH.cons rfl (fun K hK => ?_) (AllReadyH.nil)
          refine step_app_int (by rfl) (.tmp 10) (.tmp 12) (by rfl) _ (.slice (some ⟨g4, 0, none⟩) 0 0) (by rfl) [] (Ru9.out.row 0 (by simp)) _ (by rfl) cs (RR.out.2.2.below Bu9.out) (by have h9 := Z.out.2.2; simp only [List.length_nil]; omega) (by rw [LO.out]; exact Bu9.out.size) ?_
          intro v7 u10 o bg at7
          rw [List.nil_append] at o
          have rr := Ru9.out.app 0 (by simp) o bg at7 (Nat.le_refl _)
          have bb : Below V0.heap.size V0 u10 := Bu9.out.grown bg Bu9.out.size (fun k hk => by cases hk; rw [← LO.out]; exact (World.ownsRow.lt (Ru9.out.row 0 (by simp)) _ rfl).1)
          obtain ⟨a7, c7, rfl⟩ := row_slice o
          have Ru10 := hide rr
          have Bu10 := hide bb
          have Xu10 : Hid (BoxAt u10 g9 nilG 27) := Xu9.out.kept bg (Xu9.out.offT (Ru9.out.row 0 (by simp)) (by decide))
          clear o bg at7 rr bb hHeld Ru9
          refine hK.out _ _ (F.out _ Bu10.out) (fun hHeld => ?_)
          clear hK K
          try simp only [Act.put, List.getElem_toArray, List.getElem_cons_zero, List.getElem_cons_succ, List.setIfInBounds_toArray, List.set_cons_zero, List.set_cons_succ]
          refine wpAnyH_take (i := 8) (v := ?v7) rfl (by kernel_rfl) (by kernel_rfl) (by kernel_rfl) (fun _ _ _ h => h) (Or.inl ⟨by rfl, ?hy7⟩) (by assumption) ?rest7
          case hy7 => (intro w' hSw; dsimp only [List.getElem_toArray, List.getElem_cons_zero, List.getElem_cons_succ] at hSw ⊢; go_simp; try (with_reducible rfl))
          try simp only [Act.put, List.getElem_toArray, List.getElem_cons_zero, List.getElem_cons_succ, List.setIfInBounds_toArray, List.set_cons_zero, List.set_cons_succ]
          refine wpAnyH_ready (rs := [10]) (by kernel_rfl) (by simp) ?_
          refine AllReadyH.cons rfl (fun K hK => ?_) AllReadyH.nil
          obtain ⟨d0, d1, d2⟩ := Xu10.out.c3
          have f0 := Xu10.out.frozen 0
          have f1 := Xu10.out.frozen 1
          have f2 := Xu10.out.frozen 2
          dsimp only [List.getElem_toArray, List.getElem_cons_zero, List.getElem_cons_succ]
          go_simp
          clear d0 d1 d2 f0 f1 f2 hHeld
          have fin := own_fin Ru10.out.swap Xu10.out Bu10.out (by rw [← LO.out]; exact LG.out)
          refine hK.out _ _ (F.out _ fin.2.2) (fun hHeld => ?_)
          clear hK K hHeld
          try simp only [Act.put, List.getElem_toArray, List.getElem_cons_zero, List.getElem_cons_succ, List.setIfInBounds_toArray, List.set_cons_zero, List.set_cons_succ]
          refine wpAnyH_done (by kernel_rfl) ?_ _
          refine NoPanic.normal ?_
          go_wp2_with fail
          go_meet
          exact ⟨V0, g9, a3, c3, a7, c7, _, rfl, fin.1, (by rw [← LO.out]; exact fin.2.1), by simp, fin.2.2, (by rw [← LO.out]; exact LG.out), G0.out⟩
      · dsimp only [List.getElem_toArray, List.getElem_cons_zero, List.getElem_cons_succ]
        go_simp
        have bb := below_box u1 (.cells #[] 3)
        have rr := Ru1.out.build (Nat.le_refl _) (by rw [LO.out]; exact Bu1.out.size)
        obtain ⟨g4, hg4⟩ : ∃ g, g = u1.heap.size := ⟨_, rfl⟩
        rw [← hg4] at rr ⊢
        clear hg4
        generalize u1.alloc (.cells #[] 3) = u11 at bb rr ⊢
        have Ru11 := hide rr
        have Bu11 := hide (Bu1.out.trans (bb.mono Bu1.out.size))
        clear bb rr hHeld Ru1
        refine hK.out _ _ (F.out _ Bu11.out) (fun hHeld => ?_)
        clear hK K
        try simp only [Act.put, List.getElem_toArray, List.getElem_cons_zero, List.getElem_cons_succ, List.setIfInBounds_toArray, List.set_cons_zero, List.set_cons_succ]
        refine wpAnyH_ready (rs := [3, 9]) (by kernel_rfl) (by simp) ?_
        refine AllReadyH.cons rfl (fun K hK => ?_) (AllReadyH.cons rfl (fun K hK => ?_) (AllReadyH.nil))
        · refine step_app_int (by rfl) (.tmp 6) (.tmp 8) (by rfl) _ (.slice (some ⟨g0, 0, none⟩) 0 0) (by rfl) [] (Ru11.out.row 1 (by simp)) _ (by rfl) rs (RR.out.2.1.below Bu11.out) (by have h9 := Z.out.2.1; simp only [List.length_nil]; omega) (by rw [LO.out]; exact Bu11.out.size) ?_
          intro v3 u12 o bg at3
          rw [List.nil_append] at o
          have rr := Ru11.out.app 1 (by simp) o bg at3 (Nat.le_refl _)
          have bb : Below V0.heap.size V0 u12 := Bu11.out.grown bg Bu11.out.size (fun k hk => by cases hk; rw [← LO.out]; exact (World.ownsRow.lt (Ru11.out.row 1 (by simp)) _ rfl).1)
          obtain ⟨a3, c3, rfl⟩ := row_slice o
          have Ru12 := hide rr
          have Bu12 := hide bb
          clear o bg at3 rr bb hHeld Ru11
          refine hK.out _ _ (F.out _ Bu12.out) (fun hHeld => ?_)
          clear hK K
          try simp only [Act.put, List.getElem_toArray, List.getElem_cons_zero, List.getElem_cons_succ, List.setIfInBounds_toArray, List.set_cons_zero, List.set_cons_succ]
          refine wpAnyH_ready (rs := [7, 9]) (by kernel_rfl) (by simp) ?_
          refine AllReadyH.cons rfl (fun K hK => ?_) (AllReadyH.cons rfl (fun K hK => ?_) (AllReadyH.nil))
          · refine step_app_int (by rfl) (.tmp 10) (.tmp 12) (by rfl) _ (.slice (some ⟨g4, 0, none⟩) 0 0) (by rfl) [] (Ru12.out.row 0 (by simp)) _ (by rfl) cs (RR.out.2.2.below Bu12.out) (by have h9 := Z.out.2.2; simp only [List.length_nil]; omega) (by rw [LO.out]; exact Bu12.out.size) ?_
            intro v7 u13 o bg at7
            rw [List.nil_append] at o
            have rr := Ru12.out.app 0 (by simp) o bg at7 (Nat.le_refl _)
            have bb : Below V0.heap.size V0 u13 := Bu12.out.grown bg Bu12.out.size (fun k hk => by cases hk; rw [← LO.out]; exact (World.ownsRow.lt (Ru12.out.row 0 (by simp)) _ rfl).1)
            obtain ⟨a7, c7, rfl⟩ := row_slice o
            have Ru13 := hide rr
            have Bu13 := hide bb
            clear o bg at7 rr bb hHeld Ru12
            refine hK.out _ _ (F.out _ Bu13.out) (fun hHeld => ?_)
            clear hK K
            try simp only [Act.put, List.getElem_toArray, List.getElem_cons_zero, List.getElem_cons_succ, List.setIfInBounds_toArray, List.set_cons_zero, List.set_cons_succ]
            refine wpAnyH_take (i := 8) (v := ?v8) rfl (by kernel_rfl) (by kernel_rfl) (by kernel_rfl) (fun _ _ _ h => h) (Or.inl ⟨by rfl, ?hy8⟩) (by assumption) ?rest8
            case hy8 => (intro w' hSw; dsimp only [List.getElem_toArray, List.getElem_cons_zero, List.getElem_cons_succ] at hSw ⊢; go_simp; try (with_reducible rfl))
            try simp only [Act.put, List.getElem_toArray, List.getElem_cons_zero, List.getElem_cons_succ, List.setIfInBounds_toArray, List.set_cons_zero, List.set_cons_succ]
            refine wpAnyH_ready (rs := [9]) (by kernel_rfl) (by simp) ?_
            refine AllReadyH.cons rfl (fun K hK => ?_) (AllReadyH.nil)
            dsimp only [List.getElem_toArray, List.getElem_cons_zero, List.getElem_cons_succ]
            go_simp
            have bb := below_box u13 (.cells nilG 27)
            have xx := BoxAt.new u13 nilG 27
            have ll : lo ≤ u13.heap.size := by rw [LO.out]; exact Bu13.out.size
            obtain ⟨g9, hg9⟩ : ∃ g, g = u13.heap.size := ⟨_, rfl⟩
            rw [← hg9] at xx ll ⊢
            clear hg9
            generalize u13.alloc (.cells nilG 27) = u14 at bb xx ⊢
            have Ru14 := hide ((Ru13.out.below bb).wider (Nat.le_refl _) bb.size)
            have Bu14 := hide (Bu13.out.trans (bb.mono Bu13.out.size))
            have Xu14 := hide xx
            have LG := hide ll
            clear bb xx ll hHeld Ru13
            refine hK.out _ _ (F.out _ Bu14.out) (fun hHeld => ?_)
            clear hK K
            try simp only [Act.put, List.getElem_toArray, List.getElem_cons_zero, List.getElem_cons_succ, List.setIfInBounds_toArray, List.set_cons_zero, List.set_cons_succ]
            refine wpAnyH_ready (rs := [10]) (by kernel_rfl) (by simp) ?_
            refine AllReadyH.cons rfl (fun K hK => ?_) AllReadyH.nil
            obtain ⟨d0, d1, d2⟩ := Xu14.out.c3
            have f0 := Xu14.out.frozen 0
            have f1 := Xu14.out.frozen 1
            have f2 := Xu14.out.frozen 2
            dsimp only [List.getElem_toArray, List.getElem_cons_zero, List.getElem_cons_succ]
            go_simp
            clear d0 d1 d2 f0 f1 f2 hHeld
            have fin := own_fin Ru14.out.swap Xu14.out Bu14.out (by rw [← LO.out]; exact LG.out)
            refine hK.out _ _ (F.out _ fin.2.2) (fun hHeld => ?_)
            clear hK K hHeld
            try simp only [Act.put, List.getElem_toArray, List.getElem_cons_zero, List.getElem_cons_succ, List.setIfInBounds_toArray, List.set_cons_zero, List.set_cons_succ]
            refine wpAnyH_done (by kernel_rfl) ?_ _
            refine NoPanic.normal ?_
            go_wp2_with fail
            go_meet
            exact ⟨V0, g9, a3, c3, a7, c7, _, rfl, fin.1, (by rw [← LO.out]; exact fin.2.1), by simp, fin.2.2, (by rw [← LO.out]; exact LG.out), G0.out⟩
          · dsimp only [List.getElem_toArray, List.getElem_cons_zero, List.getElem_cons_succ]
            go_simp
            have bb := below_box u12 (.cells nilG 27)
            have xx := BoxAt.new u12 nilG 27
            have ll : lo ≤ u12.heap.size := by rw [LO.out]; exact Bu12.out.size
            obtain ⟨g9, hg9⟩ : ∃ g, g = u12.heap.size := ⟨_, rfl⟩
            rw [← hg9] at xx ll ⊢
            clear hg9
            generalize u12.alloc (.cells nilG 27) = u15 at bb xx ⊢
            have Ru15 := hide ((Ru12.out.below bb).wider (Nat.le_refl _) bb.size)
            have Bu15 := hide (Bu12.out.trans (bb.mono Bu12.out.size))
            have Xu15 := hide xx
            have LG := hide ll
            clear bb xx ll hHeld Ru12
            refine hK.out _ _ (F.out _ Bu15.out) (fun hHeld => ?_)
            clear hK K
            try simp only [Act.put, List.getElem_toArray, List.getElem_cons_zero, List.getElem_cons_succ, List.setIfInBounds_toArray, List.set_cons_zero, List.set_cons_succ]
            refine wpAnyH_ready (rs := [7]) (by kernel_rfl) (by simp) ?_
            refine AllReadyH.cons rfl (fun K hK => ?_) (AllReadyH.nil)
            refine step_app_int (by rfl) (.tmp 10) (.tmp 12) (by rfl) _ (.slice (some ⟨g4, 0, none⟩) 0 0) (by rfl) [] (Ru15.out.row 0 (by simp)) _ (by rfl) cs (RR.out.2.2.below Bu15.out) (by have h9 := Z.out.2.2; simp only [List.length_nil]; omega) (by rw [LO.out]; exact Bu15.out.size) ?_
            intro v7 u16 o bg at7
            rw [List.nil_append] at o
            have rr := Ru15.out.app 0 (by simp) o bg at7 (Nat.le_refl _)
            have bb : Below V0.heap.size V0 u16 := Bu15.out.grown bg Bu15.out.size (fun k hk => by cases hk; rw [← LO.out]; exact (World.ownsRow.lt (Ru15.out.row 0 (by simp)) _ rfl).1)
            obtain ⟨a7, c7, rfl⟩ := row_slice o
            have Ru16 := hide rr
            have Bu16 := hide bb
            have Xu16 : Hid (BoxAt u16 g9 nilG 27) := Xu15.out.kept bg (Xu15.out.offT (Ru15.out.row 0 (by simp)) (by decide))
            clear o bg at7 rr bb hHeld Ru15
            refine hK.out _ _ (F.out _ Bu16.out) (fun hHeld => ?_)
            clear hK K
            try simp only [Act.put, List.getElem_toArray, List.getElem_cons_zero, List.getElem_cons_succ, List.setIfInBounds_toArray, List.set_cons_zero, List.set_cons_succ]
            refine wpAnyH_take (i := 8) (v := ?v9) rfl (by kernel_rfl) (by kernel_rfl) (by kernel_rfl) (fun _ _ _ h => h) (Or.inl ⟨by rfl, ?hy9⟩) (by assumption) ?rest9
            case hy9 => (intro w' hSw; dsimp only [List.getElem_toArray, List.getElem_cons_zero, List.getElem_cons_succ] at hSw ⊢; go_simp; try (with_reducible rfl))
            try simp only [Act.put, List.getElem_toArray, List.getElem_cons_zero, List.getElem_cons_succ, List.setIfInBounds_toArray, List.set_cons_zero, List.set_cons_succ]
            refine wpAnyH_ready (rs := [10]) (by kernel_rfl) (by simp) ?_
            refine AllReadyH.cons rfl (fun K hK => ?_) AllReadyH.nil
            obtain ⟨d0, d1, d2⟩ := Xu16.out.c3
            have f0 := Xu16.out.frozen 0
            have f1 := Xu16.out.frozen 1
            have f2 := Xu16.out.frozen 2
            dsimp only [List.getElem_toArray, List.getElem_cons_zero, List.getElem_cons_succ]
            go_simp
            clear d0 d1 d2 f0 f1 f2 hHeld
            have fin := own_fin Ru16.out.swap Xu16.out Bu16.out (by rw [← LO.out]; exact LG.out)
            refine hK.out _ _ (F.out _ fin.2.2) (fun hHeld => ?_)
            clear hK K hHeld
            try simp only [Act.put, List.getElem_toArray, List.getElem_cons_zero, List.getElem_cons_succ, List.setIfInBounds_toArray, List.set_cons_zero, List.set_cons_succ]
            refine wpAnyH_done (by kernel_rfl) ?_ _
            refine NoPanic.normal ?_
            go_wp2_with fail
            go_meet
            exact ⟨V0, g9, a3, c3, a7, c7, _, rfl, fin.1, (by rw [← LO.out]; exact fin.2.1), by simp, fin.2.2, (by rw [← LO.out]; exact LG.out), G0.out⟩
        · dsimp only [List.getElem_toArray, List.getElem_cons_zero, List.getElem_cons_succ]
          go_simp
          have bb := below_box u11 (.cells nilG 27)
          have xx := BoxAt.new u11 nilG 27
          have ll : lo ≤ u11.heap.size := by rw [LO.out]; exact Bu11.out.size
          obtain ⟨g9, hg9⟩ : ∃ g, g = u11.heap.size := ⟨_, rfl⟩
          rw [← hg9] at xx ll ⊢
          clear hg9
          generalize u11.alloc (.cells nilG 27) = u17 at bb xx ⊢
          have Ru17 := hide ((Ru11.out.below bb).wider (Nat.le_refl _) bb.size)
          have Bu17 := hide (Bu11.out.trans (bb.mono Bu11.out.size))
          have Xu17 := hide xx
          have LG := hide ll
          clear bb xx ll hHeld Ru11
          refine hK.out _ _ (F.out _ Bu17.out) (fun hHeld => ?_)
          clear hK K
          try simp only [Act.put, List.getElem_toArray, List.getElem_cons_zero, List.getElem_cons_succ, List.setIfInBounds_toArray, List.set_cons_zero, List.set_cons_succ]
          refine wpAnyH_ready (rs := [3]) (by kernel_rfl) (by simp) ?_
          refine AllReadyH.cons rfl (fun K hK => ?_) (AllReadyH.nil)
          refine step_app_int (by rfl) (.tmp 6) (.tmp 8) (by rfl) _ (.slice (some ⟨g0, 0, none⟩) 0 0) (by rfl) [] (Ru17.out.row 1 (by simp)) _ (by rfl) rs (RR.out.2.1.below Bu17.out) (by have h9 := Z.out.2.1; simp only [List.length_nil]; omega) (by rw [LO.out]; exact Bu17.out.size) ?_
          intro v3 u18 o bg at3
          rw [List.nil_append] at o
          have rr := Ru17.out.app 1 (by simp) o bg at3 (Nat.le_refl _)
          have bb : Below V0.heap.size V0 u18 := Bu17.out.grown bg Bu17.out.size (fun k hk => by cases hk; rw [← LO.out]; exact (World.ownsRow.lt (Ru17.out.row 1 (by simp)) _ rfl).1)
          obtain ⟨a3, c3, rfl⟩ := row_slice o
          have Ru18 := hide rr
          have Bu18 := hide bb
          have Xu18 : Hid (BoxAt u18 g9 nilG 27) := Xu17.out.kept bg (Xu17.out.offT (Ru17.out.row 1 (by simp)) (by decide))
          clear o bg at3 rr bb hHeld Ru17
          refine hK.out _ _ (F.out _ Bu18.out) (fun hHeld => ?_)
          clear hK K
          try simp only [Act.put, List.getElem_toArray, List.getElem_cons_zero, List.getElem_cons_succ, List.setIfInBounds_toArray, List.set_cons_zero, List.set_cons_succ]
          refine wpAnyH_ready (rs := [7]) (by kernel_rfl) (by simp) ?_
          refine AllReadyH.cons rfl (fun K hK => ?_) (AllReadyH.nil)
          refine step_app_int (by rfl) (.tmp 10) (.tmp 12) (by rfl) _ (.slice (some ⟨g4, 0, none⟩) 0 0) (by rfl) [] (Ru18.out.row 0 (by simp)) _ (by rfl) cs (RR.out.2.2.below Bu18.out) (by have h9 := Z.out.2.2; simp only [List.length_nil]; omega) (by rw [LO.out]; exact Bu18.out.size) ?_
          intro v7 u19 o bg at7
          rw [List.nil_append] at o
          have rr := Ru18.out.app 0 (by simp) o bg at7 (Nat.le_refl _)
          have bb : Below V0.heap.size V0 u19 := Bu18.out.grown bg Bu18.out.size (fun k hk => by cases hk; rw [← LO.out]; exact (World.ownsRow.lt (Ru18.out.row 0 (by simp)) _ rfl).1)
          obtain ⟨a7, c7, rfl⟩ := row_slice o
          have Ru19 := hide rr
          have Bu19 := hide bb
          have Xu19 : Hid (BoxAt u19 g9 nilG 27) := Xu18.out.kept bg (Xu18.out.offT (Ru18.out.row 0 (by simp)) (by decide))
          clear o bg at7 rr bb hHeld Ru18
          refine hK.out _ _ (F.out _ Bu19.out) (fun hHeld => ?_)
          clear hK K
          try simp only [Act.put, List.getElem_toArray, List.getElem_cons_zero, List.getElem_cons_succ, List.setIfInBounds_toArray, List.set_cons_zero, List.set_cons_succ]
          refine wpAnyH_take (i := 8) (v := ?v10) rfl (by kernel_rfl) (by kernel_rfl) (by kernel_rfl) (fun _ _ _ h => h) (Or.inl ⟨by rfl, ?hy10⟩) (by assumption) ?rest10
          case hy10 => (intro w' hSw; dsimp only [List.getElem_toArray, List.getElem_cons_zero, List.getElem_cons_succ] at hSw ⊢; go_simp; try (with_reducible rfl))
          try simp only [Act.put, List.getElem_toArray, List.getElem_cons_zero, List.getElem_cons_succ, List.setIfInBounds_toArray, List.set_cons_zero, List.set_cons_succ]
          refine wpAnyH_ready (rs := [10]) (by kernel_rfl) (by simp) ?_
          refine AllReadyH.cons rfl (fun K hK => ?_) AllReadyH.nil
          obtain ⟨d0, d1, d2⟩ := Xu19.out.c3
          have f0 := Xu19.out.frozen 0
          have f1 := Xu19.out.frozen 1
          have f2 := Xu19.out.frozen 2
          dsimp only [List.getElem_toArray, List.getElem_cons_zero, List.getElem_cons_succ]
          go_simp
          clear d0 d1 d2 f0 f1 f2 hHeld
          have fin := own_fin Ru19.out.swap Xu19.out Bu19.out (by rw [← LO.out]; exact LG.out)
          refine hK.out _ _ (F.out _ fin.2.2) (fun hHeld => ?_)
          clear hK K hHeld
          try simp only [Act.put, List.getElem_toArray, List.getElem_cons_zero, List.getElem_cons_succ, List.setIfInBounds_toArray, List.set_cons_zero, List.set_cons_succ]
          refine wpAnyH_done (by kernel_rfl) ?_ _
          refine NoPanic.normal ?_
          go_wp2_with fail
          go_meet
          exact ⟨V0, g9, a3, c3, a7, c7, _, rfl, fin.1, (by rw [← LO.out]; exact fin.2.1), by simp, fin.2.2, (by rw [← LO.out]; exact LG.out), G0.out⟩
      · dsimp only [List.getElem_toArray, List.getElem_cons_zero, List.getElem_cons_succ]
        go_simp
        have bb := below_box u1 (.cells nilG 27)
        have xx := BoxAt.new u1 nilG 27
        have ll : lo ≤ u1.heap.size := by rw [LO.out]; exact Bu1.out.size
        obtain ⟨g9, hg9⟩ : ∃ g, g = u1.heap.size := ⟨_, rfl⟩
        rw [← hg9] at xx ll ⊢
        clear hg9
        generalize u1.alloc (.cells nilG 27) = u20 at bb xx ⊢
        have Ru20 := hide ((Ru1.out.below bb).wider (Nat.le_refl _) bb.size)
        have Bu20 := hide (Bu1.out.trans (bb.mono Bu1.out.size))
        have Xu20 := hide xx
        have LG := hide ll
        clear bb xx ll hHeld Ru1
        refine hK.out _ _ (F.out _ Bu20.out) (fun hHeld => ?_)
        clear hK K
        try simp only [Act.put, List.getElem_toArray, List.getElem_cons_zero, List.getElem_cons_succ, List.setIfInBounds_toArray, List.set_cons_zero, List.set_cons_succ]
        refine wpAnyH_ready (rs := [3, 4]) (by kernel_rfl) (by simp) ?_
        refine AllReadyH.cons rfl (fun K hK => ?_) (AllReadyH.cons rfl (fun K hK => ?_) (AllReadyH.nil))
        · refine step_app_int (by rfl) (.tmp 6) (.tmp 8) (by rfl) _ (.slice (some ⟨g0, 0, none⟩) 0 0) (by rfl) [] (Ru20.out.row 0 (by simp)) _ (by rfl) rs (RR.out.2.1.below Bu20.out) (by have h9 := Z.out.2.1; simp only [List.length_nil]; omega) (by rw [LO.out]; exact Bu20.out.size) ?_
          intro v3 u21 o bg at3
          rw [List.nil_append] at o
          have rr := Ru20.out.app 0 (by simp) o bg at3 (Nat.le_refl _)
          have bb : Below V0.heap.size V0 u21 := Bu20.out.grown bg Bu20.out.size (fun k hk => by cases hk; rw [← LO.out]; exact (World.ownsRow.lt (Ru20.out.row 0 (by simp)) _ rfl).1)
          obtain ⟨a3, c3, rfl⟩ := row_slice o
          have Ru21 := hide rr
          have Bu21 := hide bb
          have Xu21 : Hid (BoxAt u21 g9 nilG 27) := Xu20.out.kept bg (Xu20.out.offT (Ru20.out.row 0 (by simp)) (by decide))
          clear o bg at3 rr bb hHeld Ru20
          refine hK.out _ _ (F.out _ Bu21.out) (fun hHeld => ?_)
          clear hK K
          try simp only [Act.put, List.getElem_toArray, List.getElem_cons_zero, List.getElem_cons_succ, List.setIfInBounds_toArray, List.set_cons_zero, List.set_cons_succ]
          refine wpAnyH_ready (rs := [4]) (by kernel_rfl) (by simp) ?_
          refine AllReadyH.cons rfl (fun K hK => ?_) (AllReadyH.nil)
          dsimp only [List.getElem_toArray, List.getElem_cons_zero, List.getElem_cons_succ]
          go_simp
          have bb := below_box u21 (.cells #[] 3)
          have rr := Ru21.out.build (Nat.le_refl _) (by rw [LO.out]; exact Bu21.out.size)
          obtain ⟨g4, hg4⟩ : ∃ g, g = u21.heap.size := ⟨_, rfl⟩
          rw [← hg4] at rr ⊢
          clear hg4
          generalize u21.alloc (.cells #[] 3) = u22 at bb rr ⊢
          have Ru22 := hide rr
          have Bu22 := hide (Bu21.out.trans (bb.mono Bu21.out.size))
          have Xu22 := hide (Xu21.out.below bb)
          clear bb rr hHeld Ru21
          refine hK.out _ _ (F.out _ Bu22.out) (fun hHeld => ?_)
          clear hK K
          try simp only [Act.put, List.getElem_toArray, List.getElem_cons_zero, List.getElem_cons_succ, List.setIfInBounds_toArray, List.set_cons_zero, List.set_cons_succ]
          refine wpAnyH_ready (rs := [7]) (by kernel_rfl) (by simp) ?_
          refine AllReadyH.cons rfl (fun K hK => ?_) (AllReadyH.nil)
          refine step_app_int (by rfl) (.tmp 10) (.tmp 12) (by rfl) _ (.slice (some ⟨g4, 0, none⟩) 0 0) (by rfl) [] (Ru22.out.row 0 (by simp)) _ (by rfl) cs (RR.out.2.2.below Bu22.out) (by have h9 := Z.out.2.2; simp only [List.length_nil]; omega) (by rw [LO.out]; exact Bu22.out.size) ?_
          intro v7 u23 o bg at7
          rw [List.nil_append] at o
          have rr := Ru22.out.app 0 (by simp) o bg at7 (Nat.le_refl _)
          have bb : Below V0.heap.size V0 u23 := Bu22.out.grown bg Bu22.out.size (fun k hk => by cases hk; rw [← LO.out]; exact (World.ownsRow.lt (Ru22.out.row 0 (by simp)) _ rfl).1)
          obtain ⟨a7, c7, rfl⟩ := row_slice o
          have Ru23 := hide rr
          have Bu23 := hide bb
          have Xu23 : Hid (BoxAt u23 g9 nilG 27) := Xu22.out.kept bg (Xu22.out.offT (Ru22.out.row 0 (by simp)) (by decide))
          clear o bg at7 rr bb hHeld Ru22
          refine hK.out _ _ (F.out _ Bu23.out) (fun hHeld => ?_)
          clear hK K
          try simp only [Act.put, List.getElem_toArray, List.getElem_cons_zero, List.getElem_cons_succ, List.setIfInBounds_toArray, List.set_cons_zero, List.set_cons_succ]
          refine wpAnyH_take (i := 8) (v := ?v11) rfl (by kernel_rfl) (by kernel_rfl) (by kernel_rfl) (fun _ _ _ h => h) (Or.inl ⟨by rfl, ?hy11⟩) (by assumption) ?rest11
          case hy11 => (intro w' hSw; dsimp only [List.getElem_toArray, List.getElem_cons_zero, List.getElem_cons_succ] at hSw ⊢; go_simp; try (with_reducible rfl))
          try simp only [Act.put, List.getElem_toArray, List.getElem_cons_zero, List.getElem_cons_succ, List.setIfInBounds_toArray, List.set_cons_zero, List.set_cons_succ]
          refine wpAnyH_ready (rs := [10]) (by kernel_rfl) (by simp) ?_
          refine AllReadyH.cons rfl (fun K hK => ?_) AllReadyH.nil
          obtain ⟨d0, d1, d2⟩ := Xu23.out.c3
          have f0 := Xu23.out.frozen 0
          have f1 := Xu23.out.frozen 1
          have f2 := Xu23.out.frozen 2
          dsimp only [List.getElem_toArray, List.getElem_cons_zero, List.getElem_cons_succ]
          go_simp
          clear d0 d1 d2 f0 f1 f2 hHeld
          have fin := own_fin Ru23.out.swap Xu23.out Bu23.out (by rw [← LO.out]; exact LG.out)
          refine hK.out _ _ (F.out _ fin.2.2) (fun hHeld => ?_)
          clear hK K hHeld
          try simp only [Act.put, List.getElem_toArray, List.getElem_cons_zero, List.getElem_cons_succ, List.setIfInBounds_toArray, List.set_cons_zero, List.set_cons_succ]
          refine wpAnyH_done (by kernel_rfl) ?_ _
          refine NoPanic.normal ?_
          go_wp2_with fail
          go_meet
          exact ⟨V0, g9, a3, c3, a7, c7, _, rfl, fin.1, (by rw [← LO.out]; exact fin.2.1), by simp, fin.2.2, (by rw [← LO.out]; exact LG.out), G0.out⟩
        · dsimp only [List.getElem_toArray, List.getElem_cons_zero, List.getElem_cons_succ]
          go_simp
          have bb := below_box u20 (.cells #[] 3)
          have rr := Ru20.out.build (Nat.le_refl _) (by rw [LO.out]; exact Bu20.out.size)
          obtain ⟨g4, hg4⟩ : ∃ g, g = u20.heap.size := ⟨_, rfl⟩
          rw [← hg4] at rr ⊢
          clear hg4
          generalize u20.alloc (.cells #[] 3) = u24 at bb rr ⊢
          have Ru24 := hide rr
          have Bu24 := hide (Bu20.out.trans (bb.mono Bu20.out.size))
          have Xu24 := hide (Xu20.out.below bb)
          clear bb rr hHeld Ru20
          refine hK.out _ _ (F.out _ Bu24.out) (fun hHeld => ?_)
          clear hK K
          try simp only [Act.put, List.getElem_toArray, List.getElem_cons_zero, List.getElem_cons_succ, List.setIfInBounds_toArray, List.set_cons_zero, List.set_cons_succ]
          refine wpAnyH_ready (rs := [3]) (by kernel_rfl) (by simp) ?_
          refine AllReadyH.cons rfl (fun K hK => ?_) (AllReadyH.nil)
          refine step_app_int (by rfl) (.tmp 6) (.tmp 8) (by rfl) _ (.slice (some ⟨g0, 0, none⟩) 0 0) (by rfl) [] (Ru24.out.row 1 (by simp)) _ (by rfl) rs (RR.out.2.1.below Bu24.out) (by have h9 := Z.out.2.1; simp only [List.length_nil]; omega) (by rw [LO.out]; exact Bu24.out.size) ?_
          intro v3 u25 o bg at3
          rw [List.nil_append] at o
          have rr := Ru24.out.app 1 (by simp) o bg at3 (Nat.le_refl _)
          have bb : Below V0.heap.size V0 u25 := Bu24.out.grown bg Bu24.out.size (fun k hk => by cases hk; rw [← LO.out]; exact (World.ownsRow.lt (Ru24.out.row 1 (by simp)) _ rfl).1)
          obtain ⟨a3, c3, rfl⟩ := row_slice o
          have Ru25 := hide rr
          have Bu25 := hide bb
          have Xu25 : Hid (BoxAt u25 g9 nilG 27) := Xu24.out.kept bg (Xu24.out.offT (Ru24.out.row 1 (by simp)) (by decide))
          clear o bg at3 rr bb hHeld Ru24
          refine hK.out _ _ (F.out _ Bu25.out) (fun hHeld => ?_)
          clear hK K
          try simp only [Act.put, List.getElem_toArray, List.getElem_cons_zero, List.getElem_cons_succ, List.setIfInBounds_toArray, List.set_cons_zero, List.set_cons_succ]
          refine wpAnyH_ready (rs := [7]) (by kernel_rfl) (by simp) ?_
          refine AllReadyH.cons rfl (fun K hK => ?_) (AllReadyH.nil)
          refine step_app_int (by rfl) (.tmp 10) (.tmp 12) (by rfl) _ (.slice (some ⟨g4, 0, none⟩) 0 0) (by rfl) [] (Ru25.out.row 0 (by simp)) _ (by rfl) cs (RR.out.2.2.below Bu25.out) (by have h9 := Z.out.2.2; simp only [List.length_nil]; omega) (by rw [LO.out]; exact Bu25.out.size) ?_
          intro v7 u26 o bg at7
          rw [List.nil_append] at o
          have rr := Ru25.out.app 0 (by simp) o bg at7 (Nat.le_refl _)
          have bb : Below V0.heap.size V0 u26 := Bu25.out.grown bg Bu25.out.size (fun k hk => by cases hk; rw [← LO.out]; exact (World.ownsRow.lt (Ru25.out.row 0 (by simp)) _ rfl).1)
          obtain ⟨a7, c7, rfl⟩ := row_slice o
          have Ru26 := hide rr
          have Bu26 := hide bb
          have Xu26 : Hid (BoxAt u26 g9 nilG 27) := Xu25.out.kept bg (Xu25.out.offT (Ru25.out.row 0 (by simp)) (by decide))
          clear o bg at7 rr bb hHeld Ru25
          refine hK.out _ _ (F.out _ Bu26.out) (fun hHeld => ?_)
          clear hK K
          try simp only [Act.put, List.getElem_toArray, List.getElem_cons_zero, List.getElem_cons_succ, List.setIfInBounds_toArray, List.set_cons_zero, List.set_cons_succ]
          refine wpAnyH_take (i := 8) (v := ?v12) rfl (by kernel_rfl) (by kernel_rfl) (by kernel_rfl) (fun _ _ _ h => h) (Or.inl ⟨by rfl, ?hy12⟩) (by assumption) ?rest12
          case hy12 => (intro w' hSw; dsimp only [List.getElem_toArray, List.getElem_cons_zero, List.getElem_cons_succ] at hSw ⊢; go_simp; try (with_reducible rfl))
          try simp only [Act.put, List.getElem_toArray, List.getElem_cons_zero, List.getElem_cons_succ, List.setIfInBounds_toArray, List.set_cons_zero, List.set_cons_succ]
          refine wpAnyH_ready (rs := [10]) (by kernel_rfl) (by simp) ?_
          refine AllReadyH.cons rfl (fun K hK => ?_) AllReadyH.nil
          obtain ⟨d0, d1, d2⟩ := Xu26.out.c3
          have f0 := Xu26.out.frozen 0
          have f1 := Xu26.out.frozen 1
          have f2 := Xu26.out.frozen 2
          dsimp only [List.getElem_toArray, List.getElem_cons_zero, List.getElem_cons_succ]
          go_simp
          clear d0 d1 d2 f0 f1 f2 hHeld
          have fin := own_fin Ru26.out.swap Xu26.out Bu26.out (by rw [← LO.out]; exact LG.out)
          refine hK.out _ _ (F.out _ fin.2.2) (fun hHeld => ?_)
          clear hK K hHeld
          try simp only [Act.put, List.getElem_toArray, List.getElem_cons_zero, List.getElem_cons_succ, List.setIfInBounds_toArray, List.set_cons_zero, List.set_cons_succ]
          refine wpAnyH_done (by kernel_rfl) ?_ _
          refine NoPanic.normal ?_
          go_wp2_with fail
          go_meet
          exact ⟨V0, g9, a3, c3, a7, c7, _, rfl, fin.1, (by rw [← LO.out]; exact fin.2.1), by simp, fin.2.2, (by rw [← LO.out]; exact LG.out), G0.out⟩
    · dsimp only [List.getElem_toArray, List.getElem_cons_zero, List.getElem_cons_succ]
      go_simp
      have bb := below_box V0 (.cells #[] 3)
      have rr := RV0.out.build (Nat.le_refl _) (by rw [LO.out]; exact BV0.out.size)
      obtain ⟨g4, hg4⟩ : ∃ g, g = V0.heap.size := ⟨_, rfl⟩
      rw [← hg4] at rr ⊢
      clear hg4
      generalize V0.alloc (.cells #[] 3) = u27 at bb rr ⊢
      have Ru27 := hide rr
      have Bu27 := hide (BV0.out.trans (bb.mono BV0.out.size))
      clear bb rr hHeld RV0
      refine hK.out _ _ (F.out _ Bu27.out) (fun hHeld => ?_)
      clear hK K
      try simp only [Act.put, List.getElem_toArray, List.getElem_cons_zero, List.getElem_cons_succ, List.setIfInBounds_toArray, List.set_cons_zero, List.set_cons_succ]
      refine wpAnyH_ready (rs := [0, 9]) (by kernel_rfl) (by simp) ?_
      refine AllReadyH.cons rfl (fun K hK => ?_) (AllReadyH.cons rfl (fun K hK => ?_) (AllReadyH.nil))
      · dsimp only [List.getElem_toArray, List.getElem_cons_zero, List.getElem_cons_succ]
        go_simp
        have bb := below_box u27 (.cells #[] 3)
        have rr := Ru27.out.build (Nat.le_refl _) (by rw [LO.out]; exact Bu27.out.size)
        obtain ⟨g0, hg0⟩ : ∃ g, g = u27.heap.size := ⟨_, rfl⟩
        rw [← hg0] at rr ⊢
        clear hg0
        generalize u27.alloc (.cells #[] 3) = u28 at bb rr ⊢
        have Ru28 := hide rr
        have Bu28 := hide (Bu27.out.trans (bb.mono Bu27.out.size))
        clear bb rr hHeld Ru27
        refine hK.out _ _ (F.out _ Bu28.out) (fun hHeld => ?_)
        clear hK K
        try simp only [Act.put, List.getElem_toArray, List.getElem_cons_zero, List.getElem_cons_succ, List.setIfInBounds_toArray, List.set_cons_zero, List.set_cons_succ]
        refine wpAnyH_ready (rs := [3, 9]) (by kernel_rfl) (by simp) ?_
        refine AllReadyH.cons rfl (fun K hK => ?_) (AllReadyH.cons rfl (fun K hK => ?_) (AllReadyH.nil))
        · refine step_app_int (by rfl) (.tmp 6) (.tmp 8) (by rfl) _ (.slice (some ⟨g0, 0, none⟩) 0 0) (by rfl) [] (Ru28.out.row 0 (by simp)) _ (by rfl) rs (RR.out.2.1.below Bu28.out) (by have h9 := Z.out.2.1; simp only [List.length_nil]; omega) (by rw [LO.out]; exact Bu28.out.size) ?_
          intro v3 u29 o bg at3
          rw [List.nil_append] at o
          have rr := Ru28.out.app 0 (by simp) o bg at3 (Nat.le_refl _)
          have bb : Below V0.heap.size V0 u29 := Bu28.out.grown bg Bu28.out.size (fun k hk => by cases hk; rw [← LO.out]; exact (World.ownsRow.lt (Ru28.out.row 0 (by simp)) _ rfl).1)
          obtain ⟨a3, c3, rfl⟩ := row_slice o
          have Ru29 := hide rr
          have Bu29 := hide bb
          clear o bg at3 rr bb hHeld Ru28
          refine hK.out _ _ (F.out _ Bu29.out) (fun hHeld => ?_)
          clear hK K
          try simp only [Act.put, List.getElem_toArray, List.getElem_cons_zero, List.getElem_cons_succ, List.setIfInBounds_toArray, List.set_cons_zero, List.set_cons_succ]
          refine wpAnyH_ready (rs := [7, 9]) (by kernel_rfl) (by simp) ?_
          refine AllReadyH.cons rfl (fun K hK => ?_) (AllReadyH.cons rfl (fun K hK => ?_) (AllReadyH.nil))
          · refine step_app_int (by rfl) (.tmp 10) (.tmp 12) (by rfl) _ (.slice (some ⟨g4, 0, none⟩) 0 0) (by rfl) [] (Ru29.out.row 1 (by simp)) _ (by rfl) cs (RR.out.2.2.below Bu29.out) (by have h9 := Z.out.2.2; simp only [List.length_nil]; omega) (by rw [LO.out]; exact Bu29.out.size) ?_
            intro v7 u30 o bg at7
            rw [List.nil_append] at o
            have rr := Ru29.out.app 1 (by simp) o bg at7 (Nat.le_refl _)
            have bb : Below V0.heap.size V0 u30 := Bu29.out.grown bg Bu29.out.size (fun k hk => by cases hk; rw [← LO.out]; exact (World.ownsRow.lt (Ru29.out.row 1 (by simp)) _ rfl).1)
            obtain ⟨a7, c7, rfl⟩ := row_slice o
            have Ru30 := hide rr
            have Bu30 := hide bb
            clear o bg at7 rr bb hHeld Ru29
            refine hK.out _ _ (F.out _ Bu30.out) (fun hHeld => ?_)
            clear hK K
            try simp only [Act.put, List.getElem_toArray, List.getElem_cons_zero, List.getElem_cons_succ, List.setIfInBounds_toArray, List.set_cons_zero, List.set_cons_succ]
            refine wpAnyH_take (i := 8) (v := ?v13) rfl (by kernel_rfl) (by kernel_rfl) (by kernel_rfl) (fun _ _ _ h => h) (Or.inl ⟨by rfl, ?hy13⟩) (by assumption) ?rest13
            case hy13 => (intro w' hSw; dsimp only [List.getElem_toArray, List.getElem_cons_zero, List.getElem_cons_succ] at hSw ⊢; go_simp; try (with_reducible rfl))
            try simp only [Act.put, List.getElem_toArray, List.getElem_cons_zero, List.getElem_cons_succ, List.setIfInBounds_toArray, List.set_cons_zero, List.set_cons_succ]
            refine wpAnyH_ready (rs := [9]) (by kernel_rfl) (by simp) ?_
            refine AllReadyH.cons rfl (fun K hK => ?_) (AllReadyH.nil)
            dsimp only [List.getElem_toArray, List.getElem_cons_zero, List.getElem_cons_succ]
            go_simp
            have bb := below_box u30 (.cells nilG 27)
            have xx := BoxAt.new u30 nilG 27
            have ll : lo ≤ u30.heap.size := by rw [LO.out]; exact Bu30.out.size
            obtain ⟨g9, hg9⟩ : ∃ g, g = u30.heap.size := ⟨_, rfl⟩
            rw [← hg9] at xx ll ⊢
            clear hg9
            generalize u30.alloc (.cells nilG 27) = u31 at bb xx ⊢
            have Ru31 := hide ((Ru30.out.below bb).wider (Nat.le_refl _) bb.size)
            have Bu31 := hide (Bu30.out.trans (bb.mono Bu30.out.size))
            have Xu31 := hide xx
            have LG := hide ll
            clear bb xx ll hHeld Ru30
            refine hK.out _ _ (F.out _ Bu31.out) (fun hHeld => ?_)
            clear hK K
            try simp only [Act.put, List.getElem_toArray, List.getElem_cons_zero, List.getElem_cons_succ, List.setIfInBounds_toArray, List.set_cons_zero, List.set_cons_succ]
            refine wpAnyH_ready (rs := [10]) (by kernel_rfl) (by simp) ?_
            refine AllReadyH.cons rfl (fun K hK => ?_) AllReadyH.nil
            obtain ⟨d0, d1, d2⟩ := Xu31.out.c3
            have f0 := Xu31.out.frozen 0
            have f1 := Xu31.out.frozen 1
            have f2 := Xu31.out.frozen 2
            dsimp only [List.getElem_toArray, List.getElem_cons_zero, List.getElem_cons_succ]
            go_simp
            clear d0 d1 d2 f0 f1 f2 hHeld
            have fin := own_fin Ru31.out Xu31.out Bu31.out (by rw [← LO.out]; exact LG.out)
            refine hK.out _ _ (F.out _ fin.2.2) (fun hHeld => ?_)
            clear hK K hHeld
            try simp only [Act.put, List.getElem_toArray, List.getElem_cons_zero, List.getElem_cons_succ, List.setIfInBounds_toArray, List.set_cons_zero, List.set_cons_succ]
            refine wpAnyH_done (by kernel_rfl) ?_ _
            refine NoPanic.normal ?_
            go_wp2_with fail
            go_meet
            exact ⟨V0, g9, a3, c3, a7, c7, _, rfl, fin.1, (by rw [← LO.out]; exact fin.2.1), by simp, fin.2.2, (by rw [← LO.out]; exact LG.out), G0.out⟩
          · dsimp only [List.getElem_toArray, List.getElem_cons_zero, List.getElem_cons_succ]
            go_simp
            have bb := below_box u29 (.cells nilG 27)
            have xx := BoxAt.new u29 nilG 27
            have ll : lo ≤ u29.heap.size := by rw [LO.out]; exact Bu29.out.size
            obtain ⟨g9, hg9⟩ : ∃ g, g = u29.heap.size := ⟨_, rfl⟩
            rw [← hg9] at xx ll ⊢
            clear hg9
            generalize u29.alloc (.cells nilG 27) = u32 at bb xx ⊢
            have Ru32 := hide ((Ru29.out.below bb).wider (Nat.le_refl _) bb.size)
            have Bu32 := hide (Bu29.out.trans (bb.mono Bu29.out.size))
            have Xu32 := hide xx
            have LG := hide ll
            clear bb xx ll hHeld Ru29
            refine hK.out _ _ (F.out _ Bu32.out) (fun hHeld => ?_)
            clear hK K
            try simp only [Act.put, List.getElem_toArray, List.getElem_cons_zero, List.getElem_cons_succ, List.setIfInBounds_toArray, List.set_cons_zero, List.set_cons_succ]
            refine wpAnyH_ready (rs := [7]) (by kernel_rfl) (by simp) ?_
            refine AllReadyH.cons rfl (fun K hK => ?_) (AllReadyH.nil)
            refine step_app_int (by rfl) (.tmp 10) (.tmp 12) (by rfl) _ (.slice (some ⟨g4, 0, none⟩) 0 0) (by rfl) [] (Ru32.out.row 1 (by simp)) _ (by rfl) cs (RR.out.2.2.below Bu32.out) (by have h9 := Z.out.2.2; simp only [List.length_nil]; omega) (by rw [LO.out]; exact Bu32.out.size) ?_
            intro v7 u33 o bg at7
            rw [List.nil_append] at o
            have rr := Ru32.out.app 1 (by simp) o bg at7 (Nat.le_refl _)
            have bb : Below V0.heap.size V0 u33 := Bu32.out.grown bg Bu32.out.size (fun k hk => by cases hk; rw [← LO.out]; exact (World.ownsRow.lt (Ru32.out.row 1 (by simp)) _ rfl).1)
            obtain ⟨a7, c7, rfl⟩ := row_slice o
            have Ru33 := hide rr
            have Bu33 := hide bb
            have Xu33 : Hid (BoxAt u33 g9 nilG 27) := Xu32.out.kept bg (Xu32.out.offT (Ru32.out.row 1 (by simp)) (by decide))
            clear o bg at7 rr bb hHeld Ru32
            refine hK.out _ _ (F.out _ Bu33.out) (fun hHeld => ?_)
            clear hK K
            try simp only [Act.put, List.getElem_toArray, List.getElem_cons_zero, List.getElem_cons_succ, List.setIfInBounds_toArray, List.set_cons_zero, List.set_cons_succ]
            refine wpAnyH_take (i := 8) (v := ?v14) rfl (by kernel_rfl) (by kernel_rfl) (by kernel_rfl) (fun _ _ _ h => h) (Or.inl ⟨by rfl, ?hy14⟩) (by assumption) ?rest14
            case hy14 => (intro w' hSw; dsimp only [List.getElem_toArray, List.getElem_cons_zero, List.getElem_cons_succ] at hSw ⊢; go_simp; try (with_reducible rfl))
            try simp only [Act.put, List.getElem_toArray, List.getElem_cons_zero, List.getElem_cons_succ, List.setIfInBounds_toArray, List.set_cons_zero, List.set_cons_succ]
            refine wpAnyH_ready (rs := [10]) (by kernel_rfl) (by simp) ?_
            refine AllReadyH.cons rfl (fun K hK => ?_) AllReadyH.nil
            obtain ⟨d0, d1, d2⟩ := Xu33.out.c3
            have f0 := Xu33.out.frozen 0
            have f1 := Xu33.out.frozen 1
            have f2 := Xu33.out.frozen 2
            dsimp only [List.getElem_toArray, List.getElem_cons_zero, List.getElem_cons_succ]
            go_simp
            clear d0 d1 d2 f0 f1 f2 hHeld
            have fin := own_fin Ru33.out Xu33.out Bu33.out (by rw [← LO.out]; exact LG.out)
            refine hK.out _ _ (F.out _ fin.2.2) (fun hHeld => ?_)
            clear hK K hHeld
            try simp only [Act.put, List.getElem_toArray, List.getElem_cons_zero, List.getElem_cons_succ, List.setIfInBounds_toArray, List.set_cons_zero, List.set_cons_succ]
            refine wpAnyH_done (by kernel_rfl) ?_ _
            refine NoPanic.normal ?_
            go_wp2_with fail
            go_meet
            exact ⟨V0, g9, a3, c3, a7, c7, _, rfl, fin.1, (by rw [← LO.out]; exact fin.2.1), by simp, fin.2.2, (by rw [← LO.out]; exact LG.out), G0.out⟩
        · dsimp only [List.getElem_toArray, List.getElem_cons_zero, List.getElem_cons_succ]
          go_simp
          have bb := below_box u28 (.cells nilG 27)
          have xx := BoxAt.new u28 nilG 27
          have ll : lo ≤ u28.heap.size := by rw [LO.out]; exact Bu28.out.size
          obtain ⟨g9, hg9⟩ : ∃ g, g = u28.heap.size := ⟨_, rfl⟩
          rw [← hg9] at xx ll ⊢
          clear hg9
          generalize u28.alloc (.cells nilG 27) = u34 at bb xx ⊢
          have Ru34 := hide ((Ru28.out.below bb).wider (Nat.le_refl _) bb.size)
          have Bu34 := hide (Bu28.out.trans (bb.mono Bu28.out.size))
          have Xu34 := hide xx
          have LG := hide ll
          clear bb xx ll hHeld Ru28
          refine hK.out _ _ (F.out _ Bu34.out) (fun hHeld => ?_)
          clear hK K
          try simp only [Act.put, List.getElem_toArray, List.getElem_cons_zero, List.getElem_cons_succ, List.setIfInBounds_toArray, List.set_cons_zero, List.set_cons_succ]
          refine wpAnyH_ready (rs := [3]) (by kernel_rfl) (by simp) ?_
          refine AllReadyH.cons rfl (fun K hK => ?_) (AllReadyH.nil)
          refine step_app_int (by rfl) (.tmp 6) (.tmp 8) (by rfl) _ (.slice (some ⟨g0, 0, none⟩) 0 0) (by rfl) [] (Ru34.out.row 0 (by simp)) _ (by rfl) rs (RR.out.2.1.below Bu34.out) (by have h9 := Z.out.2.1; simp only [List.length_nil]; omega) (by rw [LO.out]; exact Bu34.out.size) ?_
          intro v3 u35 o bg at3
          rw [List.nil_append] at o
          have rr := Ru34.out.app 0 (by simp) o bg at3 (Nat.le_refl _)
          have bb : Below V0.heap.size V0 u35 := Bu34.out.grown bg Bu34.out.size (fun k hk => by cases hk; rw [← LO.out]; exact (World.ownsRow.lt (Ru34.out.row 0 (by simp)) _ rfl).1)
          obtain ⟨a3, c3, rfl⟩ := row_slice o
          have Ru35 := hide rr
          have Bu35 := hide bb
          have Xu35 : Hid (BoxAt u35 g9 nilG 27) := Xu34.out.kept bg (Xu34.out.offT (Ru34.out.row 0 (by simp)) (by decide))
          clear o bg at3 rr bb hHeld Ru34
          refine hK.out _ _ (F.out _ Bu35.out) (fun hHeld => ?_)
          clear hK K
          try simp only [Act.put, List.getElem_toArray, List.getElem_cons_zero, List.getElem_cons_succ, List.setIfInBounds_toArray, List.set_cons_zero, List.set_cons_succ]
          refine wpAnyH_ready (rs := [7]) (by kernel_rfl) (by simp) ?_
          refine AllReadyH.cons rfl (fun K hK => ?_) (AllReadyH.nil)
          refine step_app_int (by rfl) (.tmp 10) (.tmp 12) (by rfl) _ (.slice (some ⟨g4, 0, none⟩) 0 0) (by rfl) [] (Ru35.out.row 1 (by simp)) _ (by rfl) cs (RR.out.2.2.below Bu35.out) (by have h9 := Z.out.2.2; simp only [List.length_nil]; omega) (by rw [LO.out]; exact Bu35.out.size) ?_
          intro v7 u36 o bg at7
          rw [List.nil_append] at o
          have rr := Ru35.out.app 1 (by simp) o bg at7 (Nat.le_refl _)
          have bb : Below V0.heap.size V0 u36 := Bu35.out.grown bg Bu35.out.size (fun k hk => by cases hk; rw [← LO.out]; exact (World.ownsRow.lt (Ru35.out.row 1 (by simp)) _ rfl).1)
          obtain ⟨a7, c7, rfl⟩ := row_slice o
          have Ru36 := hide rr
          have Bu36 := hide bb
          have Xu36 : Hid (BoxAt u36 g9 nilG 27) := Xu35.out.kept bg (Xu35.out.offT (Ru35.out.row 1 (by simp)) (by decide))
          clear o bg at7 rr bb hHeld Ru35
          refine hK.out _ _ (F.out _ Bu36.out) (fun hHeld => ?_)
          clear hK K
          try simp only [Act.put, List.getElem_toArray, List.getElem_cons_zero, List.getElem_cons_succ, List.setIfInBounds_toArray, List.set_cons_zero, List.set_cons_succ]
          refine wpAnyH_take (i := 8) (v := ?v15) rfl (by kernel_rfl) (by kernel_rfl) (by kernel_rfl) (fun _ _ _ h => h) (Or.inl ⟨by rfl, ?hy15⟩) (by assumption) ?rest15
          case hy15 => (intro w' hSw; dsimp only [List.getElem_toArray, List.getElem_cons_zero, List.getElem_cons_succ] at hSw ⊢; go_simp; try (with_reducible rfl))
          try simp only [Act.put, List.getElem_toArray, List.getElem_cons_zero, List.getElem_cons_succ, List.setIfInBounds_toArray, List.set_cons_zero, List.set_cons_succ]
          refine wpAnyH_ready (rs := [10]) (by kernel_rfl) (by simp) ?_
          refine AllReadyH.cons rfl (fun K hK => ?_) AllReadyH.nil
          obtain ⟨d0, d1, d2⟩ := Xu36.out.c3
          have f0 := Xu36.out.frozen 0
          have f1 := Xu36.out.frozen 1
          have f2 := Xu36.out.frozen 2
          dsimp only [List.getElem_toArray, List.getElem_cons_zero, List.getElem_cons_succ]
          go_simp
          clear d0 d1 d2 f0 f1 f2 hHeld
          have fin := own_fin Ru36.out Xu36.out Bu36.out (by rw [← LO.out]; exact LG.out)
          refine hK.out _ _ (F.out _ fin.2.2) (fun hHeld => ?_)
          clear hK K hHeld
          try simp only [Act.put, List.getElem_toArray, List.getElem_cons_zero, List.getElem_cons_succ, List.setIfInBounds_toArray, List.set_cons_zero, List.set_cons_succ]
          refine wpAnyH_done (by kernel_rfl) ?_ _
          refine NoPanic.normal ?_
          go_wp2_with fail
          go_meet
          exact ⟨V0, g9, a3, c3, a7, c7, _, rfl, fin.1, (by rw [← LO.out]; exact fin.2.1), by simp, fin.2.2, (by rw [← LO.out]; exact LG.out), G0.out⟩
      · dsimp only [List.getElem_toArray, List.getElem_cons_zero, List.getElem_cons_succ]
        go_simp
        have bb := below_box u27 (.cells nilG 27)
        have xx := BoxAt.new u27 nilG 27
        have ll : lo ≤ u27.heap.size := by rw [LO.out]; exact Bu27.out.size
        obtain ⟨g9, hg9⟩ : ∃ g, g = u27.heap.size := ⟨_, rfl⟩
        rw [← hg9] at xx ll ⊢
        clear hg9
        generalize u27.alloc (.cells nilG 27) = u37 at bb xx ⊢
        have Ru37 := hide ((Ru27.out.below bb).wider (Nat.le_refl _) bb.size)
        have Bu37 := hide (Bu27.out.trans (bb.mono Bu27.out.size))
        have Xu37 := hide xx
        have LG := hide ll
        clear bb xx ll hHeld Ru27
        refine hK.out _ _ (F.out _ Bu37.out) (fun hHeld => ?_)
        clear hK K
        try simp only [Act.put, List.getElem_toArray, List.getElem_cons_zero, List.getElem_cons_succ, List.setIfInBounds_toArray, List.set_cons_zero, List.set_cons_succ]
        refine wpAnyH_ready (rs := [0]) (by kernel_rfl) (by simp) ?_
        refine AllReadyH.cons rfl (fun K hK => ?_) (AllReadyH.nil)
        dsimp only [List.getElem_toArray, List.getElem_cons_zero, List.getElem_cons_succ]
        go_simp
        have bb := below_box u37 (.cells #[] 3)
        have rr := Ru37.out.build (Nat.le_refl _) (by rw [LO.out]; exact Bu37.out.size)
        obtain ⟨g0, hg0⟩ : ∃ g, g = u37.heap.size := ⟨_, rfl⟩
        rw [← hg0] at rr ⊢
        clear hg0
        generalize u37.alloc (.cells #[] 3) = u38 at bb rr ⊢
        have Ru38 := hide rr
        have Bu38 := hide (Bu37.out.trans (bb.mono Bu37.out.size))
        have Xu38 := hide (Xu37.out.below bb)
        clear bb rr hHeld Ru37
        refine hK.out _ _ (F.out _ Bu38.out) (fun hHeld => ?_)
        clear hK K
        try simp only [Act.put, List.getElem_toArray, List.getElem_cons_zero, List.getElem_cons_succ, List.setIfInBounds_toArray, List.set_cons_zero, List.set_cons_succ]
        refine wpAnyH_ready (rs := [3]) (by kernel_rfl) (by simp) ?_
        refine AllReadyH.cons rfl (fun K hK => ?_) (AllReadyH.nil)
        refine step_app_int (by rfl) (.tmp 6) (.tmp 8) (by rfl) _ (.slice (some ⟨g0, 0, none⟩) 0 0) (by rfl) [] (Ru38.out.row 0 (by simp)) _ (by rfl) rs (RR.out.2.1.below Bu38.out) (by have h9 := Z.out.2.1; simp only [List.length_nil]; omega) (by rw [LO.out]; exact Bu38.out.size) ?_
        intro v3 u39 o bg at3
        rw [List.nil_append] at o
        have rr := Ru38.out.app 0 (by simp) o bg at3 (Nat.le_refl _)
        have bb : Below V0.heap.size V0 u39 := Bu38.out.grown bg Bu38.out.size (fun k hk => by cases hk; rw [← LO.out]; exact (World.ownsRow.lt (Ru38.out.row 0 (by simp)) _ rfl).1)
        obtain ⟨a3, c3, rfl⟩ := row_slice o
        have Ru39 := hide rr
        have Bu39 := hide bb
        have Xu39 : Hid (BoxAt u39 g9 nilG 27) := Xu38.out.kept bg (Xu38.out.offT (Ru38.out.row 0 (by simp)) (by decide))
        clear o bg at3 rr bb hHeld Ru38
        refine hK.out _ _ (F.out _ Bu39.out) (fun hHeld => ?_)
        clear hK K
        try simp only [Act.put, List.getElem_toArray, List.getElem_cons_zero, List.getElem_cons_succ, List.setIfInBounds_toArray, List.set_cons_zero, List.set_cons_succ]
        refine wpAnyH_ready (rs := [7]) (by kernel_rfl) (by simp) ?_
        refine AllReadyH.cons rfl (fun K hK => ?_) (AllReadyH.nil)
        refine step_app_int (by rfl) (.tmp 10) (.tmp 12) (by rfl) _ (.slice (some ⟨g4, 0, none⟩) 0 0) (by rfl) [] (Ru39.out.row 1 (by simp)) _ (by rfl) cs (RR.out.2.2.below Bu39.out) (by have h9 := Z.out.2.2; simp only [List.length_nil]; omega) (by rw [LO.out]; exact Bu39.out.size) ?_
        intro v7 u40 o bg at7
        rw [List.nil_append] at o
        have rr := Ru39.out.app 1 (by simp) o bg at7 (Nat.le_refl _)
        have bb : Below V0.heap.size V0 u40 := Bu39.out.grown bg Bu39.out.size (fun k hk => by cases hk; rw [← LO.out]; exact (World.ownsRow.lt (Ru39.out.row 1 (by simp)) _ rfl).1)
        obtain ⟨a7, c7, rfl⟩ := row_slice o
        have Ru40 := hide rr
        have Bu40 := hide bb
        have Xu40 : Hid (BoxAt u40 g9 nilG 27) := Xu39.out.kept bg (Xu39.out.offT (Ru39.out.row 1 (by simp)) (by decide))
        clear o bg at7 rr bb hHeld Ru39
        refine hK.out _ _ (F.out _ Bu40.out) (fun hHeld => ?_)
        clear hK K
        try simp only [Act.put, List.getElem_toArray, List.getElem_cons_zero, List.getElem_cons_succ, List.setIfInBounds_toArray, List.set_cons_zero, List.set_cons_succ]
        refine wpAnyH_take (i := 8) (v := ?v16) rfl (by kernel_rfl) (by kernel_rfl) (by kernel_rfl) (fun _ _ _ h => h) (Or.inl ⟨by rfl, ?hy16⟩) (by assumption) ?rest16
        case hy16 => (intro w' hSw; dsimp only [List.getElem_toArray, List.getElem_cons_zero, List.getElem_cons_succ] at hSw ⊢; go_simp; try (with_reducible rfl))
        try simp only [Act.put, List.getElem_toArray, List.getElem_cons_zero, List.getElem_cons_succ, List.setIfInBounds_toArray, List.set_cons_zero, List.set_cons_succ]
        refine wpAnyH_ready (rs := [10]) (by kernel_rfl) (by simp) ?_
        refine AllReadyH.cons rfl (fun K hK => ?_) AllReadyH.nil
        obtain ⟨d0, d1, d2⟩ := Xu40.out.c3
        have f0 := Xu40.out.frozen 0
        have f1 := Xu40.out.frozen 1
        have f2 := Xu40.out.frozen 2
        dsimp only [List.getElem_toArray, List.getElem_cons_zero, List.getElem_cons_succ]
        go_simp
        clear d0 d1 d2 f0 f1 f2 hHeld
        have fin := own_fin Ru40.out Xu40.out Bu40.out (by rw [← LO.out]; exact LG.out)
        refine hK.out _ _ (F.out _ fin.2.2) (fun hHeld => ?_)
        clear hK K hHeld
        try simp only [Act.put, List.getElem_toArray, List.getElem_cons_zero, List.getElem_cons_succ, List.setIfInBounds_toArray, List.set_cons_zero, List.set_cons_succ]
        refine wpAnyH_done (by kernel_rfl) ?_ _
        refine NoPanic.normal ?_
        go_wp2_with fail
        go_meet
        exact ⟨V0, g9, a3, c3, a7, c7, _, rfl, fin.1, (by rw [← LO.out]; exact fin.2.1), by simp, fin.2.2, (by rw [← LO.out]; exact LG.out), G0.out⟩
    · dsimp only [List.getElem_toArray, List.getElem_cons_zero, List.getElem_cons_succ]
      go_simp
      have bb := below_box V0 (.cells nilG 27)
      have xx := BoxAt.new V0 nilG 27
      have ll : lo ≤ V0.heap.size := by rw [LO.out]; exact BV0.out.size
      obtain ⟨g9, hg9⟩ : ∃ g, g = V0.heap.size := ⟨_, rfl⟩
      rw [← hg9] at xx ll ⊢
      clear hg9
      generalize V0.alloc (.cells nilG 27) = u41 at bb xx ⊢
      have Ru41 := hide ((RV0.out.below bb).wider (Nat.le_refl _) bb.size)
      have Bu41 := hide (BV0.out.trans (bb.mono BV0.out.size))
      have Xu41 := hide xx
      have LG := hide ll
      clear bb xx ll hHeld RV0
      refine hK.out _ _ (F.out _ Bu41.out) (fun hHeld => ?_)
      clear hK K
      try simp only [Act.put, List.getElem_toArray, List.getElem_cons_zero, List.getElem_cons_succ, List.setIfInBounds_toArray, List.set_cons_zero, List.set_cons_succ]
      refine wpAnyH_ready (rs := [0, 4]) (by kernel_rfl) (by simp) ?_
      refine AllReadyH.cons rfl (fun K hK => ?_) (AllReadyH.cons rfl (fun K hK => ?_) (AllReadyH.nil))
      · dsimp only [List.getElem_toArray, List.getElem_cons_zero, List.getElem_cons_succ]
        go_simp
        have bb := below_box u41 (.cells #[] 3)
        have rr := Ru41.out.build (Nat.le_refl _) (by rw [LO.out]; exact Bu41.out.size)
        obtain ⟨g0, hg0⟩ : ∃ g, g = u41.heap.size := ⟨_, rfl⟩
        rw [← hg0] at rr ⊢
        clear hg0
        generalize u41.alloc (.cells #[] 3) = u42 at bb rr ⊢
        have Ru42 := hide rr
        have Bu42 := hide (Bu41.out.trans (bb.mono Bu41.out.size))
        have Xu42 := hide (Xu41.out.below bb)
        clear bb rr hHeld Ru41
        refine hK.out _ _ (F.out _ Bu42.out) (fun hHeld => ?_)
        clear hK K
        try simp only [Act.put, List.getElem_toArray, List.getElem_cons_zero, List.getElem_cons_succ, List.setIfInBounds_toArray, List.set_cons_zero, List.set_cons_succ]
        refine wpAnyH_ready (rs := [3, 4]) (by kernel_rfl) (by simp) ?_
        refine AllReadyH.cons rfl (fun K hK => ?_) (AllReadyH.cons rfl (fun K hK => ?_) (AllReadyH.nil))
        · refine step_app_int (by rfl) (.tmp 6) (.tmp 8) (by rfl) _ (.slice (some ⟨g0, 0, none⟩) 0 0) (by rfl) [] (Ru42.out.row 0 (by simp)) _ (by rfl) rs (RR.out.2.1.below Bu42.out) (by have h9 := Z.out.2.1; simp only [List.length_nil]; omega) (by rw [LO.out]; exact Bu42.out.size) ?_
          intro v3 u43 o bg at3
          rw [List.nil_append] at o
          have rr := Ru42.out.app 0 (by simp) o bg at3 (Nat.le_refl _)
          have bb : Below V0.heap.size V0 u43 := Bu42.out.grown bg Bu42.out.size (fun k hk => by cases hk; rw [← LO.out]; exact (World.ownsRow.lt (Ru42.out.row 0 (by simp)) _ rfl).1)
          obtain ⟨a3, c3, rfl⟩ := row_slice o
          have Ru43 := hide rr
          have Bu43 := hide bb
          have Xu43 : Hid (BoxAt u43 g9 nilG 27) := Xu42.out.kept bg (Xu42.out.offT (Ru42.out.row 0 (by simp)) (by decide))
          clear o bg at3 rr bb hHeld Ru42
          refine hK.out _ _ (F.out _ Bu43.out) (fun hHeld => ?_)
          clear hK K
          try simp only [Act.put, List.getElem_toArray, List.getElem_cons_zero, List.getElem_cons_succ, List.setIfInBounds_toArray, List.set_cons_zero, List.set_cons_succ]
          refine wpAnyH_ready (rs := [4]) (by kernel_rfl) (by simp) ?_
          refine AllReadyH.cons rfl (fun K hK => ?_) (AllReadyH.nil)
          dsimp only [List.getElem_toArray, List.getElem_cons_zero, List.getElem_cons_succ]
          go_simp
          have bb := below_box u43 (.cells #[] 3)
          have rr := Ru43.out.build (Nat.le_refl _) (by rw [LO.out]; exact Bu43.out.size)
          obtain ⟨g4, hg4⟩ : ∃ g, g = u43.heap.size := ⟨_, rfl⟩
          rw [← hg4] at rr ⊢
          clear hg4
          generalize u43.alloc (.cells #[] 3) = u44 at bb rr ⊢
          have Ru44 := hide rr
          have Bu44 := hide (Bu43.out.trans (bb.mono Bu43.out.size))
          have Xu44 := hide (Xu43.out.below bb)
          clear bb rr hHeld Ru43
          refine hK.out _ _ (F.out _ Bu44.out) (fun hHeld => ?_)
          clear hK K
          try simp only [Act.put, List.getElem_toArray, List.getElem_cons_zero, List.getElem_cons_succ, List.setIfInBounds_toArray, List.set_cons_zero, List.set_cons_succ]
          refine wpAnyH_ready (rs := [7]) (by kernel_rfl) (by simp) ?_
          refine AllReadyH.cons rfl (fun K hK => ?_) (AllReadyH.nil)
          refine step_app_int (by rfl) (.tmp 10) (.tmp 12) (by rfl) _ (.slice (some ⟨g4, 0, none⟩) 0 0) (by rfl) [] (Ru44.out.row 0 (by simp)) _ (by rfl) cs (RR.out.2.2.below Bu44.out) (by have h9 := Z.out.2.2; simp only [List.length_nil]; omega) (by rw [LO.out]; exact Bu44.out.size) ?_
          intro v7 u45 o bg at7
          rw [List.nil_append] at o
          have rr := Ru44.out.app 0 (by simp) o bg at7 (Nat.le_refl _)
          have bb : Below V0.heap.size V0 u45 := Bu44.out.grown bg Bu44.out.size (fun k hk => by cases hk; rw [← LO.out]; exact (World.ownsRow.lt (Ru44.out.row 0 (by simp)) _ rfl).1)
          obtain ⟨a7, c7, rfl⟩ := row_slice o
          have Ru45 := hide rr
          have Bu45 := hide bb
          have Xu45 : Hid (BoxAt u45 g9 nilG 27) := Xu44.out.kept bg (Xu44.out.offT (Ru44.out.row 0 (by simp)) (by decide))
          clear o bg at7 rr bb hHeld Ru44
          refine hK.out _ _ (F.out _ Bu45.out) (fun hHeld => ?_)
          clear hK K
          try simp only [Act.put, List.getElem_toArray, List.getElem_cons_zero, List.getElem_cons_succ, List.setIfInBounds_toArray, List.set_cons_zero, List.set_cons_succ]
          refine wpAnyH_take (i := 8) (v := ?v17) rfl (by kernel_rfl) (by kernel_rfl) (by kernel_rfl) (fun _ _ _ h => h) (Or.inl ⟨by rfl, ?hy17⟩) (by assumption) ?rest17
          case hy17 => (intro w' hSw; dsimp only [List.getElem_toArray, List.getElem_cons_zero, List.getElem_cons_succ] at hSw ⊢; go_simp; try (with_reducible rfl))
          try simp only [Act.put, List.getElem_toArray, List.getElem_cons_zero, List.getElem_cons_succ, List.setIfInBounds_toArray, List.set_cons_zero, List.set_cons_succ]
          refine wpAnyH_ready (rs := [10]) (by kernel_rfl) (by simp) ?_
          refine AllReadyH.cons rfl (fun K hK => ?_) AllReadyH.nil
          obtain ⟨d0, d1, d2⟩ := Xu45.out.c3
          have f0 := Xu45.out.frozen 0
          have f1 := Xu45.out.frozen 1
          have f2 := Xu45.out.frozen 2
          dsimp only [List.getElem_toArray, List.getElem_cons_zero, List.getElem_cons_succ]
          go_simp
          clear d0 d1 d2 f0 f1 f2 hHeld
          have fin := own_fin Ru45.out.swap Xu45.out Bu45.out (by rw [← LO.out]; exact LG.out)
          refine hK.out _ _ (F.out _ fin.2.2) (fun hHeld => ?_)
          clear hK K hHeld
          try simp only [Act.put, List.getElem_toArray, List.getElem_cons_zero, List.getElem_cons_succ, List.setIfInBounds_toArray, List.set_cons_zero, List.set_cons_succ]
          refine wpAnyH_done (by kernel_rfl) ?_ _
          refine NoPanic.normal ?_
          go_wp2_with fail
          go_meet
          exact ⟨V0, g9, a3, c3, a7, c7, _, rfl, fin.1, (by rw [← LO.out]; exact fin.2.1), by simp, fin.2.2, (by rw [← LO.out]; exact LG.out), G0.out⟩
        · dsimp only [List.getElem_toArray, List.getElem_cons_zero, List.getElem_cons_succ]
          go_simp
          have bb := below_box u42 (.cells #[] 3)
          have rr := Ru42.out.build (Nat.le_refl _) (by rw [LO.out]; exact Bu42.out.size)
          obtain ⟨g4, hg4⟩ : ∃ g, g = u42.heap.size := ⟨_, rfl⟩
          rw [← hg4] at rr ⊢
          clear hg4
          generalize u42.alloc (.cells #[] 3) = u46 at bb rr ⊢
          have Ru46 := hide rr
          have Bu46 := hide (Bu42.out.trans (bb.mono Bu42.out.size))
          have Xu46 := hide (Xu42.out.below bb)
          clear bb rr hHeld Ru42
          refine hK.out _ _ (F.out _ Bu46.out) (fun hHeld => ?_)
          clear hK K
          try simp only [Act.put, List.getElem_toArray, List.getElem_cons_zero, List.getElem_cons_succ, List.setIfInBounds_toArray, List.set_cons_zero, List.set_cons_succ]
          refine wpAnyH_ready (rs := [3]) (by kernel_rfl) (by simp) ?_
          refine AllReadyH.cons rfl (fun K hK => ?_) (AllReadyH.nil)
          refine step_app_int (by rfl) (.tmp 6) (.tmp 8) (by rfl) _ (.slice (some ⟨g0, 0, none⟩) 0 0) (by rfl) [] (Ru46.out.row 1 (by simp)) _ (by rfl) rs (RR.out.2.1.below Bu46.out) (by have h9 := Z.out.2.1; simp only [List.length_nil]; omega) (by rw [LO.out]; exact Bu46.out.size) ?_
          intro v3 u47 o bg at3
          rw [List.nil_append] at o
          have rr := Ru46.out.app 1 (by simp) o bg at3 (Nat.le_refl _)
          have bb : Below V0.heap.size V0 u47 := Bu46.out.grown bg Bu46.out.size (fun k hk => by cases hk; rw [← LO.out]; exact (World.ownsRow.lt (Ru46.out.row 1 (by simp)) _ rfl).1)
          obtain ⟨a3, c3, rfl⟩ := row_slice o
          have Ru47 := hide rr
          have Bu47 := hide bb
          have Xu47 : Hid (BoxAt u47 g9 nilG 27) := Xu46.out.kept bg (Xu46.out.offT (Ru46.out.row 1 (by simp)) (by decide))
          clear o bg at3 rr bb hHeld Ru46
          refine hK.out _ _ (F.out _ Bu47.out) (fun hHeld => ?_)
          clear hK K
          try simp only [Act.put, List.getElem_toArray, List.getElem_cons_zero, List.getElem_cons_succ, List.setIfInBounds_toArray, List.set_cons_zero, List.set_cons_succ]
          refine wpAnyH_ready (rs := [7]) (by kernel_rfl) (by simp) ?_
          refine AllReadyH.cons rfl (fun K hK => ?_) (AllReadyH.nil)
          refine step_app_int (by rfl) (.tmp 10) (.tmp 12) (by rfl) _ (.slice (some ⟨g4, 0, none⟩) 0 0) (by rfl) [] (Ru47.out.row 0 (by simp)) _ (by rfl) cs (RR.out.2.2.below Bu47.out) (by have h9 := Z.out.2.2; simp only [List.length_nil]; omega) (by rw [LO.out]; exact Bu47.out.size) ?_
          intro v7 u48 o bg at7
          rw [List.nil_append] at o
          have rr := Ru47.out.app 0 (by simp) o bg at7 (Nat.le_refl _)
          have bb : Below V0.heap.size V0 u48 := Bu47.out.grown bg Bu47.out.size (fun k hk => by cases hk; rw [← LO.out]; exact (World.ownsRow.lt (Ru47.out.row 0 (by simp)) _ rfl).1)
          obtain ⟨a7, c7, rfl⟩ := row_slice o
          have Ru48 := hide rr
          have Bu48 := hide bb
          have Xu48 : Hid (BoxAt u48 g9 nilG 27) := Xu47.out.kept bg (Xu47.out.offT (Ru47.out.row 0 (by simp)) (by decide))
          clear o bg at7 rr bb hHeld Ru47
          refine hK.out _ _ (F.out _ Bu48.out) (fun hHeld => ?_)
          clear hK K
          try simp only [Act.put, List.getElem_toArray, List.getElem_cons_zero, List.getElem_cons_succ, List.setIfInBounds_toArray, List.set_cons_zero, List.set_cons_succ]
          refine wpAnyH_take (i := 8) (v := ?v18) rfl (by kernel_rfl) (by kernel_rfl) (by kernel_rfl) (fun _ _ _ h => h) (Or.inl ⟨by rfl, ?hy18⟩) (by assumption) ?rest18
          case hy18 => (intro w' hSw; dsimp only [List.getElem_toArray, List.getElem_cons_zero, List.getElem_cons_succ] at hSw ⊢; go_simp; try (with_reducible rfl))
          try simp only [Act.put, List.getElem_toArray, List.getElem_cons_zero, List.getElem_cons_succ, List.setIfInBounds_toArray, List.set_cons_zero, List.set_cons_succ]
          refine wpAnyH_ready (rs := [10]) (by kernel_rfl) (by simp) ?_
          refine AllReadyH.cons rfl (fun K hK => ?_) AllReadyH.nil
          obtain ⟨d0, d1, d2⟩ := Xu48.out.c3
          have f0 := Xu48.out.frozen 0
          have f1 := Xu48.out.frozen 1
          have f2 := Xu48.out.frozen 2
          dsimp only [List.getElem_toArray, List.getElem_cons_zero, List.getElem_cons_succ]
          go_simp
          clear d0 d1 d2 f0 f1 f2 hHeld
          have fin := own_fin Ru48.out.swap Xu48.out Bu48.out (by rw [← LO.out]; exact LG.out)
          refine hK.out _ _ (F.out _ fin.2.2) (fun hHeld => ?_)
          clear hK K hHeld
          try simp only [Act.put, List.getElem_toArray, List.getElem_cons_zero, List.getElem_cons_succ, List.setIfInBounds_toArray, List.set_cons_zero, List.set_cons_succ]
          refine wpAnyH_done (by kernel_rfl) ?_ _
          refine NoPanic.normal ?_
          go_wp2_with fail
          go_meet
          exact ⟨V0, g9, a3, c3, a7, c7, _, rfl, fin.1, (by rw [← LO.out]; exact fin.2.1), by simp, fin.2.2, (by rw [← LO.out]; exact LG.out), G0.out⟩
      · dsimp only [List.getElem_toArray, List.getElem_cons_zero, List.getElem_cons_succ]
        go_simp
        have bb := below_box u41 (.cells #[] 3)
        have rr := Ru41.out.build (Nat.le_refl _) (by rw [LO.out]; exact Bu41.out.size)
        obtain ⟨g4, hg4⟩ : ∃ g, g = u41.heap.size := ⟨_, rfl⟩
        rw [← hg4] at rr ⊢
        clear hg4
        generalize u41.alloc (.cells #[] 3) = u49 at bb rr ⊢
        have Ru49 := hide rr
        have Bu49 := hide (Bu41.out.trans (bb.mono Bu41.out.size))
        have Xu49 := hide (Xu41.out.below bb)
        clear bb rr hHeld Ru41
        refine hK.out _ _ (F.out _ Bu49.out) (fun hHeld => ?_)
        clear hK K
        try simp only [Act.put, List.getElem_toArray, List.getElem_cons_zero, List.getElem_cons_succ, List.setIfInBounds_toArray, List.set_cons_zero, List.set_cons_succ]
        refine wpAnyH_ready (rs := [0]) (by kernel_rfl) (by simp) ?_
        refine AllReadyH.cons rfl (fun K hK => ?_) (AllReadyH.nil)
        dsimp only [List.getElem_toArray, List.getElem_cons_zero, List.getElem_cons_succ]
        go_simp
        have bb := below_box u49 (.cells #[] 3)
        have rr := Ru49.out.build (Nat.le_refl _) (by rw [LO.out]; exact Bu49.out.size)
        obtain ⟨g0, hg0⟩ : ∃ g, g = u49.heap.size := ⟨_, rfl⟩
        rw [← hg0] at rr ⊢
        clear hg0
        generalize u49.alloc (.cells #[] 3) = u50 at bb rr ⊢
        have Ru50 := hide rr
        have Bu50 := hide (Bu49.out.trans (bb.mono Bu49.out.size))
        have Xu50 := hide (Xu49.out.below bb)
        clear bb rr hHeld Ru49
        refine hK.out _ _ (F.out _ Bu50.out) (fun hHeld => ?_)
        clear hK K
        try simp only [Act.put, List.getElem_toArray, List.getElem_cons_zero, List.getElem_cons_succ, List.setIfInBounds_toArray, List.set_cons_zero, List.set_cons_succ]
        refine wpAnyH_ready (rs := [3]) (by kernel_rfl) (by simp) ?_
        refine AllReadyH.cons rfl (fun K hK => ?_) (AllReadyH.nil)
        refine step_app_int (by rfl) (.tmp 6) (.tmp 8) (by rfl) _ (.slice (some ⟨g0, 0, none⟩) 0 0) (by rfl) [] (Ru50.out.row 0 (by simp)) _ (by rfl) rs (RR.out.2.1.below Bu50.out) (by have h9 := Z.out.2.1; simp only [List.length_nil]; omega) (by rw [LO.out]; exact Bu50.out.size) ?_
        intro v3 u51 o bg at3
        rw [List.nil_append] at o
        have rr := Ru50.out.app 0 (by simp) o bg at3 (Nat.le_refl _)
        have bb : Below V0.heap.size V0 u51 := Bu50.out.grown bg Bu50.out.size (fun k hk => by cases hk; rw [← LO.out]; exact (World.ownsRow.lt (Ru50.out.row 0 (by simp)) _ rfl).1)
        obtain ⟨a3, c3, rfl⟩ := row_slice o
        have Ru51 := hide rr
        have Bu51 := hide bb
        have Xu51 : Hid (BoxAt u51 g9 nilG 27) := Xu50.out.kept bg (Xu50.out.offT (Ru50.out.row 0 (by simp)) (by decide))
        clear o bg at3 rr bb hHeld Ru50
        refine hK.out _ _ (F.out _ Bu51.out) (fun hHeld => ?_)
        clear hK K
        try simp only [Act.put, List.getElem_toArray, List.getElem_cons_zero, List.getElem_cons_succ, List.setIfInBounds_toArray, List.set_cons_zero, List.set_cons_succ]
        refine wpAnyH_ready (rs := [7]) (by kernel_rfl) (by simp) ?_
        refine AllReadyH.cons rfl (fun K hK => ?_) (AllReadyH.nil)
        refine step_app_int (by rfl) (.tmp 10) (.tmp 12) (by rfl) _ (.slice (some ⟨g4, 0, none⟩) 0 0) (by rfl) [] (Ru51.out.row 1 (by simp)) _ (by rfl) cs (RR.out.2.2.below Bu51.out) (by have h9 := Z.out.2.2; simp only [List.length_nil]; omega) (by rw [LO.out]; exact Bu51.out.size) ?_
        intro v7 u52 o bg at7
        rw [List.nil_append] at o
        have rr := Ru51.out.app 1 (by simp) o bg at7 (Nat.le_refl _)
        have bb : Below V0.heap.size V0 u52 := Bu51.out.grown bg Bu51.out.size (fun k hk => by cases hk; rw [← LO.out]; exact (World.ownsRow.lt (Ru51.out.row 1 (by simp)) _ rfl).1)
        obtain ⟨a7, c7, rfl⟩ := row_slice o
        have Ru52 := hide rr
        have Bu52 := hide bb
        have Xu52 : Hid (BoxAt u52 g9 nilG 27) := Xu51.out.kept bg (Xu51.out.offT (Ru51.out.row 1 (by simp)) (by decide))
        clear o bg at7 rr bb hHeld Ru51
        refine hK.out _ _ (F.out _ Bu52.out) (fun hHeld => ?_)
        clear hK K
        try simp only [Act.put, List.getElem_toArray, List.getElem_cons_zero, List.getElem_cons_succ, List.setIfInBounds_toArray, List.set_cons_zero, List.set_cons_succ]
        refine wpAnyH_take (i := 8) (v := ?v19) rfl (by kernel_rfl) (by kernel_rfl) (by kernel_rfl) (fun _ _ _ h => h) (Or.inl ⟨by rfl, ?hy19⟩) (by assumption) ?rest19
        case hy19 => (intro w' hSw; dsimp only [List.getElem_toArray, List.getElem_cons_zero, List.getElem_cons_succ] at hSw ⊢; go_simp; try (with_reducible rfl))
        try simp only [Act.put, List.getElem_toArray, List.getElem_cons_zero, List.getElem_cons_succ, List.setIfInBounds_toArray, List.set_cons_zero, List.set_cons_succ]
        refine wpAnyH_ready (rs := [10]) (by kernel_rfl) (by simp) ?_
        refine AllReadyH.cons rfl (fun K hK => ?_) AllReadyH.nil
        obtain ⟨d0, d1, d2⟩ := Xu52.out.c3
        have f0 := Xu52.out.frozen 0
        have f1 := Xu52.out.frozen 1
        have f2 := Xu52.out.frozen 2
        dsimp only [List.getElem_toArray, List.getElem_cons_zero, List.getElem_cons_succ]
        go_simp
        clear d0 d1 d2 f0 f1 f2 hHeld
        have fin := own_fin Ru52.out Xu52.out Bu52.out (by rw [← LO.out]; exact LG.out)
        refine hK.out _ _ (F.out _ fin.2.2) (fun hHeld => ?_)
        clear hK K hHeld
        try simp only [Act.put, List.getElem_toArray, List.getElem_cons_zero, List.getElem_cons_succ, List.setIfInBounds_toArray, List.set_cons_zero, List.set_cons_succ]
        refine wpAnyH_done (by kernel_rfl) ?_ _
        refine NoPanic.normal ?_
        go_wp2_with fail
        go_meet
        exact ⟨V0, g9, a3, c3, a7, c7, _, rfl, fin.1, (by rw [← LO.out]; exact fin.2.1), by simp, fin.2.2, (by rw [← LO.out]; exact LG.out), G0.out⟩
  case rest =>
    obtain ⟨V0, g9, a3, c3, a7, c7, hi, rfl, hx, hr, hh, hb, hg, hA⟩ := hcut
    have N0 : Hid (NdV wc V0.heap.size wc.heap.size nilRow [.slice a3 rs.length c3, .slice a7 cs.length c7] [] [rs, cs] []) := ⟨World.ownsRow_nil _ _ _ _, fun k hk => by simp [Value.ownBlock] at hk, rfl, hr.wider (Nat.le_refl _) hh⟩
    have X0 := hide hx
    have B0 := hide hb
    have HA := hide hA
    have HG := hide hg
    obtain ⟨e0, e1, e2⟩ := ((HA.out.step B0.out).atBox 1 rfl).c3
    clear hx hr hh hb hg hA A0
    go_wp2
    go_loopw [18] (fun vi wr => ∃ (k : Nat) (va : Option Addr) (vc : Nat) (us : List Value), k ≤ m.length ∧ vi = .int .i64 k ∧ NdV wr V0.heap.size wr.heap.size (.slice va k vc) [.slice a3 rs.length c3, .slice a7 cs.length c7] us [rs, cs] (m.take k) ∧ BoxAt wr g9 #[.slice va k vc, .slice a3 rs.length c3, .slice a7 cs.length c7] 27 ∧ Below V0.heap.size V0 wr) (fun vi _ => m.length - (intOf vi).toNat)
    case atStart => exact ⟨0, none, 0, [], Nat.zero_le _, rfl, by simpa using N0.out, X0.out, B0.out⟩
    case round =>
      obtain ⟨k, va, vc, us, hk, rfl, hn, hx, hb⟩ := hrel
      clear N0 X0 B0 e0 e1 e2
      by_cases hlt : k < m.length
      · obtain ⟨b, off, u, ks, z, rfl, hxx, hu, c0, c1⟩ := (R.out.below (HA.out.step hb).below).1.at k hlt
        obtain ⟨ua, uc, rfl, _, _⟩ := hu.slc
        have hks : ks.length ≤ 1048576 := by
          have h8 := totN_row_le m k hlt
          rw [hxx] at h8
          have h9 := Z.out.1
          simp only at h8
          omega
        have hlt' : (k : Int) < (m.length : Int) := by omega
        have hlo := hb.size
        have g9lt := hx.lt
        -- the node's variable, an empty row
        obtain ⟨w2, hw2⟩ : ∃ w2, w2 = (wr.alloc (.cells #[.slice ua ks.length uc, .bool z] 84)).alloc (.cells #[] 3) := ⟨_, rfl⟩
        have b2 : Below wr.heap.size wr w2 := by
          rw [hw2]
          exact (below_box wr _).trans ((below_box _ _).mono (by simp))
        have s2 : w2.heap.size = wr.heap.size + 1 + 1 := by rw [hw2]; simp
        have x2 : BoxAt w2 wr.heap.size #[.slice ua ks.length uc, .bool z] 84 := by
          rw [hw2]
          exact BoxAt.below (BoxAt.new wr _ _) (below_box _ _)
        have o2 : Own w2 (wr.heap.size + 1) (.slice (some ⟨wr.heap.size + 1, 0, none⟩) 0 0) [] := by
          have := World.ownsRow_lit (base := wr.heap.size + 1) (e := 3) (size := 1) (wr.alloc (.cells #[.slice ua ks.length uc, .bool z] 84)) #[] 0 (by simp) (Nat.zero_le _) rfl
          rw [World.size_alloc] at this
          rw [hw2]
          exact this
        have W2 : Hid ((wr.alloc (.cells #[.slice ua ks.length uc, .bool z] 84)).alloc (.cells #[] 3) = w2) := hw2.symm
        have U2 := hide (hu.below b2)
        have O2 := hide o2
        have X2 := hide x2
        have M2 := hide (hn.below b2)
        have XG := hide (hx.below b2)
        have BB2 := hide (hb.trans (b2.mono hb.size))
        have HXX := hide hxx
        have S2 := hide s2
        clear hu o2 x2 hn hx b2 hw2 hxx
        go_wp2_with (refine wpList_app_int rfl _ _ rfl (wr.heap.size + 1) (.slice (some ⟨wr.heap.size + 1, 0, none⟩) 0 0) rfl [] (by rw [W2.out]; exact O2.out) (.slice ua ks.length uc) rfl ks (by rw [W2.out]; exact U2.out) (by simp only [List.length_nil]; omega) (by simp) ?_)
        rw [W2.out]
        intro v3 w3 o3 g3 at3
        obtain ⟨xa, xc, rfl⟩ := row_slice o3
        have c3g : Chg (wr.heap.size + 1) (wr.heap.size + 1 + 1) w2 w3 := Chg.ofGrown g3 (fun j hj => own_at2 hj)
        have s3 := c3g.size
        have x3 := X2.out.chg c3g (.inl (by omega))
        obtain ⟨p0, p1⟩ := x3.c2
        have f0 := x3.frozen 0
        have c4g := Chg.ofSetCell (lo := wr.heap.size) (hi := wr.heap.size + 1) w3 wr.heap.size 0 (.slice xa ks.length xc) (Nat.le_refl _) (by omega)
        have x4 : BoxAt (w3.setCell ⟨wr.heap.size, 0, none⟩ (.slice xa ks.length xc)) wr.heap.size #[.slice xa ks.length xc, .bool z] 84 := by simpa using x3.set 0 (.slice xa ks.length xc)
        have m4 := (M2.out.chg c3g (.inl (by omega))).chg c4g (.inl (Nat.le_refl _))
        have y4 := (XG.out.chg c3g (.inl (by omega))).chg c4g (.inl (by omega))
        have o4 := ownsRow_chg o3 (row_top o3) c4g (.inr (Nat.le_refl _))
        have BB4 := hide ((BB2.out.grown g3 BB2.out.size (fun j hj => own_at1 (by omega) hj)).setCell (p := ⟨wr.heap.size, 0, none⟩) (by exact hlo) (.slice xa ks.length xc))
        have cb := below_box (w3.setCell ⟨wr.heap.size, 0, none⟩ (.slice xa ks.length xc)) (.cells #[.slice xa ks.length xc, .bool z] 84)
        obtain ⟨w5, hw5⟩ : ∃ w5, w5 = (w3.setCell ⟨wr.heap.size, 0, none⟩ (.slice xa ks.length xc)).alloc (.cells #[.slice xa ks.length xc, .bool z] 84) := ⟨_, rfl⟩
        have x5 : BoxAt w5 w3.heap.size #[.slice xa ks.length xc, .bool z] 84 := by
          have := BoxAt.new (w3.setCell ⟨wr.heap.size, 0, none⟩ (.slice xa ks.length xc)) #[.slice xa ks.length xc, .bool z] 84
          rw [World.size_setCell] at this
          rw [hw5]
          exact this
        rw [← hw5] at cb
        have s5 := cb.size
        rw [World.size_setCell] at s5
        have M5 := hide (m4.below cb)
        have Y5 := hide (y4.below cb)
        have O5 := hide (Own.mono (Own.below o4 cb) (by omega : V0.heap.size ≤ wr.heap.size + 1))
        have L5 : Hid (∀ b, (Value.slice xa ks.length xc).ownBlock = some b → wr.heap.size ≤ b) := fun b hb' => by have := (World.ownsRow.lt o3 b hb').1; omega
        have BB5 := hide (BB4.out.trans (cb.mono BB4.out.size))
        have W5 : Hid ((w3.setCell ⟨wr.heap.size, 0, none⟩ (.slice xa ks.length xc)).alloc (.cells #[.slice xa ks.length xc, .bool z] 84) = w5) := hw5.symm
        obtain ⟨q0, q1⟩ := x5.c2
        obtain ⟨r0, r1, r2⟩ := y4.c3
        obtain ⟨t0, t1⟩ := x4.c2
        have KT : Hid (m.take k ++ [(ks, z)] = m.take (k + 1)) := by show _ = _; rw [take_succ_getD m k nd0 hlt, HXX.out]
        have hkt : (m.take k).length = k := by simp; omega
        have HKT := hide hkt
        clear o3 at3 x3 c3g c4g m4 y4 o4 cb hw5 x5 x4 M2 XG BB2 O2 U2 hkt
        go_wp2_with (refine wpList_app_node rfl _ _ rfl V0.heap.size wr.heap.size (.slice va k vc) rfl _ us _ (m.take k) (by rw [W5.out]; exact M5.out) w3.heap.size rfl (.slice xa ks.length xc) (ks, z) (by rw [W5.out]; exact q0) (by rw [W5.out]; exact q1) rfl (by rw [W5.out]; exact O5.out) L5.out (by simp; omega) (by rw [HKT.out]; omega) (by simp; omega) ?_)
        rw [W5.out]
        intro v6 w6 n6 g6
        rw [KT.out] at n6
        have y6 := Y5.out.kept g6 (Y5.out.offT M5.out.head (by decide))
        have b6 : Below V0.heap.size V0 w6 := BB5.out.grown g6 BB5.out.size (fun j hj => by
          have := World.ownsRow.lt M5.out.head j hj
          omega)
        obtain ⟨va6, vc6, h6⟩ := n6.slice
        have hkt2 : (m.take (k + 1)).length = k + 1 := by simp; omega
        rw [hkt2] at h6
        subst h6
        obtain ⟨r0', r1', r2'⟩ := y6.c3
        have f6 := y6.frozen 0
        have N7 := hide (n6.atBox y6 (by decide) (by decide) 0 (.slice va6 (k + 1) vc6))
        have Y7 : Hid (BoxAt (w6.setCell ⟨g9, 0, none⟩ (.slice va6 (k + 1) vc6)) g9 #[.slice va6 (k + 1) vc6, .slice a3 rs.length c3, .slice a7 cs.length c7] 27) := by show BoxAt _ _ _ _; simpa using y6.set 0 (.slice va6 (k + 1) vc6)
        have B7 := hide (b6.setCell (p := ⟨g9, 0, none⟩) (by exact HG.out) (.slice va6 (k + 1) vc6))
        clear n6 g6 y6 b6 hkt2 M5 Y5 O5 L5 BB5 q0 q1 r0 r1 r2 t0 t1
        go_wp2
        go_roundw
        case rel => exact ⟨k + 1, va6, vc6, _, by omega, by go_num, by simpa using N7.out, Y7.out, B7.out⟩
        case measure => simp [intOf]; omega
      · obtain rfl : k = m.length := by omega
        rw [List.take_length] at hn
        have A1 := hide (HA.out.step hb)
        obtain ⟨c0, c1, c2⟩ := hx.c3
        have xr := A1.out.atBox 0 rfl
        obtain ⟨d0, d1, d2⟩ := xr.c3
        have f0 := xr.frozen 0
        have f1 := xr.frozen 1
        have f2 := xr.frozen 2
        have lr := (HA.out.atBox 0 rfl).lt
        have cs3 := Chg.store3 (lo := w.heap.size + 1) (hi := w.heap.size + 1 + 1) wr (w.heap.size + 1) (.slice va m.length vc) (.slice a3 rs.length c3) (.slice a7 cs.length c7) (Nat.le_refl _) (by omega)
        have N9 := hide ((hn.chg cs3 (.inr (by omega))).wider (lo' := w.heap.size) (by have := HA.out.below.size; omega) cs3.size)
        have X9 := hide (xr.store3 (.slice va m.length vc) (.slice a3 rs.length c3) (.slice a7 cs.length c7))
        have B9 := hide (A1.out.below.trans (cs3.below (B := w.heap.size) (by omega) A1.out.below.size))
        clear hn hx hb xr cs3 lr A1
        go_wp2
        exact bodyPost_ret (res_gr rfl _ _ (w.heap.size + 1) _ _ _ (0, 0) rfl X9.out) rfl ⟨_, _, _, rfl, ⟨us, N9.out⟩, B9.out⟩
end Go.Proofs.Ytakhggnbhjoojaa

/-
  Copies of tables: copyList and copyTable of the program, l12Own of the model, call by call. Each contract says what it asks.
-/
import Derived.Test.YtehjfjplajimfaaTby
namespace Go.Proofs.Ytehjfjplajimfaa
open Go.RowKit
set_option linter.unusedVariables false

theorem run_copy_sls (w : World) (ty : TypeId) (g n dCap sCap : Nat) (ad : Addr) (cur : Array Value) (t : TypeId) (cs : List Value)
    (hg : w.heap[g]? = some (.cells cur t (0, 0))) (hn : cs.length = n * 3) (hsrc : ∀ j v, cs[j]? = some v → w.cell? (ad.add j) = some v) (hfit : cs.length ≤ cur.size) (h1 : ∀ v ∈ cs, v.oneCell' = true) :
    (Builtin.copy_ #[26, 26] ty #[.slice (some ⟨g, 0, none⟩) n dCap, .slice (some ad) n sCap]).run Try.prog w = .ok (goInt n) (w.setRow g (cur.toList.take 0 ++ cs ++ cur.toList.drop (0 + cs.length)).toArray) := by
  obtain ⟨i0, hi, hz0, hz1, hz2⟩ := info_parts infoSl
  have hl := run_loadCells_list (P := Try.prog) w ad cs hsrc
  have hst := run_storeCells_at Try.prog g 0 t cs 0 cur w hg (by simpa using hfit) h1
  rw [hn] at hl
  simp [Builtin.copy_, run_underlying Try.underlying26, Builtin.lenOf, Builtin.firstCells, sizeOf, typeInfo, hi, hz1, hl, hst]
theorem wpList_copy_sls {w : World} {ops : Array Oper} {rest : List Oper} {o : Oper} {a : Act} {Q : Exit → Act → World → Prop} (hgd : o.guard = none) (d s : Operand)
    (ho : o.op = .call { callee := .builtin .copy, args := #[d, s], argTypes := #[26, 26] })
    (base g : Nat) (ws zs : List Sl) (hd : a.eval d = .slice (some ⟨g, 0, none⟩) zs.length zs.length) (hown : OwnS w base (.slice (some ⟨g, 0, none⟩) zs.length zs.length) ws)
    (u : Value) (hs : a.eval s = u) (hr : RdS w u zs) (h0 : 0 < zs.length)
    (h : ∀ w', OwnS w' base (.slice (some ⟨g, 0, none⟩) zs.length zs.length) zs → w.grownBy w' (some g) → wpList Try.prog ops Q rest (a.put o.dst (goInt zs.length)) w') : wpList Try.prog ops Q (o :: rest) a w := by
  have hwn : zs.length = ws.length := hown.lenEq
  obtain ⟨ad, cap, rfl, h1, ⟨h2, h2'⟩, h3⟩ := hr
  rcases h3 with h3 | ⟨b, off, rfl, _, hc⟩
  · subst h3; simp at h0
  rcases hown.2 with ⟨h', _⟩ | ⟨g', cap', cur, e, hb, hg, hcc, hm, hsz, ht⟩
  · simp at h'
  simp only [Value.slice.injEq, Option.some.injEq, Addr.mk.injEq] at e
  obtain ⟨⟨rfl, _⟩, _, rfl⟩ := e
  have hsrc : ∀ j v, (slC zs)[j]? = some v → w.cell? ((⟨b, off, none⟩ : Addr).add j) = some v := by
    intro j y hj
    have hjl : j < zs.length * 3 := by rw [← slC_len]; exact (List.getElem?_eq_some_iff.1 hj).1
    have hadd : (⟨b, off, none⟩ : Addr).add j = ⟨b, off + j, none⟩ := by unfold Addr.add; split <;> simp_all
    rw [hadd]
    have hj3 : j % 3 = 0 ∨ j % 3 = 1 ∨ j % 3 = 2 := by omega
    rcases hj3 with h0 | h0 | h0
    · obtain ⟨i, rfl⟩ : ∃ i, j = i * 3 := ⟨j / 3, by omega⟩
      rw [slC_0 zs i (by omega)] at hj
      rw [(hc i (by omega)).1]
      exact hj
    · obtain ⟨i, rfl⟩ : ∃ i, j = i * 3 + 1 := ⟨j / 3, by omega⟩
      rw [slC_1 zs i (by omega)] at hj
      rw [← Nat.add_assoc, (hc i (by omega)).2.1]
      exact hj
    · obtain ⟨i, rfl⟩ : ∃ i, j = i * 3 + 2 := ⟨j / 3, by omega⟩
      rw [slC_2 zs i (by omega)] at hj
      rw [← Nat.add_assoc, (hc i (by omega)).2.2]
      exact hj
  have hrun := run_copy_sls w o.type g zs.length zs.length cap ⟨b, off, none⟩ cur 81 (slC zs) hg (slC_len zs) hsrc (by rw [slC_len, hsz]; omega) (slC_one zs)
  refine wpList_plain hgd fun K hK => ?_
  unfold Oper.wp
  simp only [execOp, ho, resolve, invoke, builtin, Sem.run_bind, Sem.run_pure, Result.andThen_ok, List.map_toArray, List.map_cons, List.map_nil, hd, hs, hrun]
  refine hK _ _ (h _ ?_ ⟨rfl, rfl, rfl, by simp [World.setRow], fun k _ hk => setRow_other w g k _ (fun e => hk (by simp [e]))⟩)
  have e : (cur.toList.take 0 ++ slC zs ++ cur.toList.drop (0 + (slC zs).length)).toArray = (slC zs).toArray := by
    rw [List.take_zero, List.nil_append, List.drop_eq_nil_of_le (by rw [slC_len]; simp [hsz]), List.append_nil]
  rw [e]
  exact ⟨slC_len zs, .inr ⟨g, zs.length, _, rfl, hb, setRow_heap w g _ (slC zs).toArray 81 _ hg, Nat.le_refl _, hm, by simp [slC_len], by simp [← slC_len]⟩⟩

set_option maxRecDepth 100000 in
set_option maxHeartbeats 800000 in
theorem copySls_calls (v : Value) (xs : List Sl) (w : World) (h : RdS w v xs) (h0 : 0 < xs.length) (hn : xs.length ≤ 1048576) :
    Calls Try.prog 121 #[v] w fun e w' => ∃ v', e = .returned v' ∧ TSls v' xs w.heap.size w'.heap.size w' ∧ Below w.heap.size w w' := by
  have R := hide h
  obtain ⟨a, cap, rfl, _, _⟩ := h.sl
  clear h
  go_enter Try.func121, Try.ntmps121
  go_wp2_with (at_make; refine wpList_make_sls rfl _ _ rfl _ _ xs.length rfl rfl (by omega) (by omega) hn ?_)
  intro w1 ho hg
  have O := hide ho
  have B := hide ((Below.refl w.heap.size w).grown hg (Nat.le_refl _) (fun k h => by cases h))
  clear ho hg
  go_wp2_with (refine wpList_copy_sls rfl _ _ rfl w.heap.size w.heap.size (List.replicate xs.length sl0) xs rfl O.out _ rfl (R.out.below B.out) h0 ?_)
  intro w2 o2 g2
  have O2 := hide o2
  have B2 := hide (B.out.grown g2 B.out.size (fun j hj => by obtain rfl := Option.some.inj hj; exact Nat.le_refl _))
  clear o2 g2
  go_wp2
  go_ret
  exact ⟨_, rfl, ⟨O2.out, OwnS.top O2.out⟩, B2.out⟩
theorem TabV.of {w1 w2 : World} {lo lo2 : Nat} {l r : Value} {ls rs : List Sl} (h1 : TSls l ls lo w1.heap.size w1) (h2 : TSls r rs w1.heap.size w2.heap.size w2) (hb : Below w1.heap.size w1 w2) (hlo : lo2 ≤ lo) (h3 : lo2 ≤ w1.heap.size) : TabV w2 lo2 w2.heap.size l r ls rs := by
  have hs := hb.size
  refine ⟨rowsMono (rowsBelow h1.1 hb) hlo, rowsMono h2.1 h3, fun k hk => by have := h1.2 k hk; omega, fun k hk => h2.2 k hk, ?_⟩
  cases hl : l.ownBlock with
  | none => exact .inl rfl
  | some x =>
    right
    intro e
    have h4 := h1.2 x hl
    have h5 := OwnS.low h2.1 x e.symm
    omega

set_option linter.unusedSimpArgs false in
set_option maxRecDepth 100000 in
set_option maxHeartbeats 3200000 in
theorem copyTable_calls (s m : Int) (l r : Value) (ls rs : List Sl) (w : World) (hl : RdS w l ls) (hr : RdS w r rs) (h1 : 0 < ls.length) (h2 : 0 < rs.length) (hz1 : ls.length ≤ 1048576) (hz2 : rs.length ≤ 1048576) :
    Calls Try.prog 105 #[.agg #[.int .i64 s, l, r, .int .i64 m]] w fun e w' => ∃ l' r', e = .returned (.agg #[.int .i64 s, l', r', .int .i64 m]) ∧ TabV w' w.heap.size w'.heap.size l' r' ls rs ∧ Below w.heap.size w w' := by
  obtain ⟨al, cl, rfl, _, _⟩ := hl.sl
  obtain ⟨ar, cr, rfl, _, _⟩ := hr.sl
  have RL := hide hl
  have RR := hide hr
  have A0 := hide (Hand.twoN w #[.int .i64 s, .slice al ls.length cl, .slice ar rs.length cr, .int .i64 m] nilT 28 28)
  clear hl hr
  go_enter Try.func105, Try.ntmps105
  go_upto_region 1 with fail
  obtain ⟨w0, hw0⟩ : ∃ w0, w0 = (w.alloc (.cells #[.int .i64 s, .slice al ls.length cl, .slice ar rs.length cr, .int .i64 m] 28)).alloc (.cells nilT 28) := ⟨_, rfl⟩
  rw [← hw0] at A0 ⊢
  clear hw0
  have F : Hid (∀ W, Below w0.heap.size w0 W → W.cell? ⟨w.heap.size, 0, none⟩ = some (.int .i64 s) ∧ W.cell? ⟨w.heap.size, 1, none⟩ = some (.slice al ls.length cl) ∧ W.cell? ⟨w.heap.size, 2, none⟩ = some (.slice ar rs.length cr) ∧ W.cell? ⟨w.heap.size, 3, none⟩ = some (.int .i64 m)) := fun W hb => ((A0.out.step hb).atBox 1 rfl).c4
  refine wp_region_noPanic ?_
  refine wp_region_held_drew (S := fun w' => w'.cell? ⟨w.heap.size, 0, none⟩ = some (.int .i64 s) ∧ w'.cell? ⟨w.heap.size, 1, none⟩ = some (.slice al ls.length cl) ∧ w'.cell? ⟨w.heap.size, 2, none⟩ = some (.slice ar rs.length cr) ∧ w'.cell? ⟨w.heap.size, 3, none⟩ = some (.int .i64 m)) (by kernel_rfl) (F.out _ (Below.refl _ _).drew) (fun hHeld => ?_)
  refine wpAnyH_take (i := 0) (v := ?v1) rfl (by kernel_rfl) (by kernel_rfl) (by kernel_rfl) (fun _ _ _ h => h) (Or.inl ⟨by rfl, ?hy1⟩) (by assumption) ?rest1
  case hy1 => (intro w' hSw; dsimp only [List.getElem_toArray, List.getElem_cons_zero, List.getElem_cons_succ] at hSw ⊢; go_simp; try (with_reducible rfl))
  try simp only [Act.put, List.getElem_toArray, List.getElem_cons_zero, List.getElem_cons_succ, List.setIfInBounds_toArray, List.set_cons_zero, List.set_cons_succ]
  refine wpAnyH_take (i := 1) (v := ?v2) rfl (by kernel_rfl) (by kernel_rfl) (by kernel_rfl) (fun _ _ _ h => h) (Or.inl ⟨by rfl, ?hy2⟩) (by assumption) ?rest2
  case hy2 => (intro w' hSw; dsimp only [List.getElem_toArray, List.getElem_cons_zero, List.getElem_cons_succ] at hSw ⊢; go_simp; try (with_reducible rfl))
  try simp only [Act.put, List.getElem_toArray, List.getElem_cons_zero, List.getElem_cons_succ, List.setIfInBounds_toArray, List.set_cons_zero, List.set_cons_succ]
  refine wpAnyH_take (i := 2) (v := ?v3) rfl (by kernel_rfl) (by kernel_rfl) (by kernel_rfl) (fun _ _ _ h => h) (Or.inl ⟨by rfl, ?hy3⟩) (by assumption) ?rest3
  case hy3 => (intro w' hSw; dsimp only [List.getElem_toArray, List.getElem_cons_zero, List.getElem_cons_succ] at hSw ⊢; go_simp; try (with_reducible rfl))
  try simp only [Act.put, List.getElem_toArray, List.getElem_cons_zero, List.getElem_cons_succ, List.setIfInBounds_toArray, List.set_cons_zero, List.set_cons_succ]
  refine wpAnyH_take (i := 3) (v := ?v4) rfl (by kernel_rfl) (by kernel_rfl) (by kernel_rfl) (fun _ _ _ h => h) (Or.inl ⟨by rfl, ?hy4⟩) (by assumption) ?rest4
  case hy4 => (intro w' hSw; dsimp only [List.getElem_toArray, List.getElem_cons_zero, List.getElem_cons_succ] at hSw ⊢; go_simp; try (with_reducible rfl))
  try simp only [Act.put, List.getElem_toArray, List.getElem_cons_zero, List.getElem_cons_succ, List.setIfInBounds_toArray, List.set_cons_zero, List.set_cons_succ]
  refine wpAnyH_take (i := 5) (v := ?v5) rfl (by kernel_rfl) (by kernel_rfl) (by kernel_rfl) (fun _ _ _ h => h) (Or.inl ⟨by rfl, ?hy5⟩) (by assumption) ?rest5
  case hy5 => (intro w' hSw; dsimp only [List.getElem_toArray, List.getElem_cons_zero, List.getElem_cons_succ] at hSw ⊢; go_simp; try (with_reducible rfl))
  try simp only [Act.put, List.getElem_toArray, List.getElem_cons_zero, List.getElem_cons_succ, List.setIfInBounds_toArray, List.set_cons_zero, List.set_cons_succ]
  refine wpAnyH_take (i := 6) (v := ?v6) rfl (by kernel_rfl) (by kernel_rfl) (by kernel_rfl) (fun _ _ _ h => h) (Or.inl ⟨by rfl, ?hy6⟩) (by assumption) ?rest6
  case hy6 => (intro w' hSw; dsimp only [List.getElem_toArray, List.getElem_cons_zero, List.getElem_cons_succ] at hSw ⊢; go_simp; try (with_reducible rfl))
  try simp only [Act.put, List.getElem_toArray, List.getElem_cons_zero, List.getElem_cons_succ, List.setIfInBounds_toArray, List.set_cons_zero, List.set_cons_succ]
  refine wpAnyH_take (i := 8) (v := ?v7) rfl (by kernel_rfl) (by kernel_rfl) (by kernel_rfl) (fun _ _ _ h => h) (Or.inl ⟨by rfl, ?hy7⟩) (by assumption) ?rest7
  case hy7 => (intro w' hSw; dsimp only [List.getElem_toArray, List.getElem_cons_zero, List.getElem_cons_succ] at hSw ⊢; go_simp; try (with_reducible rfl))
  try simp only [Act.put, List.getElem_toArray, List.getElem_cons_zero, List.getElem_cons_succ, List.setIfInBounds_toArray, List.set_cons_zero, List.set_cons_succ]
  refine wpAnyH_take (i := 9) (v := ?v8) rfl (by kernel_rfl) (by kernel_rfl) (by kernel_rfl) (fun _ _ _ h => h) (Or.inl ⟨by rfl, ?hy8⟩) (by assumption) ?rest8
  case hy8 => (intro w' hSw; dsimp only [List.getElem_toArray, List.getElem_cons_zero, List.getElem_cons_succ] at hSw ⊢; go_simp; try (with_reducible rfl))
  try simp only [Act.put, List.getElem_toArray, List.getElem_cons_zero, List.getElem_cons_succ, List.setIfInBounds_toArray, List.set_cons_zero, List.set_cons_succ]
  refine wpAnyH_ready (rs := [4]) (by kernel_rfl) (by simp) ?_
  refine AllReadyH.cons rfl (fun K hK => ?_) AllReadyH.nil
  dsimp only [List.getElem_toArray, List.getElem_cons_zero, List.getElem_cons_succ]
  go_simp
  refine (copySls_calls _ ls _ (RL.out.below (A0.out.step (Below.refl _ _).drew).below) h1 hz1).mono ?_
  rintro e' u1 ⟨v1, rfl, o1, b1⟩
  obtain ⟨a1, k1, rfl⟩ := OwnS.slice o1.1
  have A1 := hide ((A0.out.step (Below.refl _ _).drew).add b1 (TSls.st _ _) o1)
  have B1 := hide ((Below.refl w0.heap.size w0).drew.trans b1)
  clear b1 o1
  refine hK.out _ _ (F.out _ B1.out) (fun hHeld => ?_)
  clear hK K
  try simp only [Act.put, List.getElem_toArray, List.getElem_cons_zero, List.getElem_cons_succ, List.setIfInBounds_toArray, List.set_cons_zero, List.set_cons_succ]
  refine wpAnyH_ready (rs := [7]) (by kernel_rfl) (by simp) ?_
  refine AllReadyH.cons rfl (fun K hK => ?_) AllReadyH.nil
  dsimp only [List.getElem_toArray, List.getElem_cons_zero, List.getElem_cons_succ]
  go_simp
  refine (copySls_calls _ rs _ (RR.out.below A1.out.below) h2 hz2).mono ?_
  rintro e' u2 ⟨v2, rfl, o2, b2⟩
  obtain ⟨a2, k2, rfl⟩ := OwnS.slice o2.1
  have A2 := hide (A1.out.add b2 (TSls.st _ _) o2)
  have B2 := hide (B1.out.trans (b2.mono B1.out.size))
  clear b2 o2
  refine hK.out _ _ (F.out _ B2.out) (fun hHeld => ?_)
  clear hK K
  try simp only [Act.put, List.getElem_toArray, List.getElem_cons_zero, List.getElem_cons_succ, List.setIfInBounds_toArray, List.set_cons_zero, List.set_cons_succ]
  refine wpAnyH_take (i := 10) (v := ?v9) rfl (by kernel_rfl) (by kernel_rfl) (by kernel_rfl) (fun _ _ _ h => h) (Or.inl ⟨by rfl, ?hy9⟩) (by assumption) ?rest9
  case hy9 => (intro w' hSw; dsimp only [List.getElem_toArray, List.getElem_cons_zero, List.getElem_cons_succ] at hSw ⊢; go_simp; try (with_reducible rfl))
  try simp only [Act.put, List.getElem_toArray, List.getElem_cons_zero, List.getElem_cons_succ, List.setIfInBounds_toArray, List.set_cons_zero, List.set_cons_succ]
  refine wpAnyH_ready (rs := [11]) (by kernel_rfl) (by simp) ?_
  refine AllReadyH.cons rfl (fun K hK => ?_) AllReadyH.nil
  obtain ⟨d0, d1, d2, d3⟩ := (A2.out.atBox 2 rfl).c4
  have g0 := (A2.out.atBox 2 rfl).frozen 0
  have g1 := (A2.out.atBox 2 rfl).frozen 1
  have g2 := (A2.out.atBox 2 rfl).frozen 2
  have g3 := (A2.out.atBox 2 rfl).frozen 3
  dsimp only [List.getElem_toArray, List.getElem_cons_zero, List.getElem_cons_succ]
  go_simp
  clear d0 d1 d2 d3 g0 g1 g2 g3 hHeld
  have A3 := hide (A2.out.store4 2 rfl (.int .i64 s) (.slice a1 ls.length k1) (.slice a2 rs.length k2) (.int .i64 m))
  refine hK.out _ _ (A3.out.atBox 3 rfl).c4 (fun hHeld => ?_)
  clear hK K hHeld
  try simp only [Act.put, List.getElem_toArray, List.getElem_cons_zero, List.getElem_cons_succ, List.setIfInBounds_toArray, List.set_cons_zero, List.set_cons_succ]
  refine wpAnyH_done (by kernel_rfl) ?_ _
  refine NoPanic.normal ?_
  go_wp2
  exact bodyPost_ret (res_tb rfl _ _ (w.heap.size + 1) _ _ _ _ (0, 0) rfl (A3.out.atBox 2 rfl)) rfl ⟨_, _, rfl, A3.out.table, A3.out.below⟩

set_option maxRecDepth 100000 in
set_option maxHeartbeats 3200000 in
theorem sl12Own_calls (s m : Int) (l r : Value) (ls rs : List Sl) (w : World) (hl : RdS w l ls) (hr : RdS w r rs) (hz1 : ls.length ≤ 1048576) (hz2 : rs.length ≤ 1048576) :
    Calls Try.prog 69 #[.agg #[.int .i64 s, l, r, .int .i64 m]] w fun e w' => ∃ l' r', e = .returned (.agg #[.int .i64 s, l', r', .int .i64 m]) ∧ TabV w' w.heap.size w'.heap.size l' r' ls rs ∧ Below w.heap.size w w' := by
  obtain ⟨al, cl, rfl, _, _⟩ := hl.sl
  obtain ⟨ar, cr, rfl, _, _⟩ := hr.sl
  have RL := hide hl
  have RR := hide hr
  have A0 := hide (Hand.twoN w #[.int .i64 s, .slice al ls.length cl, .slice ar rs.length cr, .int .i64 m] nilT 28 28)
  clear hl hr
  obtain ⟨V0, hV0⟩ : ∃ V0, V0 = (w.alloc (.cells #[.int .i64 s, .slice al ls.length cl, .slice ar rs.length cr, .int .i64 m] 28)).alloc (.cells nilT 28) := ⟨_, rfl⟩
  rw [← hV0] at A0
  have SV : Hid (V0.heap.size = w.heap.size + 1 + 1) := by show _ = _; rw [hV0]; simp
  have b1 := below_box V0 (.cells #[] 81)
  have o1 : OwnS (V0.alloc (.cells #[] 81)) V0.heap.size (.slice (some ⟨w.heap.size + 1 + 1, 0, none⟩) 0 0) [] := by
    have h : ∀ B, B ≤ V0.heap.size → OwnS (V0.alloc (.cells #[] 81)) B (.slice (some ⟨w.heap.size + 1 + 1, 0, none⟩) 0 0) [] := fun B hB => by
      have h := ownS_empty (w := V0) (base := B) hB
      rwa [SV.out] at h
    exact h _ (Nat.le_refl _)
  have R1 := hide (RL.out.below (A0.out.below.trans (b1.mono A0.out.below.size)))
  have B1 := hide b1
  have O1 := hide o1
  clear b1 o1
  have hz1' : ([] : List Sl).length + ls.length ≤ 1048576 := by simpa using hz1
  have hz2' : ([] : List Sl).length + rs.length ≤ 1048576 := by simpa using hz2
  obtain ⟨V1, hV1⟩ : ∃ V1, V1 = V0.alloc (.cells #[] 81) := ⟨_, rfl⟩
  rw [← hV1] at R1 B1 O1
  have EV : Hid (((w.alloc (.cells #[.int .i64 s, .slice al ls.length cl, .slice ar rs.length cr, .int .i64 m] 28)).alloc (.cells nilT 28)).alloc (.cells #[] 81) = V1) := by show _ = _; rw [hV1, hV0]
  clear hV1 hV0
  go_enter Try.func69, Try.ntmps69
  go_wp2_with (at_builtin; rw [EV.out]; refine wpList_app_sls rfl _ _ rfl V0.heap.size _ rfl [] O1.out _ rfl ls R1.out hz1' B1.out.size ?_)
  intro v1 w1 o1 g1 hat
  clear hat
  have b1 : Below V0.heap.size V0 w1 := B1.out.grown g1 B1.out.size (fun j hj => OwnS.low O1.out j hj)
  have A1 := hide (A0.out.add b1 (TSls.st v1 ls) ⟨o1, OwnS.top o1⟩)
  obtain ⟨a1, k1, rfl⟩ := OwnS.slice o1
  clear o1 g1 b1 A0 O1 B1 R1 EV
  obtain ⟨c0, c1, c2, c3⟩ := (A1.out.atBox 2 rfl).c4
  have f1 := (A1.out.atBox 2 rfl).frozen 1
  have A2 : Hid (Hand w _ [TSls (.slice a1 ls.length k1) ls, TBox (w.heap.size + 1) nilT 28, TBox w.heap.size #[.int .i64 s, .slice a1 ls.length k1, .slice ar rs.length cr, .int .i64 m] 28]) := A1.out.setBoxT 2 rfl 1 (.slice a1 ls.length k1)
  clear A1
  obtain ⟨W1, hW1⟩ : ∃ W1, W1 = w1.setCell ⟨w.heap.size, 1, none⟩ (.slice a1 ls.length k1) := ⟨_, rfl⟩
  rw [← hW1] at A2
  have b2 := below_box W1 (.cells #[] 81)
  have o2 := ownS_empty (w := W1) (base := W1.heap.size) (Nat.le_refl _)
  have R2 := hide (RR.out.below (A2.out.below.trans (b2.mono A2.out.below.size)))
  obtain ⟨V2, hV2⟩ : ∃ V2, V2 = W1.alloc (.cells #[] 81) := ⟨_, rfl⟩
  rw [← hV2] at R2 b2 o2
  obtain ⟨d0, d1, d2, d3⟩ := ((A2.out.step b2).atBox 2 rfl).c4
  have EV : Hid ((w1.setCell ⟨w.heap.size, 1, none⟩ (.slice a1 ls.length k1)).alloc (.cells #[] 81) = V2) := by show _ = _; rw [hV2, hW1]
  have SZ : Hid (w1.heap.size = W1.heap.size) := by show _ = _; rw [hW1]; simp
  have B2 := hide b2
  have O2 := hide o2
  clear hV2 hW1 b2 o2
  rw [← SZ.out] at O2
  rw [← EV.out] at d0 d1 d2 d3
  go_wp2_with (at_builtin; rw [EV.out]; refine wpList_app_sls rfl _ _ rfl w1.heap.size _ rfl [] O2.out _ rfl rs R2.out hz2' (by rw [SZ.out]; exact B2.out.size) ?_)
  intro v2 w2 o2 g2 hat
  rw [SZ.out] at o2
  clear hat c0 c1 c2 c3 d0 d1 d2 d3 f1
  have b2 : Below W1.heap.size W1 w2 := B2.out.grown g2 B2.out.size (fun j hj => by have := OwnS.low O2.out j hj; rw [SZ.out] at this; exact this)
  have A3 := hide (A2.out.add b2 (TSls.st v2 rs) ⟨o2, OwnS.top o2⟩)
  obtain ⟨a2, k2, rfl⟩ := OwnS.slice o2
  clear o2 g2 b2 A2 O2 B2 R2 EV SZ
  obtain ⟨c0, c1, c2, c3⟩ := (A3.out.atBox 3 rfl).c4
  have f2 := (A3.out.atBox 3 rfl).frozen 2
  have A4 : Hid (Hand w _ [TSls (.slice a2 rs.length k2) rs, TSls (.slice a1 ls.length k1) ls, TBox (w.heap.size + 1) nilT 28, TBox w.heap.size #[.int .i64 s, .slice a1 ls.length k1, .slice a2 rs.length k2, .int .i64 m] 28]) := A3.out.setBoxT 3 rfl 2 (.slice a2 rs.length k2)
  obtain ⟨e0, e1, e2, e3⟩ := (A4.out.atBox 2 rfl).c4
  obtain ⟨h0, h1, h2, h3⟩ := (A3.out.atBox 2 rfl).c4
  have i0 := (A3.out.atBox 2 rfl).frozen 0
  have i1 := (A3.out.atBox 2 rfl).frozen 1
  have i2 := (A3.out.atBox 2 rfl).frozen 2
  have i3 := (A3.out.atBox 2 rfl).frozen 3
  have A5 := hide (A4.out.store4 2 rfl (.int .i64 s) (.slice a1 ls.length k1) (.slice a2 rs.length k2) (.int .i64 m))
  clear A3 A4
  go_wp2
  exact bodyPost_ret (res_tb rfl _ _ (w.heap.size + 1) _ _ _ _ (0, 0) rfl (A5.out.atBox 2 rfl)) rfl ⟨_, _, rfl, A5.out.table, A5.out.below⟩
end Go.Proofs.Ytehjfjplajimfaa

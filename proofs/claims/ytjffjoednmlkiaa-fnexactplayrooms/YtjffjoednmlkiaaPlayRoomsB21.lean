/-
  Rooms copied into the call's own: of the model. Each contract says what it asks.
-/
import Derived.Test.YtjffjoednmlkiaaPlayRoomsB20
namespace Go.Proofs.Ytjffjoednmlkiaa
open Go.RowKit Go.Maps Go.MapKept Go.ChangeMaps
set_option linter.unusedVariables false
set_option linter.unusedSimpArgs false

/-- 'append(out, p...)', out the call's own held rooms, p whatever reads as these (nil too). -/
theorem run_app_hl {W : World} (ty : TypeId) (base : Nat) (v : Value) (xs : List Hl) (hown : OwnH W base v xs) (u : Value) (zs : List Hl) (hr : RdH W u zs) (hm : xs.length + zs.length ≤ 17179869) (hbase : base ≤ W.heap.size) :
    ∃ v' w', (Builtin.append_ #[27, 27] ty #[v, u]).run Try.prog W = .ok v' w' ∧ OwnH w' base v' (xs ++ zs) ∧ W.grownBy w' v.ownBlock := by
  obtain ⟨i0, hi, hz0, hz1, hz2⟩ := info_parts infoHl
  obtain ⟨ad, cap, rfl, h1, ⟨h2, h2'⟩, h3⟩ := hr
  cases ad with
  | none =>
    have hz : zs = [] := by
      rcases h3 with h3 | ⟨b, off, hb, _⟩
      · exact h3
      · cases hb
    subst hz
    obtain rfl := h2' rfl
    have hrun := run_append_owned_none (P := Try.prog) (w := W) base 27 ty 136 i0 2 Try.underlying27 hi v xs.length _ hown
    refine ⟨v, W, hrun, ?_, World.grownBy.refl _ _⟩
    rw [List.append_nil]
    exact hown
  | some ad =>
    have hnews : ∀ j y, (hlC zs)[j]? = some y → W.cell? (ad.add j) = some y := by
      intro j y hj
      have hjl : j < zs.length * 2 := by
        have := (List.getElem?_eq_some_iff.1 hj).1
        rwa [hlC_len] at this
      rcases h3 with h3 | ⟨b, off, hb, _, hc⟩
      · subst h3; simp at hjl
      obtain rfl := Option.some.inj hb
      have hadd : ∀ j, (⟨b, off, none⟩ : Addr).add j = ⟨b, off + j, none⟩ := fun j => by unfold Addr.add; split <;> simp_all
      obtain ⟨c0, c1⟩ := hc (j / 2) (by omega)
      rw [hadd]
      by_cases hp : j % 2 = 0
      · have ej : j = j / 2 * 2 := by omega
        rw [ej, hlC_0 zs (j / 2) (by omega)] at hj
        rw [ej]
        simp only [Option.some.injEq] at hj
        rw [← hj]; exact c0
      · have ej : j = j / 2 * 2 + 1 := by omega
        rw [ej, hlC_1 zs (j / 2) (by omega)] at hj
        rw [ej]
        simp only [Option.some.injEq] at hj
        rw [← hj]; exact c1
    obtain ⟨v', w', hrun, ho', hg', _, hat⟩ := run_append_own_at (P := Try.prog) W base 27 ty 136 i0 (.agg #[.int .i64 0, .int .i64 0]) 2 16 Try.underlying27 hi hz0 hz1 hz2 rfl (by decide) v xs.length _ hown ad zs.length cap (hlC zs) (hlC_len zs) hnews (hlC_one zs) (by unfold maxLen; omega) (by omega) hbase
    refine ⟨v', w', hrun, ?_, hg'⟩
    show World.ownsRow _ _ _ _ _ (xs ++ zs).length _
    rw [hlC_app, List.length_append]
    exact ho'
theorem wpList_app_hl {W : World} {ops : Array Oper} {rest : List Oper} {o : Oper} {a : Act} {Q : Exit → Act → World → Prop} (hgd : o.guard = none) (s x : Operand)
    (ho : o.op = .call { callee := .builtin .append, args := #[s, x], argTypes := #[27, 27] }) (base : Nat) (v : Value) (hs : a.eval s = v) (xs : List Hl) (hown : OwnH W base v xs) (u : Value) (hx : a.eval x = u) (zs : List Hl) (hr : RdH W u zs) (hm : xs.length + zs.length ≤ 17179869) (hbase : base ≤ W.heap.size)
    (h : ∀ v' w', OwnH w' base v' (xs ++ zs) → W.grownBy w' v.ownBlock → wpList Try.prog ops Q rest (a.put o.dst v') w') : wpList Try.prog ops Q (o :: rest) a W := by
  refine wpList_plain hgd fun K hK => ?_
  obtain ⟨v', w', hrun, h1, h2⟩ := run_app_hl (W := W) o.type base v xs hown u zs hr hm hbase
  unfold Oper.wp execOp
  simp only [ho, resolve, invoke, builtin, Sem.run_bind, Sem.run_pure, Result.andThen_ok, List.map_toArray, List.map_cons, List.map_nil, hs, hx, hrun]
  exact hK _ _ (h v' w' h1 h2)
/-- 'append(out, row)', out the call's own rows. -/
theorem step_app_row {W : World} {ops : Array Oper} {o : Oper} {a : Act} {K : Act → World → Prop} {Q : Exit → Act → World → Prop} {E : Prop} (hgd : o.guard = none) (s x : Operand)
    (ho : o.op = .call { callee := .builtin .append, args := #[s, x], argTypes := #[22, 22] }) (base : Nat) (v : Value) (n : Nat) (us : List Value) (hs : a.eval s = v) (hown : W.ownsRow base 36 1 v n us) (g : Nat) (hx : a.eval x = .slice (some ⟨g, 0, none⟩) 1 1) (u : Value) (hu : u.oneCell' = true) (hc : W.cell? ⟨g, 0, none⟩ = some u) (hm : n ≤ 1048576) (hbase : base ≤ W.heap.size)
    (h : ∀ v' w', w'.ownsRow base 36 1 v' (n + 1) (us ++ [u]) → W.grownBy w' v.ownBlock → K (a.put o.dst v') w') :
    if Region.wanted o (yielded ops a.tmps) = true then Oper.wp Try.prog o a W K Q else E := by
  have hw : Region.wanted o (yielded ops a.tmps) = true := by simp [Region.wanted, hgd]
  rw [if_pos hw]
  obtain ⟨i0, hi, hz0, hz1, hz2⟩ := info_parts infoRow
  obtain ⟨v', w', hrun, h1, h2, _, _⟩ := run_append_own_at (P := Try.prog) W base 22 o.type 36 i0 (.slice none 0 0) 1 24 Try.underlying22 hi hz0 hz1 hz2 rfl (by decide) v n us hown ⟨g, 0, none⟩ 1 1 [u] (by simp) (fun j y hj => by
    cases j with
    | zero => simp only [List.getElem?_cons_zero, Option.some.injEq] at hj; rw [← hj]; exact hc
    | succ j => simp at hj) (by simpa using hu) (by unfold maxLen; omega) (by omega) hbase
  unfold Oper.wp execOp
  simp only [ho, resolve, invoke, builtin, Sem.run_bind, Sem.run_pure, Result.andThen_ok, List.map_toArray, List.map_cons, List.map_nil, hs, hx, hrun]
  exact h v' w' h1 h2

/-- Where l14Own stands. -/
structure Orm (w wr : World) (q x : Nat) (f h hv v : Value) (us : List Value) (m' : List (List Int)) (hs : List Hl) : Prop where
  arg : BoxAt wr w.heap.size #[f, h] 29
  res : BoxAt wr (w.heap.size + 1) nilR 29
  box : BoxAt wr x #[v, hv] 29
  mat : MatV wr q wr.heap.size v us m'
  held : OwnH wr (w.heap.size + 2) hv hs
  ht : ∀ k, hv.ownBlock = some k → k < x
  xq : x < q
  x0 : w.heap.size + 1 < x
  bel : Below w.heap.size w wr
  qw : q ≤ wr.heap.size
section
variable {w wr V0 W5 w6 : World} {q x : Nat} {f h hv v : Value} {us : List Value} {m' : List (List Int)} {hs : List Hl}
theorem Orm.below (d : Orm w wr q x f h hv v us m' hs) (hb : Below wr.heap.size wr W5) : Orm w W5 q x f h hv v us m' hs :=
  ⟨d.arg.below hb, d.res.below hb, d.box.below hb, (d.mat.below hb).wider (Nat.le_refl _) hb.size, rowsBelow d.held hb, d.ht, d.xq, d.x0, d.bel.trans (hb.mono d.bel.size), Nat.le_trans d.qw hb.size⟩
theorem Orm.far (d : Orm w wr q x f h hv v us m' hs) : ∀ k, v.ownBlock = some k → q ≤ k := fun k hk => (World.ownsRow.lt d.mat.head k hk).1
theorem Orm.off (d : Orm w wr q x f h hv v us m' hs) : v.ownBlock ≠ some x := fun e => by
  have := d.far x e
  have := d.xq
  omega
theorem Orm.push {u v6 : Value} {r : List Int} (d : Orm w V0 q x f h hv v us m' hs) (hb : Below V0.heap.size V0 W5) (ho : Own W5 V0.heap.size u r) (h6 : w6.ownsRow q 36 1 v6 (m'.length + 1) (us ++ [u])) (hg : W5.grownBy w6 v.ownBlock) :
    Orm w (w6.setCell ⟨x, 0, none⟩ v6) q x f h hv v6 (us ++ [u]) (m' ++ [r]) hs := by
  have m6 := MatV.push d.mat hb ho (Nat.le_refl _) d.qw h6 hg
  have c1 : Chg x (x + 1) w6 (w6.setCell ⟨x, 0, none⟩ v6) := Chg.ofSetCell w6 x 0 v6 (Nat.le_refl _) (Nat.lt_succ_self _)
  have xq := d.xq
  have x0 := d.x0
  have far := d.far
  have ne : ∀ k, k < q → some k ≠ v.ownBlock := fun k hk e => by have := far k e.symm; omega
  have d5 := d.below hb
  have B6 : Below w.heap.size w w6 := d5.bel.grown hg d5.bel.size (fun k hk => by have := far k hk; omega)
  refine ⟨(d5.arg.kept hg (ne _ (by omega)).symm).chg c1 (.inl (by omega)), (d5.res.kept hg (ne _ (by omega)).symm).chg c1 (.inl (by omega)), by simpa using (d5.box.kept hg (ne _ xq).symm).set 0 v6, (m6.chg c1 (.inr (by omega))).wider (Nat.le_refl _) c1.size, ?_, d.ht, d.xq, d.x0, B6.trans (c1.below (by omega) B6.size), Nat.le_trans d5.qw (Nat.le_trans hg.size c1.size)⟩
  have hk : OwnH w6 (w.heap.size + 2) hv hs := World.ownsRow.kept d5.held hg (by
    cases e : hv.ownBlock with
    | none => exact .inl rfl
    | some k => exact .inr (by rw [← e] ; intro e2; exact ne k (by have := d.ht k e; omega) (by rw [← e2, e])))
  exact rowsChg hk d.ht c1 (.inl (Nat.le_refl _))
end
theorem RdM.belowB' {w w' : World} {v : Value} {m : List (List Int)} (h : RdM w v m) (hb : Below w.heap.size w w') : RdM w' v m := h.below hb
set_option maxRecDepth 100000 in
set_option maxHeartbeats 6400000 in
theorem l14Own_calls (f h : Value) (m : List (List Int)) (hs : List Hl) (w : World) (hf : RdM w f m) (hh : RdH w h hs) (hz : m.length + tot m ≤ 1048576) (hz2 : hs.length ≤ 1048576) :
    Calls Try.prog 54 #[.agg #[f, h]] w fun e w' => ∃ f' h', e = .returned (.agg #[f', h']) ∧ RomV w' w.heap.size w'.heap.size f' h' m hs ∧ Below w.heap.size w w' := by
  have RF := hide hf
  have RH := hide hh
  have HZ := hide hz
  obtain ⟨af, cf, rfl, p1, p2⟩ := hf.sl
  obtain ⟨ah, ch, rfl, p3, p4⟩ := hh.sl
  have A0 := hide (Hand.twoN w #[.slice af m.length cf, .slice ah hs.length ch] nilR 29 29)
  obtain ⟨x0, x1⟩ := (A0.out.atBox 1 rfl).c2
  clear hf hh hz p1 p2 p3 p4
  go_enter Try.func54, Try.ntmps54
  obtain ⟨w0, hw0⟩ : ∃ x, x = (w.alloc (.cells #[.slice af m.length cf, .slice ah hs.length ch] 29)).alloc (.cells nilR 29) := ⟨_, rfl⟩
  have bb0 := below_box w0 (.cells #[] 136)
  have OL : OwnH (w0.alloc (.cells #[] 136)) w0.heap.size (.slice (some ⟨w0.heap.size, 0, none⟩) 0 0) [] := World.ownsRow_lit w0 #[] 0 (Nat.le_refl _) (Nat.zero_le _) rfl
  have s0 : w0.heap.size = w.heap.size + 2 := by rw [hw0]; simp [World.size_alloc]
  rw [s0] at OL
  have A1 : Hid (Hand w (w0.alloc (.cells #[] 136)) [TBox (w.heap.size + 1) nilR 29, TBox w.heap.size #[.slice af m.length cf, .slice ah hs.length ch] 29]) := by
    rw [← hw0] at A0
    exact A0.out.step bb0
  have y1 := ((A1.out.atBox 1 rfl).c2).2
  rw [hw0] at OL A1 y1
  have sb : Hid (w.heap.size + 2 ≤ (((w.alloc (.cells #[.slice af m.length cf, .slice ah hs.length ch] 29)).alloc (.cells nilR 29)).alloc (.cells #[] 136)).heap.size) := by rw [← hw0, ← s0]; exact bb0.size
  have OLH := hide OL
  clear bb0 s0 hw0 OL
  go_wp2_with (at_builtin; refine wpList_app_hl rfl _ _ rfl (w.heap.size + 2) (.slice (some ⟨w.heap.size + 2, 0, none⟩) 0 0) rfl [] OLH.out (.slice ah hs.length ch) rfl hs (RH.out.below A1.out.below) (by simp only [List.length_nil]; omega) sb.out ?_)
  intro v1 w1 o1 g1
  have sz1 := g1.size
  simp only [World.size_alloc] at sz1
  have X1 := (A1.out.atBox 1 rfl).kept g1 (fun e => by have e2 : w.heap.size + 2 = w.heap.size := Option.some.inj e; omega)
  have Y1 := (A1.out.atBox 0 rfl).kept g1 (fun e => by have e2 : w.heap.size + 2 = w.heap.size + 1 := Option.some.inj e; omega)
  have b1 := A1.out.below.grown g1 A1.out.below.size (fun k hk => by have e2 : w.heap.size + 2 = k := Option.some.inj hk; omega)
  obtain ⟨a1, c1, rfl⟩ := o1.slice
  have bx := below_box w1 (.cells #[.slice none 0 0, .slice a1 hs.length c1] 29)
  have xx := BoxAt.new w1 #[.slice none 0 0, .slice a1 hs.length c1] 29
  have sz2 : (w1.alloc (.cells #[.slice none 0 0, .slice a1 hs.length c1] 29)).heap.size = w1.heap.size + 1 := by simp [World.size_alloc]
  obtain ⟨vs0, mv0⟩ := Mat.nil (w1.alloc (.cells #[.slice none 0 0, .slice a1 hs.length c1] 29)) (w1.heap.size + 1) (w1.alloc (.cells #[.slice none 0 0, .slice a1 hs.length c1] 29)).heap.size
  have R0 : Hid (Orm w (w1.alloc (.cells #[.slice none 0 0, .slice a1 hs.length c1] 29)) (w1.heap.size + 1) w1.heap.size (.slice af m.length cf) (.slice ah hs.length ch) (.slice a1 hs.length c1) (.slice none 0 0) vs0 (m.take 0) hs) := by
    refine ⟨X1.below bx, Y1.below bx, xx, mv0, rowsBelow o1 bx, fun k hk => (World.ownsRow.lt o1 k hk).2, Nat.lt_succ_self _, ?_, b1.trans (bx.mono b1.size), Nat.le_of_eq sz2.symm⟩
    omega
  have z0 := R0.out.arg.c2.1
  obtain ⟨x, hx⟩ : ∃ x, x = w1.heap.size := ⟨_, rfl⟩
  have HX := hide hx
  clear o1 g1 sz1 X1 Y1 b1 bx xx sz2 mv0 OLH y1 A1 x0 x1 A0 sb hx
  go_wp2_with fail
  rw [← HX.out] at R0 ⊢
  clear z0
  have ml : m.length ≤ 1048576 := by have := HZ.out; omega
  obtain ⟨q, hq⟩ : ∃ q, q = x + 1 := ⟨_, rfl⟩
  rw [← hq] at R0
  clear hq
  go_loopw [14] (fun v wr => ∃ (k : Nat) (us : List Value) (vc : Value), k ≤ m.length ∧ v = .int .i64 (k : Int) ∧ Orm w wr q x (.slice af m.length cf) (.slice ah hs.length ch) (.slice a1 hs.length c1) vc us (m.take k) hs) (fun v _ => m.length - (intOf v).toNat)
  case atStart => exact ⟨0, _, _, Nat.zero_le _, rfl, R0.out⟩
  case round =>
    obtain ⟨k, us, vc, hk, rfl, hr⟩ := hrel
    have R := hide hr
    clear hr R0 HX
    by_cases hlt : k < m.length
    · have hlt' : (k : Int) < (m.length : Int) := by omega
      obtain ⟨bb, off, u, rfl, hc, hu⟩ := (RF.out.belowB' R.out.bel).row k hlt
      have tr := tot_row m k
      obtain ⟨r, hr⟩ : ∃ r, r = m.getD k [] := ⟨_, rfl⟩
      have TS : Hid (m.take (k + 1) = m.take k ++ [r]) := by rw [hr]; exact take_succ_getD m k [] hlt
      have mtl : (m.take k).length ≤ 1048576 := by simp; omega
      rw [← hr] at hu tr
      have rl : r.length ≤ 1048576 := by have := HZ.out; omega
      obtain ⟨m', hm'⟩ : ∃ m', m' = m.take k := ⟨_, rfl⟩
      rw [← hm'] at R TS mtl
      obtain ⟨av, cv, rfl⟩ : ∃ a c, vc = .slice a m'.length c := by
        rcases R.out.mat.head.2 with ⟨e1, e2⟩ | ⟨g, cap, cur, e1, _⟩
        · exact ⟨none, 0, by rw [e1, e2]⟩
        · exact ⟨_, _, e1⟩
      obtain ⟨au, cu, rfl, u1, u2⟩ := hu.slc
      have U := hide hu
      clear hu hr tr hm' u1 u2
      go_wp2_with fail
      refine wp_region_noPanic ?_
      refine wp_region_held_drew (S := (fun _ => True)) (by kernel_rfl) trivial (fun hHeld => ?_)
      have RM := hide (R.out.below (Below.refl _ _).drew)
      have RU := hide (U.out.below (Below.refl _ _).drew)
      clear R U hc
      generalize World.drew _ = V0 at *
      have X0 := hide RM.out.box
      refine wpAnyH_take (i := 0) (v := ?v1) rfl (by kernel_rfl) (by kernel_rfl) (by kernel_rfl) (fun _ _ _ h => h) (Or.inl ⟨by rfl, ?hy1⟩) (by assumption) ?rest1
      case hy1 => (intro w' hSw; dsimp only [List.getElem_toArray, List.getElem_cons_zero, List.getElem_cons_succ] at hSw ⊢; go_simp; try (with_reducible rfl))
      try simp only [Act.put, List.getElem_toArray, List.getElem_cons_zero, List.getElem_cons_succ, List.setIfInBounds_toArray, List.set_cons_zero, List.set_cons_succ]
      refine wpAnyH_take (i := 3) (v := ?v2) rfl (by kernel_rfl) (by kernel_rfl) (by kernel_rfl) (fun _ _ _ h => h) (Or.inl ⟨by rfl, ?hy2⟩) (by assumption) ?rest2
      case hy2 => (intro w' hSw; dsimp only [List.getElem_toArray, List.getElem_cons_zero, List.getElem_cons_succ] at hSw ⊢; go_simp; try (with_reducible rfl))
      try simp only [Act.put, List.getElem_toArray, List.getElem_cons_zero, List.getElem_cons_succ, List.setIfInBounds_toArray, List.set_cons_zero, List.set_cons_succ]
      refine wpAnyH_ready (rs := [1, 2]) (by kernel_rfl) (by simp) ?_
      refine AllReadyH.cons rfl (fun K hK => ?_) (AllReadyH.cons rfl (fun K hK => ?_) AllReadyH.nil)
      · have nc := X0.out.c2.1
        dsimp only [List.getElem_toArray, List.getElem_cons_zero, List.getElem_cons_succ]
        go_simp
        clear nc
        refine hK.out _ _ (trivial) (fun hHeld => ?_)
        clear hK K
        try simp only [Act.put, List.getElem_toArray, List.getElem_cons_zero, List.getElem_cons_succ, List.setIfInBounds_toArray, List.set_cons_zero, List.set_cons_succ]
        refine wpAnyH_ready (rs := [2]) (by kernel_rfl) (by simp) ?_
        refine AllReadyH.cons rfl (fun K hK => ?_) AllReadyH.nil
        dsimp only [List.getElem_toArray, List.getElem_cons_zero, List.getElem_cons_succ]
        go_simp
        have bb1 := below_box V0 (.cells #[] 3)
        have OL1 : Hid (Own (V0.alloc (.cells #[] 3)) V0.heap.size (.slice (some ⟨V0.heap.size, 0, none⟩) 0 0) []) := World.ownsRow_lit V0 #[] 0 (Nat.le_refl _) (Nat.zero_le _) rfl
        have SV1 : Hid (V0.heap.size ≤ (V0.alloc (.cells #[] 3)).heap.size) := bb1.size
        obtain ⟨W1, hW1⟩ : ∃ W, W = V0.alloc (.cells #[] 3) := ⟨_, rfl⟩
        rw [← hW1] at bb1 OL1 SV1 ⊢
        have B1 := hide bb1
        have RU1 := hide (RU.out.below bb1)
        have X1 := hide (X0.out.below bb1)
        obtain ⟨g0, hg0⟩ : ∃ g, g = V0.heap.size := ⟨_, rfl⟩
        rw [← hg0] at OL1 SV1 ⊢
        have HG0 := hide hg0
        clear bb1 hW1 hg0 RU
        refine hK.out _ _ (trivial) (fun hHeld => ?_)
        clear hK K
        try simp only [Act.put, List.getElem_toArray, List.getElem_cons_zero, List.getElem_cons_succ, List.setIfInBounds_toArray, List.set_cons_zero, List.set_cons_succ]
        refine wpAnyH_ready (rs := [4]) (by kernel_rfl) (by simp) ?_
        refine AllReadyH.cons rfl (fun K hK => ?_) AllReadyH.nil
        refine step_app_int (by rfl) _ _ (by rfl) g0 (.slice (some ⟨g0, 0, none⟩) 0 0) (by rfl) [] OL1.out (.slice au r.length cu) (by rfl) r RU1.out (by simp only [List.length_nil]; omega) SV1.out ?_
        intro v4 w4 o4 g4 at4
        obtain ⟨a4, k4, hv4⟩ := row_slice o4
        have b4 : Below g0 V0 w4 := (B1.out.mono (by rw [HG0.out]; exact Nat.le_refl _)).grown g4 (by rw [HG0.out]; exact B1.out.size) (fun k hk => by cases hk; exact Nat.le_refl _)
        rw [HG0.out] at b4
        have X4 := hide (X0.out.below b4)
        have O4 : Hid (Own w4 V0.heap.size v4 r) := by rw [← HG0.out]; exact o4
        rw [List.nil_append] at hv4
        subst hv4
        have B4 := hide b4
        clear o4 g4 at4 b4 OL1 SV1 B1 RU1 X1 HG0
        refine hK.out _ _ (trivial) (fun hHeld => ?_)
        clear hK K
        try simp only [Act.put, List.getElem_toArray, List.getElem_cons_zero, List.getElem_cons_succ, List.setIfInBounds_toArray, List.set_cons_zero, List.set_cons_succ]
        refine wpAnyH_ready (rs := [5]) (by kernel_rfl) (by simp) ?_
        refine AllReadyH.cons rfl (fun K hK => ?_) AllReadyH.nil
        dsimp only [List.getElem_toArray, List.getElem_cons_zero, List.getElem_cons_succ]
        go_simp
        have bb5 := below_box w4 (.cells #[.slice a4 r.length k4] 36)
        have xx := BoxAt.new w4 #[.slice a4 r.length k4] 36
        have SV5 : Hid (w4.heap.size ≤ (w4.alloc (.cells #[.slice a4 r.length k4] 36)).heap.size) := bb5.size
        obtain ⟨W5, hW5⟩ : ∃ W, W = w4.alloc (.cells #[.slice a4 r.length k4] 36) := ⟨_, rfl⟩
        rw [← hW5] at bb5 xx SV5 ⊢
        have B5 := hide (B4.out.trans (bb5.mono B4.out.size))
        have X5 := hide (X4.out.below bb5)
        have O5 := hide (ownsRow_below O4.out bb5)
        have C5 := hide (xx.cell 0)
        obtain ⟨g5, hg5⟩ : ∃ g, g = w4.heap.size := ⟨_, rfl⟩
        rw [← hg5] at C5 ⊢
        clear bb5 xx hW5 hg5 SV5 O4 B4 X4
        refine hK.out _ _ (trivial) (fun hHeld => ?_)
        clear hK K
        try simp only [Act.put, List.getElem_toArray, List.getElem_cons_zero, List.getElem_cons_succ, List.setIfInBounds_toArray, List.set_cons_zero, List.set_cons_succ]
        refine wpAnyH_ready (rs := [6]) (by kernel_rfl) (by simp) ?_
        refine AllReadyH.cons rfl (fun K hK => ?_) AllReadyH.nil
        refine step_app_row (by rfl) _ _ (by rfl) q (.slice av m'.length cv) m'.length us (by rfl) (rowsBelow (RM.out.mat.head) B5.out) g5 (by rfl) (.slice a4 r.length k4) rfl C5.out (by omega) (Nat.le_trans RM.out.qw B5.out.size) ?_
        intro v6 w6 o6 g6
        obtain ⟨a6, k6, hv6⟩ : ∃ a c, v6 = .slice a (m'.length + 1) c := by
          rcases o6.2 with ⟨e1, e2⟩ | ⟨g, cap, cur, e1, _⟩
          · omega
          · exact ⟨_, _, e1⟩
        have R6 := hide (RM.out.push B5.out O5.out o6 g6)
        have X6 := hide ((X5.out).kept g6 (RM.out.off))
        have XX := X6.out.frozen 0
        have XY := X6.out.c2.1
        subst hv6
        have RC := hide (rowsBelow (RM.out.mat.head) B5.out)
        clear o6 g6 C5 O5 B5 X5 RC
        refine hK.out _ _ (trivial) (fun hHeld => ?_)
        clear hK K
        try simp only [Act.put, List.getElem_toArray, List.getElem_cons_zero, List.getElem_cons_succ, List.setIfInBounds_toArray, List.set_cons_zero, List.set_cons_succ]
        refine wpAnyH_take (i := 7) (v := ?v3) rfl (by kernel_rfl) (by kernel_rfl) (by kernel_rfl) (fun _ _ _ h => h) (Or.inl ⟨by rfl, ?hy3⟩) (by assumption) ?rest3
        case hy3 => (intro w' hSw; dsimp only [List.getElem_toArray, List.getElem_cons_zero, List.getElem_cons_succ] at hSw ⊢; go_simp; try (with_reducible rfl))
        try simp only [Act.put, List.getElem_toArray, List.getElem_cons_zero, List.getElem_cons_succ, List.setIfInBounds_toArray, List.set_cons_zero, List.set_cons_succ]
        refine wpAnyH_ready (rs := [8]) (by kernel_rfl) (by simp) ?_
        refine AllReadyH.cons rfl (fun K hK => ?_) AllReadyH.nil
        dsimp only [List.getElem_toArray, List.getElem_cons_zero, List.getElem_cons_succ]
        go_simp
        clear XX XY
        refine hK.out _ _ (trivial) (fun hHeld => ?_)
        clear hK K
        try simp only [Act.put, List.getElem_toArray, List.getElem_cons_zero, List.getElem_cons_succ, List.setIfInBounds_toArray, List.set_cons_zero, List.set_cons_succ]
        refine wpAnyH_done (by kernel_rfl) ?_ _
        refine NoPanic.normal ?_
        clear hHeld
        go_wp2
        go_roundw
        case rel => exact ⟨k + 1, _, _, by omega, by go_num, by rw [TS.out]; exact R6.out⟩
        case measure => simp [intOf]; omega
      · dsimp only [List.getElem_toArray, List.getElem_cons_zero, List.getElem_cons_succ]
        go_simp
        have bb1 := below_box V0 (.cells #[] 3)
        have OL1 : Hid (Own (V0.alloc (.cells #[] 3)) V0.heap.size (.slice (some ⟨V0.heap.size, 0, none⟩) 0 0) []) := World.ownsRow_lit V0 #[] 0 (Nat.le_refl _) (Nat.zero_le _) rfl
        have SV1 : Hid (V0.heap.size ≤ (V0.alloc (.cells #[] 3)).heap.size) := bb1.size
        obtain ⟨W1, hW1⟩ : ∃ W, W = V0.alloc (.cells #[] 3) := ⟨_, rfl⟩
        rw [← hW1] at bb1 OL1 SV1 ⊢
        have B1 := hide bb1
        have RU1 := hide (RU.out.below bb1)
        have X1 := hide (X0.out.below bb1)
        obtain ⟨g0, hg0⟩ : ∃ g, g = V0.heap.size := ⟨_, rfl⟩
        rw [← hg0] at OL1 SV1 ⊢
        have HG0 := hide hg0
        clear bb1 hW1 hg0 RU
        refine hK.out _ _ (trivial) (fun hHeld => ?_)
        clear hK K
        try simp only [Act.put, List.getElem_toArray, List.getElem_cons_zero, List.getElem_cons_succ, List.setIfInBounds_toArray, List.set_cons_zero, List.set_cons_succ]
        refine wpAnyH_ready (rs := [1, 4]) (by kernel_rfl) (by simp) ?_
        refine AllReadyH.cons rfl (fun K hK => ?_) (AllReadyH.cons rfl (fun K hK => ?_) AllReadyH.nil)
        · have nc := X1.out.c2.1
          dsimp only [List.getElem_toArray, List.getElem_cons_zero, List.getElem_cons_succ]
          go_simp
          clear nc
          refine hK.out _ _ (trivial) (fun hHeld => ?_)
          clear hK K
          try simp only [Act.put, List.getElem_toArray, List.getElem_cons_zero, List.getElem_cons_succ, List.setIfInBounds_toArray, List.set_cons_zero, List.set_cons_succ]
          refine wpAnyH_ready (rs := [4]) (by kernel_rfl) (by simp) ?_
          refine AllReadyH.cons rfl (fun K hK => ?_) AllReadyH.nil
          refine step_app_int (by rfl) _ _ (by rfl) g0 (.slice (some ⟨g0, 0, none⟩) 0 0) (by rfl) [] OL1.out (.slice au r.length cu) (by rfl) r RU1.out (by simp only [List.length_nil]; omega) SV1.out ?_
          intro v4 w4 o4 g4 at4
          obtain ⟨a4, k4, hv4⟩ := row_slice o4
          have b4 : Below g0 V0 w4 := (B1.out.mono (by rw [HG0.out]; exact Nat.le_refl _)).grown g4 (by rw [HG0.out]; exact B1.out.size) (fun k hk => by cases hk; exact Nat.le_refl _)
          rw [HG0.out] at b4
          have X4 := hide (X0.out.below b4)
          have O4 : Hid (Own w4 V0.heap.size v4 r) := by rw [← HG0.out]; exact o4
          rw [List.nil_append] at hv4
          subst hv4
          have B4 := hide b4
          clear o4 g4 at4 b4 OL1 SV1 B1 RU1 X1 HG0
          refine hK.out _ _ (trivial) (fun hHeld => ?_)
          clear hK K
          try simp only [Act.put, List.getElem_toArray, List.getElem_cons_zero, List.getElem_cons_succ, List.setIfInBounds_toArray, List.set_cons_zero, List.set_cons_succ]
          refine wpAnyH_ready (rs := [5]) (by kernel_rfl) (by simp) ?_
          refine AllReadyH.cons rfl (fun K hK => ?_) AllReadyH.nil
          dsimp only [List.getElem_toArray, List.getElem_cons_zero, List.getElem_cons_succ]
          go_simp
          have bb5 := below_box w4 (.cells #[.slice a4 r.length k4] 36)
          have xx := BoxAt.new w4 #[.slice a4 r.length k4] 36
          have SV5 : Hid (w4.heap.size ≤ (w4.alloc (.cells #[.slice a4 r.length k4] 36)).heap.size) := bb5.size
          obtain ⟨W5, hW5⟩ : ∃ W, W = w4.alloc (.cells #[.slice a4 r.length k4] 36) := ⟨_, rfl⟩
          rw [← hW5] at bb5 xx SV5 ⊢
          have B5 := hide (B4.out.trans (bb5.mono B4.out.size))
          have X5 := hide (X4.out.below bb5)
          have O5 := hide (ownsRow_below O4.out bb5)
          have C5 := hide (xx.cell 0)
          obtain ⟨g5, hg5⟩ : ∃ g, g = w4.heap.size := ⟨_, rfl⟩
          rw [← hg5] at C5 ⊢
          clear bb5 xx hW5 hg5 SV5 O4 B4 X4
          refine hK.out _ _ (trivial) (fun hHeld => ?_)
          clear hK K
          try simp only [Act.put, List.getElem_toArray, List.getElem_cons_zero, List.getElem_cons_succ, List.setIfInBounds_toArray, List.set_cons_zero, List.set_cons_succ]
          refine wpAnyH_ready (rs := [6]) (by kernel_rfl) (by simp) ?_
          refine AllReadyH.cons rfl (fun K hK => ?_) AllReadyH.nil
          refine step_app_row (by rfl) _ _ (by rfl) q (.slice av m'.length cv) m'.length us (by rfl) (rowsBelow (RM.out.mat.head) B5.out) g5 (by rfl) (.slice a4 r.length k4) rfl C5.out (by omega) (Nat.le_trans RM.out.qw B5.out.size) ?_
          intro v6 w6 o6 g6
          obtain ⟨a6, k6, hv6⟩ : ∃ a c, v6 = .slice a (m'.length + 1) c := by
            rcases o6.2 with ⟨e1, e2⟩ | ⟨g, cap, cur, e1, _⟩
            · omega
            · exact ⟨_, _, e1⟩
          have R6 := hide (RM.out.push B5.out O5.out o6 g6)
          have X6 := hide ((X5.out).kept g6 (RM.out.off))
          have XX := X6.out.frozen 0
          have XY := X6.out.c2.1
          subst hv6
          have RC := hide (rowsBelow (RM.out.mat.head) B5.out)
          clear o6 g6 C5 O5 B5 X5 RC
          refine hK.out _ _ (trivial) (fun hHeld => ?_)
          clear hK K
          try simp only [Act.put, List.getElem_toArray, List.getElem_cons_zero, List.getElem_cons_succ, List.setIfInBounds_toArray, List.set_cons_zero, List.set_cons_succ]
          refine wpAnyH_take (i := 7) (v := ?v4) rfl (by kernel_rfl) (by kernel_rfl) (by kernel_rfl) (fun _ _ _ h => h) (Or.inl ⟨by rfl, ?hy4⟩) (by assumption) ?rest4
          case hy4 => (intro w' hSw; dsimp only [List.getElem_toArray, List.getElem_cons_zero, List.getElem_cons_succ] at hSw ⊢; go_simp; try (with_reducible rfl))
          try simp only [Act.put, List.getElem_toArray, List.getElem_cons_zero, List.getElem_cons_succ, List.setIfInBounds_toArray, List.set_cons_zero, List.set_cons_succ]
          refine wpAnyH_ready (rs := [8]) (by kernel_rfl) (by simp) ?_
          refine AllReadyH.cons rfl (fun K hK => ?_) AllReadyH.nil
          dsimp only [List.getElem_toArray, List.getElem_cons_zero, List.getElem_cons_succ]
          go_simp
          clear XX XY
          refine hK.out _ _ (trivial) (fun hHeld => ?_)
          clear hK K
          try simp only [Act.put, List.getElem_toArray, List.getElem_cons_zero, List.getElem_cons_succ, List.setIfInBounds_toArray, List.set_cons_zero, List.set_cons_succ]
          refine wpAnyH_done (by kernel_rfl) ?_ _
          refine NoPanic.normal ?_
          clear hHeld
          go_wp2
          go_roundw
          case rel => exact ⟨k + 1, _, _, by omega, by go_num, by rw [TS.out]; exact R6.out⟩
          case measure => simp [intOf]; omega
        · refine step_app_int (by rfl) _ _ (by rfl) g0 (.slice (some ⟨g0, 0, none⟩) 0 0) (by rfl) [] OL1.out (.slice au r.length cu) (by rfl) r RU1.out (by simp only [List.length_nil]; omega) SV1.out ?_
          intro v4 w4 o4 g4 at4
          obtain ⟨a4, k4, hv4⟩ := row_slice o4
          have b4 : Below g0 V0 w4 := (B1.out.mono (by rw [HG0.out]; exact Nat.le_refl _)).grown g4 (by rw [HG0.out]; exact B1.out.size) (fun k hk => by cases hk; exact Nat.le_refl _)
          rw [HG0.out] at b4
          have X4 := hide (X0.out.below b4)
          have O4 : Hid (Own w4 V0.heap.size v4 r) := by rw [← HG0.out]; exact o4
          rw [List.nil_append] at hv4
          subst hv4
          have B4 := hide b4
          clear o4 g4 at4 b4 OL1 SV1 B1 RU1 X1 HG0
          refine hK.out _ _ (trivial) (fun hHeld => ?_)
          clear hK K
          try simp only [Act.put, List.getElem_toArray, List.getElem_cons_zero, List.getElem_cons_succ, List.setIfInBounds_toArray, List.set_cons_zero, List.set_cons_succ]
          refine wpAnyH_ready (rs := [1, 5]) (by kernel_rfl) (by simp) ?_
          refine AllReadyH.cons rfl (fun K hK => ?_) (AllReadyH.cons rfl (fun K hK => ?_) AllReadyH.nil)
          · have nc := X4.out.c2.1
            dsimp only [List.getElem_toArray, List.getElem_cons_zero, List.getElem_cons_succ]
            go_simp
            clear nc
            refine hK.out _ _ (trivial) (fun hHeld => ?_)
            clear hK K
            try simp only [Act.put, List.getElem_toArray, List.getElem_cons_zero, List.getElem_cons_succ, List.setIfInBounds_toArray, List.set_cons_zero, List.set_cons_succ]
            refine wpAnyH_ready (rs := [5]) (by kernel_rfl) (by simp) ?_
            refine AllReadyH.cons rfl (fun K hK => ?_) AllReadyH.nil
            dsimp only [List.getElem_toArray, List.getElem_cons_zero, List.getElem_cons_succ]
            go_simp
            have bb5 := below_box w4 (.cells #[.slice a4 r.length k4] 36)
            have xx := BoxAt.new w4 #[.slice a4 r.length k4] 36
            have SV5 : Hid (w4.heap.size ≤ (w4.alloc (.cells #[.slice a4 r.length k4] 36)).heap.size) := bb5.size
            obtain ⟨W5, hW5⟩ : ∃ W, W = w4.alloc (.cells #[.slice a4 r.length k4] 36) := ⟨_, rfl⟩
            rw [← hW5] at bb5 xx SV5 ⊢
            have B5 := hide (B4.out.trans (bb5.mono B4.out.size))
            have X5 := hide (X4.out.below bb5)
            have O5 := hide (ownsRow_below O4.out bb5)
            have C5 := hide (xx.cell 0)
            obtain ⟨g5, hg5⟩ : ∃ g, g = w4.heap.size := ⟨_, rfl⟩
            rw [← hg5] at C5 ⊢
            clear bb5 xx hW5 hg5 SV5 O4 B4 X4
            refine hK.out _ _ (trivial) (fun hHeld => ?_)
            clear hK K
            try simp only [Act.put, List.getElem_toArray, List.getElem_cons_zero, List.getElem_cons_succ, List.setIfInBounds_toArray, List.set_cons_zero, List.set_cons_succ]
            refine wpAnyH_ready (rs := [6]) (by kernel_rfl) (by simp) ?_
            refine AllReadyH.cons rfl (fun K hK => ?_) AllReadyH.nil
            refine step_app_row (by rfl) _ _ (by rfl) q (.slice av m'.length cv) m'.length us (by rfl) (rowsBelow (RM.out.mat.head) B5.out) g5 (by rfl) (.slice a4 r.length k4) rfl C5.out (by omega) (Nat.le_trans RM.out.qw B5.out.size) ?_
            intro v6 w6 o6 g6
            obtain ⟨a6, k6, hv6⟩ : ∃ a c, v6 = .slice a (m'.length + 1) c := by
              rcases o6.2 with ⟨e1, e2⟩ | ⟨g, cap, cur, e1, _⟩
              · omega
              · exact ⟨_, _, e1⟩
            have R6 := hide (RM.out.push B5.out O5.out o6 g6)
            have X6 := hide ((X5.out).kept g6 (RM.out.off))
            have XX := X6.out.frozen 0
            have XY := X6.out.c2.1
            subst hv6
            have RC := hide (rowsBelow (RM.out.mat.head) B5.out)
            clear o6 g6 C5 O5 B5 X5 RC
            refine hK.out _ _ (trivial) (fun hHeld => ?_)
            clear hK K
            try simp only [Act.put, List.getElem_toArray, List.getElem_cons_zero, List.getElem_cons_succ, List.setIfInBounds_toArray, List.set_cons_zero, List.set_cons_succ]
            refine wpAnyH_take (i := 7) (v := ?v5) rfl (by kernel_rfl) (by kernel_rfl) (by kernel_rfl) (fun _ _ _ h => h) (Or.inl ⟨by rfl, ?hy5⟩) (by assumption) ?rest5
            case hy5 => (intro w' hSw; dsimp only [List.getElem_toArray, List.getElem_cons_zero, List.getElem_cons_succ] at hSw ⊢; go_simp; try (with_reducible rfl))
            try simp only [Act.put, List.getElem_toArray, List.getElem_cons_zero, List.getElem_cons_succ, List.setIfInBounds_toArray, List.set_cons_zero, List.set_cons_succ]
            refine wpAnyH_ready (rs := [8]) (by kernel_rfl) (by simp) ?_
            refine AllReadyH.cons rfl (fun K hK => ?_) AllReadyH.nil
            dsimp only [List.getElem_toArray, List.getElem_cons_zero, List.getElem_cons_succ]
            go_simp
            clear XX XY
            refine hK.out _ _ (trivial) (fun hHeld => ?_)
            clear hK K
            try simp only [Act.put, List.getElem_toArray, List.getElem_cons_zero, List.getElem_cons_succ, List.setIfInBounds_toArray, List.set_cons_zero, List.set_cons_succ]
            refine wpAnyH_done (by kernel_rfl) ?_ _
            refine NoPanic.normal ?_
            clear hHeld
            go_wp2
            go_roundw
            case rel => exact ⟨k + 1, _, _, by omega, by go_num, by rw [TS.out]; exact R6.out⟩
            case measure => simp [intOf]; omega
          · dsimp only [List.getElem_toArray, List.getElem_cons_zero, List.getElem_cons_succ]
            go_simp
            have bb5 := below_box w4 (.cells #[.slice a4 r.length k4] 36)
            have xx := BoxAt.new w4 #[.slice a4 r.length k4] 36
            have SV5 : Hid (w4.heap.size ≤ (w4.alloc (.cells #[.slice a4 r.length k4] 36)).heap.size) := bb5.size
            obtain ⟨W5, hW5⟩ : ∃ W, W = w4.alloc (.cells #[.slice a4 r.length k4] 36) := ⟨_, rfl⟩
            rw [← hW5] at bb5 xx SV5 ⊢
            have B5 := hide (B4.out.trans (bb5.mono B4.out.size))
            have X5 := hide (X4.out.below bb5)
            have O5 := hide (ownsRow_below O4.out bb5)
            have C5 := hide (xx.cell 0)
            obtain ⟨g5, hg5⟩ : ∃ g, g = w4.heap.size := ⟨_, rfl⟩
            rw [← hg5] at C5 ⊢
            clear bb5 xx hW5 hg5 SV5 O4 B4 X4
            refine hK.out _ _ (trivial) (fun hHeld => ?_)
            clear hK K
            try simp only [Act.put, List.getElem_toArray, List.getElem_cons_zero, List.getElem_cons_succ, List.setIfInBounds_toArray, List.set_cons_zero, List.set_cons_succ]
            refine wpAnyH_ready (rs := [1]) (by kernel_rfl) (by simp) ?_
            refine AllReadyH.cons rfl (fun K hK => ?_) AllReadyH.nil
            have nc := X5.out.c2.1
            dsimp only [List.getElem_toArray, List.getElem_cons_zero, List.getElem_cons_succ]
            go_simp
            clear nc
            refine hK.out _ _ (trivial) (fun hHeld => ?_)
            clear hK K
            try simp only [Act.put, List.getElem_toArray, List.getElem_cons_zero, List.getElem_cons_succ, List.setIfInBounds_toArray, List.set_cons_zero, List.set_cons_succ]
            refine wpAnyH_ready (rs := [6]) (by kernel_rfl) (by simp) ?_
            refine AllReadyH.cons rfl (fun K hK => ?_) AllReadyH.nil
            refine step_app_row (by rfl) _ _ (by rfl) q (.slice av m'.length cv) m'.length us (by rfl) (rowsBelow (RM.out.mat.head) B5.out) g5 (by rfl) (.slice a4 r.length k4) rfl C5.out (by omega) (Nat.le_trans RM.out.qw B5.out.size) ?_
            intro v6 w6 o6 g6
            obtain ⟨a6, k6, hv6⟩ : ∃ a c, v6 = .slice a (m'.length + 1) c := by
              rcases o6.2 with ⟨e1, e2⟩ | ⟨g, cap, cur, e1, _⟩
              · omega
              · exact ⟨_, _, e1⟩
            have R6 := hide (RM.out.push B5.out O5.out o6 g6)
            have X6 := hide ((X5.out).kept g6 (RM.out.off))
            have XX := X6.out.frozen 0
            have XY := X6.out.c2.1
            subst hv6
            have RC := hide (rowsBelow (RM.out.mat.head) B5.out)
            clear o6 g6 C5 O5 B5 X5 RC
            refine hK.out _ _ (trivial) (fun hHeld => ?_)
            clear hK K
            try simp only [Act.put, List.getElem_toArray, List.getElem_cons_zero, List.getElem_cons_succ, List.setIfInBounds_toArray, List.set_cons_zero, List.set_cons_succ]
            refine wpAnyH_take (i := 7) (v := ?v6) rfl (by kernel_rfl) (by kernel_rfl) (by kernel_rfl) (fun _ _ _ h => h) (Or.inl ⟨by rfl, ?hy6⟩) (by assumption) ?rest6
            case hy6 => (intro w' hSw; dsimp only [List.getElem_toArray, List.getElem_cons_zero, List.getElem_cons_succ] at hSw ⊢; go_simp; try (with_reducible rfl))
            try simp only [Act.put, List.getElem_toArray, List.getElem_cons_zero, List.getElem_cons_succ, List.setIfInBounds_toArray, List.set_cons_zero, List.set_cons_succ]
            refine wpAnyH_ready (rs := [8]) (by kernel_rfl) (by simp) ?_
            refine AllReadyH.cons rfl (fun K hK => ?_) AllReadyH.nil
            dsimp only [List.getElem_toArray, List.getElem_cons_zero, List.getElem_cons_succ]
            go_simp
            clear XX XY
            refine hK.out _ _ (trivial) (fun hHeld => ?_)
            clear hK K
            try simp only [Act.put, List.getElem_toArray, List.getElem_cons_zero, List.getElem_cons_succ, List.setIfInBounds_toArray, List.set_cons_zero, List.set_cons_succ]
            refine wpAnyH_done (by kernel_rfl) ?_ _
            refine NoPanic.normal ?_
            clear hHeld
            go_wp2
            go_roundw
            case rel => exact ⟨k + 1, _, _, by omega, by go_num, by rw [TS.out]; exact R6.out⟩
            case measure => simp [intOf]; omega
    · obtain rfl : k = m.length := by omega
      rw [List.take_length] at R
      have hd := R.out.mat.head
      obtain ⟨av, n1, cv, rfl⟩ : ∃ a n c, vc = .slice a n c := by
        rcases hd.2 with ⟨e1, e2⟩ | ⟨g, cap, cur, e1, _⟩
        · exact ⟨none, 0, 0, e1⟩
        · exact ⟨_, _, _, e1⟩
      have y0 := R.out.box.c2.1
      have y1 := R.out.box.c2.2
      have e0 := R.out.res.c2.1
      have e1 := R.out.res.c2.2
      have q0 := R.out.res.frozen 0
      have q1 := R.out.res.frozen 1
      have g8 := grown_tr (grown_setCell wr (w.heap.size + 1) 0 (.slice av n1 cv)) (grown_setCell _ (w.heap.size + 1) 1 (.slice a1 hs.length c1))
      have Z8 := hide ((R.out.res.set 0 (.slice av n1 cv)).set 1 (.slice a1 hs.length c1))
      have ch8 := Chg.ofGrown (lo := w.heap.size + 1) (hi := w.heap.size + 2) g8 (fun k hk => by cases hk; omega)
      have xq := R.out.xq
      have x0 := R.out.x0
      have M8 := hide ((R.out.mat.chg ch8 (.inr (by omega))).wider (lo' := w.heap.size) (hi' := _) (by omega) g8.size)
      have H8 := hide (rowsMono (rowsChg R.out.held R.out.ht ch8 (.inr (Nat.le_refl _))) (show w.heap.size ≤ w.heap.size + 2 by omega))
      have T8 : Hid (∀ k, (Value.slice a1 hs.length c1).ownBlock = some k → k < _) := fun k hk => (World.ownsRow.lt H8.out k hk).2
      have G8 := hide (R.out.bel.grown g8 R.out.bel.size (fun j hj => by cases hj; omega))
      clear g8 ch8 hd hk hlt
      go_wp2
      exact bodyPost_ret (res_rm rfl _ _ (w.heap.size + 1) _ _ (0, 0) rfl Z8.out) rfl ⟨_, _, rfl, ⟨⟨_, M8.out⟩, H8.out, T8.out⟩, G8.out⟩
end Go.Proofs.Ytjffjoednmlkiaa

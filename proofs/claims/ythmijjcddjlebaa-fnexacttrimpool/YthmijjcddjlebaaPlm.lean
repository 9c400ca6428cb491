/-
  TrimPool by the program. The contract says what it asks.
-/
import Derived.Test.YthmijjcddjlebaaPll
namespace Go.Proofs.Ythmijjcddjlebaa
open Go.RowKit
set_option linter.unusedVariables false

theorem step_app_br1 {W : World} {ops : Array Oper} {o : Oper} {a : Act} {K : Act → World → Prop} {Q : Exit → Act → World → Prop} {E : Prop} (hgd : o.guard = none) (s x : Operand)
    (ho : o.op = .call { callee := .builtin .append, args := #[s, x], argTypes := #[40, 40] }) (lo hi : Nat) (v : Value) (hs : a.eval s = v) (es us : List Value) (qs : List (List Int)) (xs : List Nd) (hN : BrV W lo hi v es us qs xs)
    (gx : Nat) (hxx : a.eval x = .slice (some ⟨gx, 0, none⟩) 1 1) (a1 : Option Addr) (n1 k1 : Nat) (y1 : Nd) (hx : BoxAt W gx #[.slice a1 n1 k1, .bool y1.2] 104) (ho1 : Own W lo (.slice a1 n1 k1) y1.1)
    (hu1 : ∀ b, (Value.slice a1 n1 k1).ownBlock = some b → hi ≤ b) (hm2 : hi ≤ W.heap.size) (hm : xs.length ≤ 1048576) (hlo : lo ≤ W.heap.size)
    (h : ∀ v' w', BrV w' lo w'.heap.size v' es (us ++ [.slice a1 n1 k1]) qs (xs ++ [y1]) → W.grownBy w' v.ownBlock → K (a.put o.dst v') w') :
    if Region.wanted o (yielded ops a.tmps) = true then Oper.wp Try.prog o a W K Q else E := by
  have hw : Region.wanted o (yielded ops a.tmps) = true := by simp [Region.wanted, hgd]
  rw [if_pos hw]
  obtain ⟨i0, hi0, hz0, hz1, hz2⟩ := info_parts infoNdB
  obtain ⟨c0, c1⟩ := hx.c2
  obtain ⟨v', w', hrun, ho', hg', _, hat⟩ := run_append_own_at (P := Try.prog) W lo 40 o.type 104 i0 (.agg #[.slice none 0 0, .bool false]) 2 32 Try.underlying40 hi0 hz0 hz1 hz2 rfl (by decide) v xs.length _ hN.head ⟨gx, 0, none⟩ 1 1 [.slice a1 n1 k1, .bool y1.2] rfl
    (fun j z hj => by
      rcases j with _ | _ | j
      · simp at hj; subst hj; simpa [Addr.add] using c0
      · simp at hj; subst hj; simpa [Addr.add] using c1
      · simp at hj)
    (fun z hz => by
      simp only [List.mem_cons, List.not_mem_nil, or_false] at hz
      rcases hz with rfl | rfl <;> rfl)
    (by unfold maxLen; omega) (by omega) hlo
  have hsz := hg'.size
  have h1 := hN.push (hi2 := w'.heap.size) ho1 (by omega) (fun b hb => ⟨by have := (World.ownsRow.lt ho1 b hb).2; omega, hu1 b hb⟩) ho' hg' (fun k hk => (World.ownsRow.lt ho' k hk).2)
  unfold Oper.wp execOp
  simp only [ho, resolve, invoke, builtin, Sem.run_bind, Sem.run_pure, Result.andThen_ok, List.map_toArray, List.map_cons, List.map_nil, hs, hxx, hrun]
  exact h v' w' h1 hg'
theorem wrap_few (x : Int) (h0 : 0 ≤ x) (h1 : x ≤ 1000) : IntKind.i64.wrap x = x := by
  simp [IntKind.wrap, IntKind.bits, IntKind.signed]
  omega
theorem map_rnL {bs : List Bool} {xs : List Int} (h : ∀ i, i < xs.length → xs.getD i 0 = -1 ∨ (0 ≤ xs.getD i 0 ∧ xs.getD i 0 < (bs.length : Int))) : xs.map (rnL (nmL bs)) = xs.map (rnF bs) := by
  refine List.map_congr_left fun x hx => ?_
  obtain ⟨i, hi, rfl⟩ := mem_getD hx
  exact rnL_is bs _ (h i hi)
/-- What TrimPool answers. -/
def trX (m : List Nd) (vs : List Int) : List Nd := trP m (cmP m vs) m.length
def trY (m : List Nd) (vs : List Int) : List Int := vs.map (rnF (cmP m vs))
def trW (m : List Nd) (vs : List Int) : Int := (m.length : Int) - (nmF (cmP m vs) m.length : Int)

set_option linter.unusedSimpArgs false in
set_option maxRecDepth 100000 in
set_option maxHeartbeats 6400000 in
theorem trimPool_calls (p r : Value) (m : List Nd) (vs : List Int) (t : Bool) (y : Int) (w : World) (h : RdP w p r m vs) (ht : t = true ↔ okP m vs) (hy : y = if t = true then trW m vs else 0) :
    Calls Try.prog 49 #[.agg #[p, r]] w fun e' w' => ∃ p' r', e' = .returned (.tuple #[.agg #[p', r'], .int .i64 y, .bool t]) ∧ TPol p' r' (gX t (trX m vs)) (gX t (trY m vs)) w.heap.size w'.heap.size w' ∧ Below w.heap.size w w' := by
  have R := hide h
  obtain ⟨⟨ap, cp, rfl, hq1, hq2, _⟩, ⟨ar, cr, rfl, hr1, hr2, _⟩⟩ := h
  have A0 := hide (Hand.twoN w #[.slice ap m.length cp, .slice ar vs.length cr] nilP 43 43)
  obtain ⟨X, hX⟩ : ∃ X, X = gX t (trX m vs) := ⟨_, rfl⟩
  obtain ⟨Y, hY⟩ : ∃ Y, Y = gX t (trY m vs) := ⟨_, rfl⟩
  rw [← hX, ← hY]
  have HX := hide hX
  have HY := hide hY
  have HT := hide ht
  have HW := hide hy
  clear ht hr1 hr2 hX hY hq1 hq2 hy
  go_enter Try.func49, Try.ntmps49
  go_wp2_with fail
  refine (goodPool_calls _ _ m vs t _ (R.out.below A0.out.below) HT.out).mono ?_
  rintro e' w1 ⟨rfl, b0⟩
  have A1 := hide (A0.out.step b0)
  clear b0 A0
  obtain ⟨p0, p1⟩ := (A1.out.atBox 1 rfl).c2
  cases t with
  | false =>
    obtain rfl : X = [] := HX.out
    obtain rfl : Y = [] := HY.out
    obtain rfl : y = 0 := HW.out
    have x9 := A1.out.atBox 0 rfl
    obtain ⟨z0, z1⟩ := x9.c2
    have f0 := x9.frozen 0
    have f1 := x9.frozen 1
    have A9 := hide (A1.out.store2 0 rfl nilRow nilRow)
    clear x9 A1
    go_wp2
    exact bodyPost_ret (res_pl3 rfl _ _ (w.heap.size + 1) _ _ (0, 0) rfl (A9.out.atBox 0 rfl)) rfl ⟨_, _, rfl, TPol.nil _ _ _, A9.out.below⟩
  | true =>
    have OK := hide (HT.out.1 rfl)
    have h200 : m.length ≤ 200 := OK.out.1.1
    have h40 : vs.length ≤ 40 := OK.out.1.2
    obtain ⟨bs, hbs⟩ : ∃ bs, bs = cmP m vs := ⟨_, rfl⟩
    have BL : Hid (bs.length = m.length) := by show _ = _; rw [hbs]; exact cmP_len m vs
    have NL : Hid ((nmL bs).length = m.length) := by show _ = _; rw [nmL_len, BL.out]
    have HX2 : Hid (X = trP m bs m.length) := by rw [hbs]; exact HX.out
    have HY2 : Hid (Y = vs.map (rnL (nmL bs))) := by
      show _ = _
      have e : Y = vs.map (rnF bs) := by rw [hbs]; exact HY.out
      rw [e, map_rnL (fun i hi => ?_)]
      have h2 := OK.out.2.2 i hi
      rw [BL.out]
      rcases h2 with h2 | h2
      · exact .inl h2
      · exact .inr ⟨h2.1, h2.2.1⟩
    have HW2 : Hid (y = (m.length : Int) - (nmF bs m.length : Int)) := by rw [hbs]; exact HW.out
    have VX : Hid (∀ i, i < vs.length → vs.getD i 0 = -1 ∨ (0 ≤ vs.getD i 0 ∧ vs.getD i 0 < ((nmL bs).length : Int))) := fun i hi => by
      have h2 := OK.out.2.2 i hi
      rw [NL.out]
      rcases h2 with h2 | h2
      · exact .inl h2
      · exact .inr ⟨h2.1, h2.2.1⟩
    have CM := hide hbs
    clear HT HX HY HW hbs
    go_wp2_with fail
    refine (comeToIn_calls _ _ m vs _ (R.out.below A1.out.below) OK.out).mono ?_
    rw [← CM.out]
    rintro e' w2 ⟨gz, rfl, oz, b2⟩
    have A2 := hide (A1.out.step b2)
    have OZ := hide oz
    clear b2 A1 oz p0 p1
    go_wp2_with fail
    refine (numbersAnew_calls _ bs _ (by have := OwnZ.rd OZ.out; exact this) (by rw [BL.out]; omega)).mono ?_
    rintro e' w3 ⟨v3, rfl, o3, b3⟩
    obtain ⟨an, cn, hv3⟩ := row_slice o3
    rw [NL.out] at hv3
    subst hv3
    have A3 := hide (A2.out.step b3)
    have OZ3 := hide (rowsBelow OZ.out b3)
    have O3 := hide o3
    clear b3 A2 OZ o3
    obtain ⟨w4, hw4⟩ : ∃ u, u = w3.alloc (.cells #[.slice an m.length cn] 41) := ⟨_, rfl⟩
    have b4 : Below w3.heap.size w3 w4 := by rw [hw4]; exact below_box _ _
    obtain ⟨g6, hg6⟩ : ∃ u, u = w3.heap.size := ⟨_, rfl⟩
    have x4 : BoxAt w4 g6 #[.slice an m.length cn] 41 := by rw [hw4, hg6]; exact BoxAt.new _ _ _
    have W4 : Hid (w3.alloc (.cells #[.slice an m.length cn] 41) = w4) := hw4.symm
    have G6 := hide hg6.symm
    have A4 := hide (A3.out.step b4)
    have OZ4 := hide (rowsBelow OZ3.out b4)
    have RN := hide (Own.rd (Own.below O3.out b4))
    have X6 := hide x4
    clear hw4 hg6 b4 x4 A3 OZ3 O3
    go_upto_region 5 with fail
    rw [W4.out, G6.out]
    obtain ⟨p0, p1⟩ := (A4.out.atBox 1 rfl).c2
    go_wp2_with fail
    refine (eachRn_calls _ _ vs (nmL bs) g6 _ (R.out.below A4.out.below).2 RN.out (X6.out.cell 0) VX.out (by omega)).mono ?_
    rw [← HY2.out]
    rintro e' w5 ⟨v5, rfl, o5, b5⟩
    obtain ⟨a5, c5, hv5⟩ := row_slice o5
    have YL : Y.length = vs.length := by rw [HY2.out]; simp
    rw [YL] at hv5
    subst hv5
    have pt := PT.start o5 b5
    obtain ⟨w6, hw6⟩ : ∃ u, u = w5.alloc (.cells #[.slice none 0 0, .slice a5 vs.length c5] 43) := ⟨_, rfl⟩
    obtain ⟨gO, hgO⟩ : ∃ u, u = w5.heap.size := ⟨_, rfl⟩
    rw [← hw6, ← hgO] at pt
    have W6 : Hid (w5.alloc (.cells #[.slice none 0 0, .slice a5 vs.length c5] 43) = w6) := hw6.symm
    have GO := hide hgO.symm
    have PT6 := hide pt
    clear pt hw6 hgO o5 b5 YL p0 p1
    go_upto_region 7 with fail
    rw [W6.out, GO.out]
    obtain ⟨p0, p1⟩ := ((A4.out.step PT6.out.low).atBox 1 rfl).c2
    go_wp2
    go_loopw [28] (fun vi wr => ∃ (k : Nat) (va : Option Addr) (vc : Nat) (us : List Value), k ≤ m.length ∧ vi = .int .i64 k ∧ PT w4 wr gO (.slice va (nmF bs k) vc) (.slice a5 vs.length c5) us (trP m bs k) Y) (fun vi _ => m.length - (intOf vi).toNat)
    case atStart => exact ⟨0, none, 0, [], Nat.zero_le _, rfl, PT6.out⟩
    case round =>
      obtain ⟨k, va, vc, us, hk, rfl, hpt⟩ := hrel
      have PT7 := hide hpt
      clear hpt PT6 p0 p1
      by_cases hlt : k < m.length
      · have hlt' : (k : Int) < (m.length : Int) := by omega
        obtain ⟨b, off, u, ks, z, eap, hxx, hu, c0, c1⟩ := (R.out.below (A4.out.step PT7.out.low).below).1.at k hlt
        subst eap
        obtain ⟨ua, uc, rfl, _, _⟩ := hu.slc
        obtain ⟨w8, hw8⟩ : ∃ u, u = wr.alloc (.cells #[.slice ua ks.length uc, .bool z] 104) := ⟨_, rfl⟩
        have b8 : Below wr.heap.size wr w8 := by rw [hw8]; exact below_box _ _
        obtain ⟨g10, hg10⟩ : ∃ u, u = wr.heap.size := ⟨_, rfl⟩
        have x8 : BoxAt w8 g10 #[.slice ua ks.length uc, .bool z] 104 := by rw [hw8, hg10]; exact BoxAt.new _ _ _
        have W8 : Hid (wr.alloc (.cells #[.slice ua ks.length uc, .bool z] 104) = w8) := hw8.symm
        have G10 := hide hg10.symm
        have hb4 := OK.out.2.1 k hlt
        rw [hxx] at hb4
        have H4 : Hid (ks.length = 4) := hb4.1
        have KX : Hid (z = false → ∀ i, i < ks.length → ks.getD i 0 = -1 ∨ (0 ≤ ks.getD i 0 ∧ ks.getD i 0 < ((nmL bs).length : Int))) := fun hz i hi => by
          have h2 := (hb4.2 i hi).2 hz
          rw [NL.out]
          rcases h2 with h2 | h2
          · exact .inl h2
          · exact .inr ⟨h2.1, by have h3 : ks.getD i 0 < (k : Int) := h2.2.1
                                 omega⟩
        have KX2 : Hid (z = false → ∀ i, i < ks.length → ks.getD i 0 = -1 ∨ (0 ≤ ks.getD i 0 ∧ ks.getD i 0 < (bs.length : Int))) := fun hz i hi => by
          have h2 := KX.out hz i hi
          rw [NL.out, ← BL.out] at h2
          exact h2
        obtain ⟨cz, _, _⟩ := own_putZ (rowsBelow OZ4.out (PT7.out.low.trans (b8.mono PT7.out.low.size))) (n := k) (by rw [BL.out]; exact hlt)
        have TS : Hid (trP m bs (k + 1) = trP m bs k ++ (if bs.getD k false = true then [trB bs (m.getD k nd0)] else [])) := rfl
        have NS : Hid (nmF bs (k + 1) = nmF bs k + (if bs.getD k false = true then 1 else 0)) := rfl
        rw [hxx] at TS
        have NN := nmF_le bs k
        obtain ⟨zz, hzz⟩ : ∃ zz, zz = bs.getD k false := ⟨_, rfl⟩
        rw [← hzz] at cz TS NS
        have U8 := hide (hu.below b8)
        have B8 := hide b8
        have X8 := hide x8
        have S8 : Hid (wr.heap.size ≤ g10) := by rw [hg10]; exact Nat.le_refl _
        clear hu hxx hb4 b8 hw8 hg10 x8 hzz
        go_upto_region 10 with fail
        rw [W8.out, G10.out]
        clear c0 c1
        cases zz with
        | false =>
          have e1 : nmF bs (k + 1) = nmF bs k := NS.out
          have e2 : trP m bs (k + 1) = trP m bs k := by rw [TS.out]; simp
          have pt := PT7.out.step B8.out
          rw [← e1, ← e2] at pt
          have PT9 := hide pt
          clear pt e1 e2
          go_wp2
          go_roundw
          case rel => exact ⟨k + 1, va, vc, us, by omega, by go_num, PT9.out⟩
          case measure => simp [intOf]; omega
        | true =>
          have e1 : nmF bs (k + 1) = nmF bs k + 1 := NS.out
          have e2 : trP m bs (k + 1) = trP m bs k ++ [trB bs (ks, z)] := TS.out
          obtain ⟨ys, hys⟩ : ∃ ys, ys = if z = true then ks else ks.map (rnL (nmL bs)) := ⟨_, rfl⟩
          have e3 : trB bs (ks, z) = (ys, z) := by
            rw [hys]
            cases z with
            | true => rfl
            | false =>
              show (ks.map (rnF bs), false) = (ks.map (rnL (nmL bs)), false)
              rw [map_rnL (KX2.out rfl)]
          rw [e3] at e2
          have E1 := hide e1
          have E2 := hide e2
          have HYS := hide hys
          have hk4 : ks.length ≤ 1048576 := by rw [H4.out]; omega
          clear e1 e2 e3 hys
          go_upto_region 11 with fail
          refine wp_region_noPanic ?_
          refine wp_region_held_drew (S := fun w' => w'.cell? ⟨g10, 0, none⟩ = some (.slice ua ks.length uc) ∧ w'.cell? ⟨g10, 1, none⟩ = some (.bool z)) (by kernel_rfl) ((X8.out.below (Below.refl _ _).drew).c2) (fun hHeld => ?_)
          have PTV := hide ((PT7.out.step B8.out).step (Below.refl _ _).drew)
          have BRV := hide ((PT7.out.br.below B8.out).below (Below.refl _ _).drew)
          have Y10 := hide (X8.out.below (Below.refl _ _).drew)
          have UV := hide (U8.out.below (Below.refl _ _).drew)
          clear X8 U8
          have BV8 : Hid (wr.heap.size ≤ (w8.drew).heap.size) := Nat.le_trans B8.out.size (Below.size (Below.refl w8.heap.size w8).drew)
          clear B8
          generalize World.drew _ = V0 at *
          have B0 : Hid (Below V0.heap.size V0 V0) := Below.refl _ _
          refine wpAnyH_take (i := 0) (v := ?v1) rfl (by kernel_rfl) (by kernel_rfl) (by kernel_rfl) (fun _ _ _ h => h) (Or.inl ⟨by rfl, ?hy1⟩) (by assumption) ?rest1
          case hy1 => (intro w' hSw; dsimp only [List.getElem_toArray, List.getElem_cons_zero, List.getElem_cons_succ] at hSw ⊢; go_simp; try (with_reducible rfl))
          try simp only [Act.put, List.getElem_toArray, List.getElem_cons_zero, List.getElem_cons_succ, List.setIfInBounds_toArray, List.set_cons_zero, List.set_cons_succ]
          refine wpAnyH_take (i := 2) (v := ?v2) rfl (by kernel_rfl) (by kernel_rfl) (by kernel_rfl) (fun _ _ _ h => h) (Or.inl ⟨by rfl, ?hy2⟩) (by assumption) ?rest2
          case hy2 => (intro w' hSw; dsimp only [List.getElem_toArray, List.getElem_cons_zero, List.getElem_cons_succ] at hSw ⊢; go_simp; try (with_reducible rfl))
          try simp only [Act.put, List.getElem_toArray, List.getElem_cons_zero, List.getElem_cons_succ, List.setIfInBounds_toArray, List.set_cons_zero, List.set_cons_succ]
          refine wpAnyH_take (i := 3) (v := ?v3) rfl (by kernel_rfl) (by kernel_rfl) (by kernel_rfl) (fun _ _ _ h => h) (Or.inl ⟨by rfl, ?hy3⟩) (by assumption) ?rest3
          case hy3 => (intro w' hSw; dsimp only [List.getElem_toArray, List.getElem_cons_zero, List.getElem_cons_succ] at hSw ⊢; go_simp; try (with_reducible rfl))
          try simp only [Act.put, List.getElem_toArray, List.getElem_cons_zero, List.getElem_cons_succ, List.setIfInBounds_toArray, List.set_cons_zero, List.set_cons_succ]
          refine wpAnyH_ready (rs := [1, 4]) (by kernel_rfl) (by simp) ?_
          refine (AllReadyH.cons rfl (fun K hK => ?_) (AllReadyH.cons rfl (fun K hK => ?_) AllReadyH.nil))
          · obtain ⟨o0, o1⟩ := (PTV.out.out.below B0.out).c2
            dsimp only [List.getElem_toArray, List.getElem_cons_zero, List.getElem_cons_succ]
            go_simp
            clear o0 o1 hHeld
            refine hK.out _ _ ((Y10.out.below B0.out).c2) (fun hHeld => ?_)
            clear hK K
            try simp only [Act.put, List.getElem_toArray, List.getElem_cons_zero, List.getElem_cons_succ, List.setIfInBounds_toArray, List.set_cons_zero, List.set_cons_succ]
            refine wpAnyH_ready (rs := [4]) (by kernel_rfl) (by simp) ?_
            refine (AllReadyH.cons rfl (fun K hK => ?_) AllReadyH.nil)
            dsimp only [List.getElem_toArray, List.getElem_cons_zero, List.getElem_cons_succ]
            go_simp
            refine (renamed_calls _ _ ks (nmL bs) ys z g6 _ UV.out (RN.out.below PTV.out.low) ((X6.out.below PTV.out.low).cell 0) KX.out hk4 HYS.out).mono ?_
            rintro e' uA ⟨ra1, rk1, rfl, o1, q⟩
            have O1 := hide o1
            have BA := hide (B0.out.trans q)
            clear o1 q hHeld
            refine hK.out _ _ ((Y10.out.below BA.out).c2) (fun hHeld => ?_)
            clear hK K
            try simp only [Act.put, List.getElem_toArray, List.getElem_cons_zero, List.getElem_cons_succ, List.setIfInBounds_toArray, List.set_cons_zero, List.set_cons_succ]
            refine wpAnyH_ready (rs := [5]) (by kernel_rfl) (by simp) ?_
            refine (AllReadyH.cons rfl (fun K hK => ?_) AllReadyH.nil)
            dsimp only [List.getElem_toArray, List.getElem_cons_zero, List.getElem_cons_succ]
            go_simp
            have bb := below_box uA (.cells #[.slice ra1 ys.length rk1, .bool z] 104)
            have xx := BoxAt.new uA #[.slice ra1 ys.length rk1, .bool z] 104
            obtain ⟨gx, hgx⟩ : ∃ gx, gx = uA.heap.size := ⟨_, rfl⟩
            rw [← hgx] at xx ⊢
            generalize uA.alloc (.cells #[.slice ra1 ys.length rk1, .bool z] 104) = uB at bb xx ⊢
            have XX := hide xx
            have S1 := hide (Own.below O1.out bb)
            have BB := hide (BA.out.trans (bb.mono BA.out.size))
            clear bb xx hgx hHeld O1
            refine hK.out _ _ ((Y10.out.below BB.out).c2) (fun hHeld => ?_)
            clear hK K
            try simp only [Act.put, List.getElem_toArray, List.getElem_cons_zero, List.getElem_cons_succ, List.setIfInBounds_toArray, List.set_cons_zero, List.set_cons_succ]
            refine wpAnyH_ready (rs := [6]) (by kernel_rfl) (by simp) ?_
            refine (AllReadyH.cons rfl (fun K hK => ?_) AllReadyH.nil)
            refine step_app_br1 (by rfl) (.tmp 38) (.tmp 42) (by rfl) w4.heap.size wr.heap.size (.slice va (nmF bs k) vc) (by rfl) _ us _ (trP m bs k) (BRV.out.below BB.out) gx (by rfl) ra1 ys.length rk1 (ys, z) XX.out (ownsRow_mono S1.out (Nat.le_trans PT7.out.low.size BV8.out)) (fun b hb => Nat.le_trans BV8.out (World.ownsRow.lt S1.out b hb).1) (Nat.le_trans BV8.out BB.out.size) (by rw [trP_len]; omega) (Nat.le_trans PT7.out.low.size (Nat.le_trans BV8.out BB.out.size)) ?_
            intro v6 wc n6 g6c
            have ptc := PTV.out.step BB.out
            obtain ⟨bo, pt8, _⟩ := ptc.appB n6 g6c
            obtain ⟨va6, vc6, hv6⟩ := n6.slice
            have eL : (trP m bs k ++ [(ys, z)]).length = nmF bs (k + 1) := by rw [← E2.out, trP_len]
            rw [eL] at hv6
            subst hv6
            rw [← E2.out] at pt8
            have y10 := (Y10.out.below BB.out).kept g6c (fun e => by have := PT7.out.br.top g10 e; have := S8.out; omega)
            have PT10 := hide pt8
            have BO := hide bo
            have Z10 := hide y10
            clear n6 g6c bo pt8 y10 hHeld ptc Y10 S1 XX eL
            refine hK.out _ _ (Z10.out.c2) (fun hHeld => ?_)
            clear hK K
            try simp only [Act.put, List.getElem_toArray, List.getElem_cons_zero, List.getElem_cons_succ, List.setIfInBounds_toArray, List.set_cons_zero, List.set_cons_succ]
            refine wpAnyH_take (i := 7) (v := ?v4) rfl (by kernel_rfl) (by kernel_rfl) (by kernel_rfl) (fun _ _ _ h => h) (Or.inl ⟨by rfl, ?hy4⟩) (by assumption) ?rest4
            case hy4 => (intro w' hSw; dsimp only [List.getElem_toArray, List.getElem_cons_zero, List.getElem_cons_succ] at hSw ⊢; go_simp; try (with_reducible rfl))
            try simp only [Act.put, List.getElem_toArray, List.getElem_cons_zero, List.getElem_cons_succ, List.setIfInBounds_toArray, List.set_cons_zero, List.set_cons_succ]
            refine wpAnyH_ready (rs := [8]) (by kernel_rfl) (by simp) ?_
            refine (AllReadyH.cons rfl (fun K hK => ?_) AllReadyH.nil)
            obtain ⟨q0, q1⟩ := BO.out.c2
            have qf := BO.out.frozen 0
            dsimp only [List.getElem_toArray, List.getElem_cons_zero, List.getElem_cons_succ]
            go_simp
            clear q0 q1 qf hHeld
            refine hK.out _ _ ((Z10.out.other (by have := PT7.out.out.lt; have := S8.out; omega)).c2) (fun hHeld => ?_)
            clear hK K
            try simp only [Act.put, List.getElem_toArray, List.getElem_cons_zero, List.getElem_cons_succ, List.setIfInBounds_toArray, List.set_cons_zero, List.set_cons_succ]
            refine wpAnyH_done (by kernel_rfl) ?_ _
            refine NoPanic.normal ?_
            clear hHeld Z10 BO
            go_wp2
            go_roundw
            case rel => exact ⟨k + 1, va6, vc6, _, by omega, by go_num, PT10.out⟩
            case measure => simp [intOf]; omega
          · dsimp only [List.getElem_toArray, List.getElem_cons_zero, List.getElem_cons_succ]
            go_simp
            refine (renamed_calls _ _ ks (nmL bs) ys z g6 _ UV.out (RN.out.below PTV.out.low) ((X6.out.below PTV.out.low).cell 0) KX.out hk4 HYS.out).mono ?_
            rintro e' uA ⟨ra1, rk1, rfl, o1, q⟩
            have O1 := hide o1
            have BA := hide (B0.out.trans q)
            clear o1 q hHeld
            refine hK.out _ _ ((Y10.out.below BA.out).c2) (fun hHeld => ?_)
            clear hK K
            try simp only [Act.put, List.getElem_toArray, List.getElem_cons_zero, List.getElem_cons_succ, List.setIfInBounds_toArray, List.set_cons_zero, List.set_cons_succ]
            refine wpAnyH_ready (rs := [1, 5]) (by kernel_rfl) (by simp) ?_
            refine (AllReadyH.cons rfl (fun K hK => ?_) (AllReadyH.cons rfl (fun K hK => ?_) AllReadyH.nil))
            · obtain ⟨o0, o1⟩ := (PTV.out.out.below BA.out).c2
              dsimp only [List.getElem_toArray, List.getElem_cons_zero, List.getElem_cons_succ]
              go_simp
              clear o0 o1 hHeld
              refine hK.out _ _ ((Y10.out.below BA.out).c2) (fun hHeld => ?_)
              clear hK K
              try simp only [Act.put, List.getElem_toArray, List.getElem_cons_zero, List.getElem_cons_succ, List.setIfInBounds_toArray, List.set_cons_zero, List.set_cons_succ]
              refine wpAnyH_ready (rs := [5]) (by kernel_rfl) (by simp) ?_
              refine (AllReadyH.cons rfl (fun K hK => ?_) AllReadyH.nil)
              dsimp only [List.getElem_toArray, List.getElem_cons_zero, List.getElem_cons_succ]
              go_simp
              have bb := below_box uA (.cells #[.slice ra1 ys.length rk1, .bool z] 104)
              have xx := BoxAt.new uA #[.slice ra1 ys.length rk1, .bool z] 104
              obtain ⟨gx, hgx⟩ : ∃ gx, gx = uA.heap.size := ⟨_, rfl⟩
              rw [← hgx] at xx ⊢
              generalize uA.alloc (.cells #[.slice ra1 ys.length rk1, .bool z] 104) = uB at bb xx ⊢
              have XX := hide xx
              have S1 := hide (Own.below O1.out bb)
              have BB := hide (BA.out.trans (bb.mono BA.out.size))
              clear bb xx hgx hHeld O1
              refine hK.out _ _ ((Y10.out.below BB.out).c2) (fun hHeld => ?_)
              clear hK K
              try simp only [Act.put, List.getElem_toArray, List.getElem_cons_zero, List.getElem_cons_succ, List.setIfInBounds_toArray, List.set_cons_zero, List.set_cons_succ]
              refine wpAnyH_ready (rs := [6]) (by kernel_rfl) (by simp) ?_
              refine (AllReadyH.cons rfl (fun K hK => ?_) AllReadyH.nil)
              refine step_app_br1 (by rfl) (.tmp 38) (.tmp 42) (by rfl) w4.heap.size wr.heap.size (.slice va (nmF bs k) vc) (by rfl) _ us _ (trP m bs k) (BRV.out.below BB.out) gx (by rfl) ra1 ys.length rk1 (ys, z) XX.out (ownsRow_mono S1.out (Nat.le_trans PT7.out.low.size BV8.out)) (fun b hb => Nat.le_trans BV8.out (World.ownsRow.lt S1.out b hb).1) (Nat.le_trans BV8.out BB.out.size) (by rw [trP_len]; omega) (Nat.le_trans PT7.out.low.size (Nat.le_trans BV8.out BB.out.size)) ?_
              intro v6 wc n6 g6c
              have ptc := PTV.out.step BB.out
              obtain ⟨bo, pt8, _⟩ := ptc.appB n6 g6c
              obtain ⟨va6, vc6, hv6⟩ := n6.slice
              have eL : (trP m bs k ++ [(ys, z)]).length = nmF bs (k + 1) := by rw [← E2.out, trP_len]
              rw [eL] at hv6
              subst hv6
              rw [← E2.out] at pt8
              have y10 := (Y10.out.below BB.out).kept g6c (fun e => by have := PT7.out.br.top g10 e; have := S8.out; omega)
              have PT10 := hide pt8
              have BO := hide bo
              have Z10 := hide y10
              clear n6 g6c bo pt8 y10 hHeld ptc Y10 S1 XX eL
              refine hK.out _ _ (Z10.out.c2) (fun hHeld => ?_)
              clear hK K
              try simp only [Act.put, List.getElem_toArray, List.getElem_cons_zero, List.getElem_cons_succ, List.setIfInBounds_toArray, List.set_cons_zero, List.set_cons_succ]
              refine wpAnyH_take (i := 7) (v := ?v5) rfl (by kernel_rfl) (by kernel_rfl) (by kernel_rfl) (fun _ _ _ h => h) (Or.inl ⟨by rfl, ?hy5⟩) (by assumption) ?rest5
              case hy5 => (intro w' hSw; dsimp only [List.getElem_toArray, List.getElem_cons_zero, List.getElem_cons_succ] at hSw ⊢; go_simp; try (with_reducible rfl))
              try simp only [Act.put, List.getElem_toArray, List.getElem_cons_zero, List.getElem_cons_succ, List.setIfInBounds_toArray, List.set_cons_zero, List.set_cons_succ]
              refine wpAnyH_ready (rs := [8]) (by kernel_rfl) (by simp) ?_
              refine (AllReadyH.cons rfl (fun K hK => ?_) AllReadyH.nil)
              obtain ⟨q0, q1⟩ := BO.out.c2
              have qf := BO.out.frozen 0
              dsimp only [List.getElem_toArray, List.getElem_cons_zero, List.getElem_cons_succ]
              go_simp
              clear q0 q1 qf hHeld
              refine hK.out _ _ ((Z10.out.other (by have := PT7.out.out.lt; have := S8.out; omega)).c2) (fun hHeld => ?_)
              clear hK K
              try simp only [Act.put, List.getElem_toArray, List.getElem_cons_zero, List.getElem_cons_succ, List.setIfInBounds_toArray, List.set_cons_zero, List.set_cons_succ]
              refine wpAnyH_done (by kernel_rfl) ?_ _
              refine NoPanic.normal ?_
              clear hHeld Z10 BO
              go_wp2
              go_roundw
              case rel => exact ⟨k + 1, va6, vc6, _, by omega, by go_num, PT10.out⟩
              case measure => simp [intOf]; omega
            · dsimp only [List.getElem_toArray, List.getElem_cons_zero, List.getElem_cons_succ]
              go_simp
              have bb := below_box uA (.cells #[.slice ra1 ys.length rk1, .bool z] 104)
              have xx := BoxAt.new uA #[.slice ra1 ys.length rk1, .bool z] 104
              obtain ⟨gx, hgx⟩ : ∃ gx, gx = uA.heap.size := ⟨_, rfl⟩
              rw [← hgx] at xx ⊢
              generalize uA.alloc (.cells #[.slice ra1 ys.length rk1, .bool z] 104) = uB at bb xx ⊢
              have XX := hide xx
              have S1 := hide (Own.below O1.out bb)
              have BB := hide (BA.out.trans (bb.mono BA.out.size))
              clear bb xx hgx hHeld O1
              refine hK.out _ _ ((Y10.out.below BB.out).c2) (fun hHeld => ?_)
              clear hK K
              try simp only [Act.put, List.getElem_toArray, List.getElem_cons_zero, List.getElem_cons_succ, List.setIfInBounds_toArray, List.set_cons_zero, List.set_cons_succ]
              refine wpAnyH_ready (rs := [1]) (by kernel_rfl) (by simp) ?_
              refine (AllReadyH.cons rfl (fun K hK => ?_) AllReadyH.nil)
              obtain ⟨o0, o1⟩ := (PTV.out.out.below BB.out).c2
              dsimp only [List.getElem_toArray, List.getElem_cons_zero, List.getElem_cons_succ]
              go_simp
              clear o0 o1 hHeld
              refine hK.out _ _ ((Y10.out.below BB.out).c2) (fun hHeld => ?_)
              clear hK K
              try simp only [Act.put, List.getElem_toArray, List.getElem_cons_zero, List.getElem_cons_succ, List.setIfInBounds_toArray, List.set_cons_zero, List.set_cons_succ]
              refine wpAnyH_ready (rs := [6]) (by kernel_rfl) (by simp) ?_
              refine (AllReadyH.cons rfl (fun K hK => ?_) AllReadyH.nil)
              refine step_app_br1 (by rfl) (.tmp 38) (.tmp 42) (by rfl) w4.heap.size wr.heap.size (.slice va (nmF bs k) vc) (by rfl) _ us _ (trP m bs k) (BRV.out.below BB.out) gx (by rfl) ra1 ys.length rk1 (ys, z) XX.out (ownsRow_mono S1.out (Nat.le_trans PT7.out.low.size BV8.out)) (fun b hb => Nat.le_trans BV8.out (World.ownsRow.lt S1.out b hb).1) (Nat.le_trans BV8.out BB.out.size) (by rw [trP_len]; omega) (Nat.le_trans PT7.out.low.size (Nat.le_trans BV8.out BB.out.size)) ?_
              intro v6 wc n6 g6c
              have ptc := PTV.out.step BB.out
              obtain ⟨bo, pt8, _⟩ := ptc.appB n6 g6c
              obtain ⟨va6, vc6, hv6⟩ := n6.slice
              have eL : (trP m bs k ++ [(ys, z)]).length = nmF bs (k + 1) := by rw [← E2.out, trP_len]
              rw [eL] at hv6
              subst hv6
              rw [← E2.out] at pt8
              have y10 := (Y10.out.below BB.out).kept g6c (fun e => by have := PT7.out.br.top g10 e; have := S8.out; omega)
              have PT10 := hide pt8
              have BO := hide bo
              have Z10 := hide y10
              clear n6 g6c bo pt8 y10 hHeld ptc Y10 S1 XX eL
              refine hK.out _ _ (Z10.out.c2) (fun hHeld => ?_)
              clear hK K
              try simp only [Act.put, List.getElem_toArray, List.getElem_cons_zero, List.getElem_cons_succ, List.setIfInBounds_toArray, List.set_cons_zero, List.set_cons_succ]
              refine wpAnyH_take (i := 7) (v := ?v6) rfl (by kernel_rfl) (by kernel_rfl) (by kernel_rfl) (fun _ _ _ h => h) (Or.inl ⟨by rfl, ?hy6⟩) (by assumption) ?rest6
              case hy6 => (intro w' hSw; dsimp only [List.getElem_toArray, List.getElem_cons_zero, List.getElem_cons_succ] at hSw ⊢; go_simp; try (with_reducible rfl))
              try simp only [Act.put, List.getElem_toArray, List.getElem_cons_zero, List.getElem_cons_succ, List.setIfInBounds_toArray, List.set_cons_zero, List.set_cons_succ]
              refine wpAnyH_ready (rs := [8]) (by kernel_rfl) (by simp) ?_
              refine (AllReadyH.cons rfl (fun K hK => ?_) AllReadyH.nil)
              obtain ⟨q0, q1⟩ := BO.out.c2
              have qf := BO.out.frozen 0
              dsimp only [List.getElem_toArray, List.getElem_cons_zero, List.getElem_cons_succ]
              go_simp
              clear q0 q1 qf hHeld
              refine hK.out _ _ ((Z10.out.other (by have := PT7.out.out.lt; have := S8.out; omega)).c2) (fun hHeld => ?_)
              clear hK K
              try simp only [Act.put, List.getElem_toArray, List.getElem_cons_zero, List.getElem_cons_succ, List.setIfInBounds_toArray, List.set_cons_zero, List.set_cons_succ]
              refine wpAnyH_done (by kernel_rfl) ?_ _
              refine NoPanic.normal ?_
              clear hHeld Z10 BO
              go_wp2
              go_roundw
              case rel => exact ⟨k + 1, va6, vc6, _, by omega, by go_num, PT10.out⟩
              case measure => simp [intOf]; omega
      · obtain rfl : k = m.length := by omega
        have PT8 := hide PT7.out
        have NN := nmF_le bs m.length
        have HW3 := hide HW2.out
        obtain ⟨nn, hnn⟩ : ∃ nn, nn = nmF bs m.length := ⟨_, rfl⟩
        rw [← hnn] at NN PT8 HW3
        have pt := PT8.out
        rw [← HX2.out] at pt
        have PT9 := hide pt
        clear PT7 PT8 pt hnn
        go_upto_region 13 with fail
        refine wp_region_noPanic ?_
        refine wp_region_held_drew (S := fun w' => (w'.cell? ⟨gO, 0, none⟩ = some (.slice va nn vc) ∧ w'.cell? ⟨gO, 1, none⟩ = some (.slice a5 vs.length c5)) ∧ (w'.cell? ⟨w.heap.size, 0, none⟩ = some (.slice ap m.length cp) ∧ w'.cell? ⟨w.heap.size, 1, none⟩ = some (.slice ar vs.length cr))) (by kernel_rfl) (⟨(PT9.out.step (Below.refl _ _).drew).out.c2, ((A4.out.step (PT9.out.step (Below.refl _ _).drew).low).atBox 1 rfl).c2⟩) (fun hHeld => ?_)
        have PTV := hide (PT9.out.step (Below.refl _ _).drew)
        clear PT9
        generalize World.drew _ = V0 at *
        refine wpAnyH_take (i := 0) (v := ?v7) rfl (by kernel_rfl) (by kernel_rfl) (by kernel_rfl) (fun _ _ _ h => h) (Or.inl ⟨by rfl, ?hy7⟩) (by assumption) ?rest7
        case hy7 => (intro w' hSw; dsimp only [List.getElem_toArray, List.getElem_cons_zero, List.getElem_cons_succ] at hSw ⊢; go_simp; try (with_reducible rfl))
        try simp only [Act.put, List.getElem_toArray, List.getElem_cons_zero, List.getElem_cons_succ, List.setIfInBounds_toArray, List.set_cons_zero, List.set_cons_succ]
        refine wpAnyH_take (i := 1) (v := ?v8) rfl (by kernel_rfl) (by kernel_rfl) (by kernel_rfl) (fun _ _ _ h => h) (Or.inl ⟨by rfl, ?hy8⟩) (by assumption) ?rest8
        case hy8 => (intro w' hSw; dsimp only [List.getElem_toArray, List.getElem_cons_zero, List.getElem_cons_succ] at hSw ⊢; go_simp; try (with_reducible rfl))
        try simp only [Act.put, List.getElem_toArray, List.getElem_cons_zero, List.getElem_cons_succ, List.setIfInBounds_toArray, List.set_cons_zero, List.set_cons_succ]
        refine wpAnyH_take (i := 2) (v := ?v9) rfl (by kernel_rfl) (by kernel_rfl) (by kernel_rfl) (fun _ _ _ h => h) (Or.inl ⟨by rfl, ?hy9⟩) (by assumption) ?rest9
        case hy9 => (intro w' hSw; dsimp only [List.getElem_toArray, List.getElem_cons_zero, List.getElem_cons_succ] at hSw ⊢; go_simp; try (with_reducible rfl))
        try simp only [Act.put, List.getElem_toArray, List.getElem_cons_zero, List.getElem_cons_succ, List.setIfInBounds_toArray, List.set_cons_zero, List.set_cons_succ]
        refine wpAnyH_take (i := 3) (v := ?v10) rfl (by kernel_rfl) (by kernel_rfl) (by kernel_rfl) (fun _ _ _ h => h) (Or.inl ⟨by rfl, ?hy10⟩) (by assumption) ?rest10
        case hy10 => (intro w' hSw; dsimp only [List.getElem_toArray, List.getElem_cons_zero, List.getElem_cons_succ] at hSw ⊢; go_simp; try (with_reducible rfl))
        try simp only [Act.put, List.getElem_toArray, List.getElem_cons_zero, List.getElem_cons_succ, List.setIfInBounds_toArray, List.set_cons_zero, List.set_cons_succ]
        refine wpAnyH_take (i := 4) (v := ?v11) rfl (by kernel_rfl) (by kernel_rfl) (by kernel_rfl) (fun _ _ _ h => h) (Or.inl ⟨by rfl, ?hy11⟩) (by assumption) ?rest11
        case hy11 => (intro w' hSw; dsimp only [List.getElem_toArray, List.getElem_cons_zero, List.getElem_cons_succ] at hSw ⊢; go_simp; try (with_reducible rfl))
        try simp only [Act.put, List.getElem_toArray, List.getElem_cons_zero, List.getElem_cons_succ, List.setIfInBounds_toArray, List.set_cons_zero, List.set_cons_succ]
        refine wpAnyH_take (i := 5) (v := ?v12) rfl (by kernel_rfl) (by kernel_rfl) (by kernel_rfl) (fun _ _ _ h => h) (Or.inl ⟨by rfl, ?hy12⟩) (by assumption) ?rest12
        case hy12 => (intro w' hSw; dsimp only [List.getElem_toArray, List.getElem_cons_zero, List.getElem_cons_succ] at hSw ⊢; go_simp; try (with_reducible rfl))
        try simp only [Act.put, List.getElem_toArray, List.getElem_cons_zero, List.getElem_cons_succ, List.setIfInBounds_toArray, List.set_cons_zero, List.set_cons_succ]
        refine wpAnyH_take (i := 6) (v := ?v13) rfl (by kernel_rfl) (by kernel_rfl) (by kernel_rfl) (fun _ _ _ h => h) (Or.inl ⟨by rfl, ?hy13⟩) (by assumption) ?rest13
        case hy13 => (intro w' hSw; dsimp only [List.getElem_toArray, List.getElem_cons_zero, List.getElem_cons_succ] at hSw ⊢; go_simp; try (with_reducible rfl))
        try simp only [Act.put, List.getElem_toArray, List.getElem_cons_zero, List.getElem_cons_succ, List.setIfInBounds_toArray, List.set_cons_zero, List.set_cons_succ]
        refine wpAnyH_take (i := 7) (v := ?v14) rfl (by kernel_rfl) (by kernel_rfl) (by kernel_rfl) (fun _ _ _ h => h) (Or.inl ⟨by rfl, ?hy14⟩) (by assumption) ?rest14
        case hy14 => (intro w' hSw; dsimp only [List.getElem_toArray, List.getElem_cons_zero, List.getElem_cons_succ] at hSw ⊢; go_simp; try (with_reducible rfl))
        try simp only [Act.put, List.getElem_toArray, List.getElem_cons_zero, List.getElem_cons_succ, List.setIfInBounds_toArray, List.set_cons_zero, List.set_cons_succ]
        refine wpAnyH_ready (rs := [8]) (by kernel_rfl) (by simp) ?_
        refine (AllReadyH.cons rfl (fun K hK => ?_) AllReadyH.nil)
        have xr := (A4.out.step PTV.out.low).atBox 0 rfl
        obtain ⟨d0, d1⟩ := xr.c2
        have f0 := xr.frozen 0
        have f1 := xr.frozen 1
        dsimp only [List.getElem_toArray, List.getElem_cons_zero, List.getElem_cons_succ]
        go_simp
        clear d0 d1 f0 f1 hHeld
        have FIN := hide (PTV.out.fin (A4.out.atBox 0 rfl) A4.out.below (by omega))
        have xo := (PTV.out.out.other (g' := w.heap.size + 1) (j := 0) (x := .slice va nn vc) (by have := PTV.out.l2; have := (A4.out.atBox 0 rfl).lt; omega)).other (g' := w.heap.size + 1) (j := 1) (x := .slice a5 vs.length c5) (by have := PTV.out.l2; have := (A4.out.atBox 0 rfl).lt; omega)
        have xa := (((A4.out.step PTV.out.low).atBox 1 rfl).other (g' := w.heap.size + 1) (j := 0) (x := .slice va nn vc) (by omega)).other (g' := w.heap.size + 1) (j := 1) (x := .slice a5 vs.length c5) (by omega)
        clear xr
        refine hK.out _ _ (⟨xo.c2, xa.c2⟩) (fun hHeld => ?_)
        clear hK K
        try simp only [Act.put, List.getElem_toArray, List.getElem_cons_zero, List.getElem_cons_succ, List.setIfInBounds_toArray, List.set_cons_zero, List.set_cons_succ]
        refine wpAnyH_take (i := 9) (v := ?v15) rfl (by kernel_rfl) (by kernel_rfl) (by kernel_rfl) (fun _ _ _ h => h) (Or.inl ⟨by rfl, ?hy15⟩) (by assumption) ?rest15
        case hy15 => (intro w' hSw; dsimp only [List.getElem_toArray, List.getElem_cons_zero, List.getElem_cons_succ] at hSw ⊢; go_simp; try (with_reducible rfl))
        try simp only [Act.put, List.getElem_toArray, List.getElem_cons_zero, List.getElem_cons_succ, List.setIfInBounds_toArray, List.set_cons_zero, List.set_cons_succ]
        refine wpAnyH_take (i := 10) (v := ?v16) rfl (by kernel_rfl) (by kernel_rfl) (by kernel_rfl) (fun _ _ _ h => h) (Or.inl ⟨by rfl, ?hy16⟩) (by assumption) ?rest16
        case hy16 => (intro w' hSw; dsimp only [List.getElem_toArray, List.getElem_cons_zero, List.getElem_cons_succ] at hSw ⊢; go_simp; try (with_reducible rfl))
        try simp only [Act.put, List.getElem_toArray, List.getElem_cons_zero, List.getElem_cons_succ, List.setIfInBounds_toArray, List.set_cons_zero, List.set_cons_succ]
        refine wpAnyH_done (by kernel_rfl) ?_ _
        refine NoPanic.normal ?_
        clear hHeld xo xa
        go_wp2
        refine bodyPost_ret (res_pl3 rfl _ _ (w.heap.size + 1) _ _ (0, 0) rfl FIN.out.1) rfl ⟨_, _, ?_, FIN.out.2.1, FIN.out.2.2⟩
        rw [HW3.out]
        have ew := wrap_few ((m.length : Int) - (nn : Int)) (by omega) (by omega)
        exact congrArg (fun q => Ending.returned (.tuple #[.agg #[.slice va nn vc, .slice a5 vs.length c5], .int .i64 q, .bool true])) ew
end Go.Proofs.Ythmijjcddjlebaa

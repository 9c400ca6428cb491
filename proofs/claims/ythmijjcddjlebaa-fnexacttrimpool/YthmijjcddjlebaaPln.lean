/-
  TrimPool by the model. The contract says what it asks.
-/
import Derived.Test.YthmijjcddjlebaaPlm
namespace Go.Proofs.Ythmijjcddjlebaa
open Go.RowKit
set_option linter.unusedVariables false

theorem take_map_snoc {α β : Type} (f : α → β) (l : List α) (k : Nat) (d : α) (h : k < l.length) : (l.take (k + 1)).map f = (l.take k).map f ++ [f (l.getD k d)] := by
  rw [take_succ_getD l k d h, List.map_append]; rfl

set_option linter.unusedSimpArgs false in
set_option maxRecDepth 100000 in
set_option maxHeartbeats 12800000 in
theorem sTrimPool_calls (p r : Value) (m : List Nd) (vs : List Int) (t : Bool) (y : Int) (w : World) (h : RdP w p r m vs) (ht : t = true ↔ okP m vs) (hy : y = if t = true then trW m vs else 0) :
    Calls Try.prog 48 #[.agg #[p, r]] w fun e' w' => ∃ p' r', e' = .returned (.tuple #[.agg #[p', r'], .int .i64 y, .bool t]) ∧ TPol p' r' (gX t (trX m vs)) (gX t (trY m vs)) w.heap.size w'.heap.size w' ∧ Below w.heap.size w w' := by
  have R := hide h
  obtain ⟨⟨ap, cp, rfl, hq1, hq2, _⟩, ⟨ar, cr, rfl, hr1, hr2, _⟩⟩ := h
  have A0 := hide (Hand.twoN w #[.slice ap m.length cp, .slice ar vs.length cr] nilP 43 43)
  obtain ⟨X, hX⟩ : ∃ X, X = gX t (trX m vs) := ⟨_, rfl⟩
  obtain ⟨Y, hY⟩ : ∃ Y, Y = gX t (trY m vs) := ⟨_, rfl⟩
  rw [← hX, ← hY]
  have HX := hide hX
  have HY := hide hY
  have HT := hide ht
  have HW := hide hy
  clear ht hr1 hr2 hX hY hq1 hq2 hy
  go_enter Try.func48, Try.ntmps48
  go_wp2_with fail
  refine (sGoodPool_calls _ _ m vs t _ (R.out.below A0.out.below) HT.out).mono ?_
  rintro e' w1 ⟨rfl, b0⟩
  have A1 := hide (A0.out.step b0)
  clear b0 A0
  obtain ⟨p0, p1⟩ := (A1.out.atBox 1 rfl).c2
  cases t with
  | false =>
    obtain rfl : X = [] := HX.out
    obtain rfl : Y = [] := HY.out
    obtain rfl : y = 0 := HW.out
    have x9 := A1.out.atBox 0 rfl
    obtain ⟨z0, z1⟩ := x9.c2
    have f0 := x9.frozen 0
    have f1 := x9.frozen 1
    have A9 := hide (A1.out.store2 0 rfl nilRow nilRow)
    clear x9 A1
    go_wp2
    exact bodyPost_ret (res_pl3 rfl _ _ (w.heap.size + 1) _ _ (0, 0) rfl (A9.out.atBox 0 rfl)) rfl ⟨_, _, rfl, TPol.nil _ _ _, A9.out.below⟩
  | true =>
    have OK := hide (HT.out.1 rfl)
    have h200 : m.length ≤ 200 := OK.out.1.1
    have h40 : vs.length ≤ 40 := OK.out.1.2
    obtain ⟨bs, hbs⟩ : ∃ bs, bs = cmP m vs := ⟨_, rfl⟩
    have BL : Hid (bs.length = m.length) := by show _ = _; rw [hbs]; exact cmP_len m vs
    have CL : Hid (Cls m bs) := by rw [hbs]; exact cmP_cls OK.out
    have CV : Hid (∀ v ∈ vs, v ≠ -1 → bs.getD v.toNat false = true) := by rw [hbs]; exact fun v hv h1 => cmP_ver OK.out v hv h1
    have HX2 : Hid (X = trP m bs m.length) := by rw [hbs]; exact HX.out
    have HY2 : Hid (Y = vs.map (rnF bs)) := by rw [hbs]; exact HY.out
    have HW2 : Hid (y = (m.length : Int) - (nmF bs m.length : Int)) := by rw [hbs]; exact HW.out
    obtain ⟨L, hL⟩ : ∃ L, L = selF 0 bs := ⟨_, rfl⟩
    have LL : Hid (L.length = nmF bs m.length) := by
      show _ = _
      have := selF_num bs bs.length (Nat.le_refl _)
      rw [List.take_length, ← hL] at this
      rw [this, BL.out]
    have LX : Hid (L.map (fun x => trB bs (m.getD x.toNat nd0)) = X) := by
      show _ = _
      have := trP_sel m bs bs.length (Nat.le_refl _)
      rw [List.take_length, ← hL] at this
      rw [this, BL.out, HX2.out]
    have LF : Hid (∀ x, (x = -1 ∨ (0 ≤ x ∧ x < (bs.length : Int) ∧ bs.getD x.toNat false = true)) → Fst L x (rnF bs x)) := by rw [hL]; exact fst_rn bs
    have LM : Hid (∀ j, j < L.length → ∃ n : Nat, L.getD j 0 = (n : Int) ∧ n < m.length ∧ bs.getD n false = true) := by
      intro j hj
      have hm : L.getD j 0 ∈ selF 0 bs := by
        rw [← hL, List.getD_eq_getElem?_getD, List.getElem?_eq_getElem hj]
        exact List.getElem_mem _
      have g1 := selF_ge bs 0 _ hm
      have g2 := selF_lt bs 0 _ hm
      have g1' : (0 : Int) ≤ L.getD j 0 := g1
      obtain ⟨n, hn⟩ : ∃ n : Nat, L.getD j 0 = (n : Int) := ⟨(L.getD j 0).toNat, by omega⟩
      rw [hn] at hm g2
      have g3 := (selF_mem bs 0 n).1 (by rw [Nat.zero_add]; exact hm)
      have g2' : (n : Int) < ((0 + bs.length : Nat) : Int) := g2
      exact ⟨n, hn, by rw [← BL.out]; omega, g3⟩
    obtain ⟨Q, hQ⟩ : ∃ Q : Nat → List Nd, Q = fun j => (L.take j).map (fun x => trB bs (m.getD x.toNat nd0)) := ⟨_, rfl⟩
    have Q0 : Hid (Q 0 = []) := by rw [hQ]; rfl
    have QS : Hid (∀ j, j < L.length → Q (j + 1) = Q j ++ [trB bs (m.getD (L.getD j 0).toNat nd0)]) := by rw [hQ]; exact fun j hj => take_map_snoc _ L j 0 hj
    have QE : Hid (Q L.length = X) := by show _ = _; rw [hQ]; show (L.take L.length).map _ = X; rw [List.take_length]; exact LX.out
    have QL : Hid (∀ j, j ≤ L.length → (Q j).length = j) := by rw [hQ]; intro j hj; show ((L.take j).map _).length = j; rw [List.length_map, List.length_take]; omega
    clear hQ
    have NLE := nmF_le bs m.length
    have hLl : L.length ≤ 200 := by rw [LL.out]; omega
    have CM := hide hbs
    have HL := hide hL
    clear HT HX HY HW hbs hL
    go_wp2_with fail
    refine (l11Used_calls _ _ m vs _ (R.out.below A1.out.below) OK.out).mono ?_
    rw [← CM.out, ← HL.out]
    rintro e' w2 ⟨vu, rfl, ou, b2⟩
    obtain ⟨au, cu, rfl⟩ := row_slice ou
    have A2 := hide (A1.out.step b2)
    have RU := hide (Own.rd ou)
    clear b2 A1 ou p0 p1
    have pt := PT.start (W := w2) (v := .slice none 0 0) (vs := []) (World.ownsRow_nil _ _ _ _) (Below.refl w2.heap.size w2)
    obtain ⟨w3, hw3⟩ : ∃ u, u = w2.alloc (.cells #[.slice none 0 0, .slice none 0 0] 43) := ⟨_, rfl⟩
    obtain ⟨gO, hgO⟩ : ∃ u, u = w2.heap.size := ⟨_, rfl⟩
    rw [← hw3, ← hgO] at pt
    have W3 : Hid (w2.alloc (.cells #[.slice none 0 0, .slice none 0 0] 43) = w3) := hw3.symm
    have GO := hide hgO.symm
    have PT3 := hide pt
    clear pt hw3 hgO
    go_upto_region 5 with fail
    rw [W3.out, GO.out]
    go_wp2
    go_loopw [22] (fun vi wr => ∃ (j : Nat) (va : Option Addr) (vc : Nat) (us : List Value), j ≤ L.length ∧ vi = .int .i64 j ∧ PT w2 wr gO (.slice va j vc) (.slice none 0 0) us (Q j) []) (fun vi _ => L.length - (intOf vi).toNat)
    case atStart => exact ⟨0, none, 0, [], Nat.zero_le _, rfl, by rw [Q0.out]; exact PT3.out⟩
    case round =>
      obtain ⟨j, va, vc, us, hj, rfl, hpt⟩ := hrel
      obtain ⟨wo, rfl⟩ : ∃ u, u = wr := ⟨_, rfl⟩
      have PT7 := hide hpt
      clear hpt PT3
      by_cases hlt : j < L.length
      · have hlt' : (j : Int) < (L.length : Int) := by omega
        obtain ⟨bu, ofu, eau, cuu⟩ := (RU.out.below PT7.out.low).cellP j hlt
        subst eau
        obtain ⟨n, hn, hnm, hnb⟩ := LM.out j hlt
        have TS := hide (QS.out j hlt)
        rw [hn] at cuu TS
        rw [Int.toNat_natCast] at TS
        have hnm' : (n : Int) < (m.length : Int) := by omega
        obtain ⟨b, off, u, ks, z, eap, hxx, hu, c0, c1⟩ := (R.out.below (A2.out.step PT7.out.low).below).1.at n hnm
        subst eap
        obtain ⟨ua, uc, rfl, _, _⟩ := hu.slc
        rw [hxx] at TS
        have hb4 := OK.out.2.1 n hnm
        rw [hxx] at hb4
        have H4 : Hid (ks.length = 4) := hb4.1
        have hk4 : ks.length ≤ 4 := by rw [H4.out]; omega
        have KF : Hid (z = false → ∀ i, i < ks.length → Fst L (ks.getD i 0) (rnF bs (ks.getD i 0))) := fun hz i hi => by
          refine LF.out _ ?_
          have h2 : kB true m n (ks.getD i 0) := (hb4.2 i hi).2 hz
          rcases h2 with h2 | h2
          · exact .inl h2
          · right
            have h3 : ks.getD i 0 < (n : Int) := h2.2.1
            refine ⟨h2.1, by rw [BL.out]; omega, ?_⟩
            rcases CL.out n hnm hnb with h5 | h5
            · rw [hxx, hz] at h5; simp at h5
            · rw [hxx] at h5
              refine h5 (ks.getD i 0) ?_ (by have := h2.1; omega)
              rw [List.getD_eq_getElem?_getD, List.getElem?_eq_getElem hi]
              exact List.getElem_mem _
        obtain ⟨T, hT⟩ : ∃ T, T = (trB bs (ks, z)).1 := ⟨_, rfl⟩
        have TL : Hid (T.length = ks.length) := by rw [hT]; exact trB_len bs (ks, z)
        have TG : Hid (∀ i, i < ks.length → T.getD i 0 = if z = true then ks.getD i 0 else rnF bs (ks.getD i 0)) := by
          rw [hT]
          intro i hi
          cases z with
          | true => rfl
          | false => show (ks.map (rnF bs)).getD i 0 = _; simp [List.getD_eq_getElem?_getD, hi]
        have TB : Hid (trB bs (ks, z) = (T, z)) := by
          show _ = _
          rw [hT]
          have := trB_snd bs (ks, z)
          exact Prod.ext rfl this
        obtain ⟨w8, hw8⟩ : ∃ u, u = wo.alloc (.cells #[.slice none 0 0, .bool z] 104) := ⟨_, rfl⟩
        have b8 : Below wo.heap.size wo w8 := by rw [hw8]; exact below_box _ _
        obtain ⟨g9, hg9⟩ : ∃ u, u = wo.heap.size := ⟨_, rfl⟩
        have x8 : BoxAt w8 g9 #[.slice none 0 0, .bool z] 104 := by rw [hw8, hg9]; exact BoxAt.new _ _ _
        have W8 : Hid (wo.alloc (.cells #[.slice none 0 0, .bool z] 104) = w8) := hw8.symm
        have G9 := hide hg9.symm
        have S9 := hide hg9
        have B8 := hide b8
        have X8 := hide x8
        have UR := hide hu
        obtain ⟨p0, p1⟩ := ((A2.out.step PT7.out.low).atBox 1 rfl).c2
        clear hu hxx hb4 b8 hw8 hg9 x8 hT hn hnb
        go_upto_region 9 with fail
        rw [W8.out, G9.out]
        have p08 := cell_below p0 B8.out
        have c08 := cell_below c0 B8.out
        clear p0 p1 c0 c1
        go_wp2
        go_loopw [40] (fun vi wq => ∃ (i : Nat) (va2 : Option Addr) (vc2 : Nat), i ≤ ks.length ∧ vi = .int .i64 i ∧ Own wq wo.heap.size (.slice va2 i vc2) (T.take i) ∧ BoxAt wq g9 #[.slice va2 i vc2, .bool z] 104 ∧ Below wo.heap.size wo wq) (fun vi _ => ks.length - (intOf vi).toNat)
        case atStart => exact ⟨0, none, 0, Nat.zero_le _, rfl, by rw [List.take_zero]; exact World.ownsRow_nil _ _ _ _, X8.out, B8.out⟩
        case round =>
          obtain ⟨i, va2, vc2, hi, rfl, ho, hx, hb⟩ := hrel
          have O2 := hide ho
          have X2 := hide hx
          have B2 := hide hb
          clear ho hx hb p08 c08 X8 B8
          have TI : Hid ((T.take i).length = i) := by show (T.take i).length = i; rw [List.length_take, TL.out]; omega
          by_cases hli : i < ks.length
          · have hli' : (i : Int) < (ks.length : Int) := by omega
            obtain ⟨bk, ok, euk, ck⟩ := (UR.out.below B2.out).cellP i hli
            subst euk
            have TS2 := hide (take_succ_getD T i 0 (by rw [TL.out]; exact hli))
            have tg := TG.out i hli
            have kf := fun hz => KF.out hz i hli
            obtain ⟨x, hx⟩ : ∃ x, x = ks.getD i 0 := ⟨_, rfl⟩
            rw [← hx] at ck tg kf
            obtain ⟨yv, hyv⟩ : ∃ yv, yv = T.getD i 0 := ⟨_, rfl⟩
            rw [← hyv] at tg TS2
            clear hx hyv
            obtain ⟨x0, x1⟩ := X2.out.c2
            cases z with
            | true =>
              obtain rfl : yv = x := tg
              have b6 := below_box wr (.cells #[.int .i64 yv] 3)
              have O6 := hide (Own.below O2.out b6)
              have X6 := hide (X2.out.below b6)
              have B6 := hide (B2.out.trans (b6.mono B2.out.size))
              have RX : Hid (Rd (wr.alloc (.cells #[.int .i64 yv] 3)) (.slice (some ⟨wr.heap.size, 0, none⟩) 1 1) [yv]) := rd_singleR
              clear b6 kf
              go_wp2_with (refine wpList_app_int rfl _ _ rfl wo.heap.size (.slice va2 i vc2) rfl (T.take i) O6.out (.slice (some ⟨wr.heap.size, 0, none⟩) 1 1) rfl [yv] RX.out (by rw [TI.out]; simp only [List.length_singleton]; omega) B6.out.size ?_)
              intro v7 w7 o7 g7 at7
              rw [← TS2.out] at o7
              obtain ⟨a7, k7, hv7⟩ := row_slice o7
              have eL : (T.take (i + 1)).length = i + 1 := by rw [List.length_take, TL.out]; omega
              rw [eL] at hv7
              subst hv7
              have x7 := X6.out.kept g7 (X6.out.offT O6.out (by decide))
              have b7 := B6.out.grown g7 B6.out.size (fun k hk => (World.ownsRow.lt O6.out k hk).1)
              have O8 := hide (World.ownsRow.kept o7 (grown_setCell w7 g9 0 (.slice a7 (i + 1) k7)) (.inr (x7.offT o7 (by decide))))
              have X9 : Hid (BoxAt (w7.setCell ⟨g9, 0, none⟩ (.slice a7 (i + 1) k7)) g9 #[.slice a7 (i + 1) k7, .bool true] 104) := by show BoxAt _ _ _ _; simpa using x7.set 0 (.slice a7 (i + 1) k7)
              have B9 := hide (b7.setCell (p := ⟨g9, 0, none⟩) (by show wo.heap.size ≤ g9; rw [S9.out]; exact Nat.le_refl _) (.slice a7 (i + 1) k7))
              obtain ⟨q0, q1⟩ := x7.c2
              have qf := x7.frozen 0
              clear o7 g7 at7 x7 b7 eL x0 x1
              go_wp2
              go_roundw
              case rel => exact ⟨i + 1, a7, k7, by omega, by go_num, O8.out, X9.out, B9.out⟩
              case measure => simp [intOf]; omega
            | false =>
              have ytg : yv = rnF bs x := tg
              have FX : Hid (Fst L x yv) := by rw [ytg]; exact kf rfl
              have RL := hide (RU.out.below (PT7.out.low.trans (B2.out.mono PT7.out.low.size)))
              clear tg kf ytg
              go_upto_region 14 with fail
              clear x0 x1
              refine wp_region_noPanic ?_
              refine wp_region_held_drew (S := fun _ => True) (by kernel_rfl) (trivial) (fun hHeld => ?_)
              have OV := hide (Own.below O2.out (Below.refl _ _).drew)
              have XV := hide (X2.out.below (Below.refl _ _).drew)
              have BV := hide (B2.out.trans ((Below.refl wr.heap.size wr).drew.mono B2.out.size))
              have RV := hide (RL.out.below (Below.refl _ _).drew)
              clear O2 X2 B2 RL
              generalize World.drew _ = V0 at *
              refine wpAnyH_take (i := 0) (v := ?v1) rfl (by kernel_rfl) (by kernel_rfl) (by kernel_rfl) (fun _ _ _ h => h) (Or.inl ⟨by rfl, ?hy1⟩) (by assumption) ?rest1
              case hy1 => (intro w' hSw; dsimp only [List.getElem_toArray, List.getElem_cons_zero, List.getElem_cons_succ] at hSw ⊢; go_simp; try (with_reducible rfl))
              try simp only [Act.put, List.getElem_toArray, List.getElem_cons_zero, List.getElem_cons_succ, List.setIfInBounds_toArray, List.set_cons_zero, List.set_cons_succ]
              refine wpAnyH_take (i := 2) (v := ?v2) rfl (by kernel_rfl) (by kernel_rfl) (by kernel_rfl) (fun _ _ _ h => h) (Or.inl ⟨by rfl, ?hy2⟩) (by assumption) ?rest2
              case hy2 => (intro w' hSw; dsimp only [List.getElem_toArray, List.getElem_cons_zero, List.getElem_cons_succ] at hSw ⊢; go_simp; try (with_reducible rfl))
              try simp only [Act.put, List.getElem_toArray, List.getElem_cons_zero, List.getElem_cons_succ, List.setIfInBounds_toArray, List.set_cons_zero, List.set_cons_succ]
              refine wpAnyH_take (i := 3) (v := ?v3) rfl (by kernel_rfl) (by kernel_rfl) (by kernel_rfl) (fun _ _ _ h => h) (Or.inl ⟨by rfl, ?hy3⟩) (by assumption) ?rest3
              case hy3 => (intro w' hSw; dsimp only [List.getElem_toArray, List.getElem_cons_zero, List.getElem_cons_succ] at hSw ⊢; go_simp; try (with_reducible rfl))
              try simp only [Act.put, List.getElem_toArray, List.getElem_cons_zero, List.getElem_cons_succ, List.setIfInBounds_toArray, List.set_cons_zero, List.set_cons_succ]
              refine wpAnyH_ready (rs := [1, 4]) (by kernel_rfl) (by simp) ?_
              refine (AllReadyH.cons rfl (fun K hK => ?_) (AllReadyH.cons rfl (fun K hK => ?_) AllReadyH.nil))
              · obtain ⟨x0, x1⟩ := XV.out.c2
                dsimp only [List.getElem_toArray, List.getElem_cons_zero, List.getElem_cons_succ]
                go_simp
                clear x0 x1 hHeld
                refine hK.out _ _ (trivial) (fun hHeld => ?_)
                clear hK K
                try simp only [Act.put, List.getElem_toArray, List.getElem_cons_zero, List.getElem_cons_succ, List.setIfInBounds_toArray, List.set_cons_zero, List.set_cons_succ]
                refine wpAnyH_ready (rs := [4]) (by kernel_rfl) (by simp) ?_
                refine (AllReadyH.cons rfl (fun K hK => ?_) AllReadyH.nil)
                dsimp only [List.getElem_toArray, List.getElem_cons_zero, List.getElem_cons_succ]
                go_simp
                refine (l11Number_calls _ L x yv _ RV.out FX.out).mono ?_
                rintro e' u ⟨rfl, rfl⟩
                clear hHeld
                refine hK.out _ _ (trivial) (fun hHeld => ?_)
                clear hK K
                try simp only [Act.put, List.getElem_toArray, List.getElem_cons_zero, List.getElem_cons_succ, List.setIfInBounds_toArray, List.set_cons_zero, List.set_cons_succ]
                refine wpAnyH_ready (rs := [5]) (by kernel_rfl) (by simp) ?_
                refine (AllReadyH.cons rfl (fun K hK => ?_) AllReadyH.nil)
                dsimp only [List.getElem_toArray, List.getElem_cons_zero, List.getElem_cons_succ]
                go_simp
                have b6 := below_box V0 (.cells #[.int .i64 yv] 3)
                have rx : Rd (V0.alloc (.cells #[.int .i64 yv] 3)) (.slice (some ⟨V0.heap.size, 0, none⟩) 1 1) [yv] := rd_singleR
                obtain ⟨gx, hgx⟩ : ∃ gx, gx = V0.heap.size := ⟨_, rfl⟩
                rw [← hgx] at rx ⊢
                generalize V0.alloc (.cells #[.int .i64 yv] 3) = w6 at b6 rx ⊢
                have O6 := hide (Own.below OV.out b6)
                have X6 := hide (XV.out.below b6)
                have B6 := hide (BV.out.trans (b6.mono BV.out.size))
                have RX := hide rx
                clear b6 rx hgx hHeld
                refine hK.out _ _ (trivial) (fun hHeld => ?_)
                clear hK K
                try simp only [Act.put, List.getElem_toArray, List.getElem_cons_zero, List.getElem_cons_succ, List.setIfInBounds_toArray, List.set_cons_zero, List.set_cons_succ]
                refine wpAnyH_ready (rs := [6]) (by kernel_rfl) (by simp) ?_
                refine (AllReadyH.cons rfl (fun K hK => ?_) AllReadyH.nil)
                refine step_app_int (by rfl) (.tmp 53) (.tmp 57) (by rfl) wo.heap.size (.slice va2 i vc2) (by rfl) (T.take i) O6.out (.slice (some ⟨gx, 0, none⟩) 1 1) (by rfl) [yv] RX.out (by rw [TI.out]; simp only [List.length_singleton]; omega) B6.out.size ?_
                intro v7 w7 o7 g7 at7
                rw [← TS2.out] at o7
                obtain ⟨a7, k7, hv7⟩ := row_slice o7
                have eL : (T.take (i + 1)).length = i + 1 := by rw [List.length_take, TL.out]; omega
                rw [eL] at hv7
                subst hv7
                have x7 := X6.out.kept g7 (X6.out.offT O6.out (by decide))
                have b7 := B6.out.grown g7 B6.out.size (fun k hk => (World.ownsRow.lt O6.out k hk).1)
                have O8 := hide (World.ownsRow.kept o7 (grown_setCell w7 g9 0 (.slice a7 (i + 1) k7)) (.inr (x7.offT o7 (by decide))))
                have X9 : Hid (BoxAt (w7.setCell ⟨g9, 0, none⟩ (.slice a7 (i + 1) k7)) g9 #[.slice a7 (i + 1) k7, .bool false] 104) := by show BoxAt _ _ _ _; simpa using x7.set 0 (.slice a7 (i + 1) k7)
                have B9 := hide (b7.setCell (p := ⟨g9, 0, none⟩) (by show wo.heap.size ≤ g9; rw [S9.out]; exact Nat.le_refl _) (.slice a7 (i + 1) k7))
                have X7 := hide x7
                clear o7 g7 at7 x7 b7 hHeld eL
                refine hK.out _ _ (trivial) (fun hHeld => ?_)
                clear hK K
                try simp only [Act.put, List.getElem_toArray, List.getElem_cons_zero, List.getElem_cons_succ, List.setIfInBounds_toArray, List.set_cons_zero, List.set_cons_succ]
                refine wpAnyH_take (i := 7) (v := ?v4) rfl (by kernel_rfl) (by kernel_rfl) (by kernel_rfl) (fun _ _ _ h => h) (Or.inl ⟨by rfl, ?hy4⟩) (by assumption) ?rest4
                case hy4 => (intro w' hSw; dsimp only [List.getElem_toArray, List.getElem_cons_zero, List.getElem_cons_succ] at hSw ⊢; go_simp; try (with_reducible rfl))
                try simp only [Act.put, List.getElem_toArray, List.getElem_cons_zero, List.getElem_cons_succ, List.setIfInBounds_toArray, List.set_cons_zero, List.set_cons_succ]
                refine wpAnyH_ready (rs := [8]) (by kernel_rfl) (by simp) ?_
                refine (AllReadyH.cons rfl (fun K hK => ?_) AllReadyH.nil)
                obtain ⟨q0, q1⟩ := X7.out.c2
                have qf := X7.out.frozen 0
                dsimp only [List.getElem_toArray, List.getElem_cons_zero, List.getElem_cons_succ]
                go_simp
                clear q0 q1 qf hHeld
                refine hK.out _ _ (trivial) (fun hHeld => ?_)
                clear hK K
                try simp only [Act.put, List.getElem_toArray, List.getElem_cons_zero, List.getElem_cons_succ, List.setIfInBounds_toArray, List.set_cons_zero, List.set_cons_succ]
                refine wpAnyH_done (by kernel_rfl) ?_ _
                refine NoPanic.normal ?_
                clear hHeld X7
                go_wp2
                go_roundw
                case rel => exact ⟨i + 1, a7, k7, by omega, by go_num, O8.out, X9.out, B9.out⟩
                case measure => simp [intOf]; omega
              · dsimp only [List.getElem_toArray, List.getElem_cons_zero, List.getElem_cons_succ]
                go_simp
                refine (l11Number_calls _ L x yv _ RV.out FX.out).mono ?_
                rintro e' u ⟨rfl, rfl⟩
                clear hHeld
                refine hK.out _ _ (trivial) (fun hHeld => ?_)
                clear hK K
                try simp only [Act.put, List.getElem_toArray, List.getElem_cons_zero, List.getElem_cons_succ, List.setIfInBounds_toArray, List.set_cons_zero, List.set_cons_succ]
                refine wpAnyH_ready (rs := [1, 5]) (by kernel_rfl) (by simp) ?_
                refine (AllReadyH.cons rfl (fun K hK => ?_) (AllReadyH.cons rfl (fun K hK => ?_) AllReadyH.nil))
                · obtain ⟨x0, x1⟩ := XV.out.c2
                  dsimp only [List.getElem_toArray, List.getElem_cons_zero, List.getElem_cons_succ]
                  go_simp
                  clear x0 x1 hHeld
                  refine hK.out _ _ (trivial) (fun hHeld => ?_)
                  clear hK K
                  try simp only [Act.put, List.getElem_toArray, List.getElem_cons_zero, List.getElem_cons_succ, List.setIfInBounds_toArray, List.set_cons_zero, List.set_cons_succ]
                  refine wpAnyH_ready (rs := [5]) (by kernel_rfl) (by simp) ?_
                  refine (AllReadyH.cons rfl (fun K hK => ?_) AllReadyH.nil)
                  dsimp only [List.getElem_toArray, List.getElem_cons_zero, List.getElem_cons_succ]
                  go_simp
                  have b6 := below_box V0 (.cells #[.int .i64 yv] 3)
                  have rx : Rd (V0.alloc (.cells #[.int .i64 yv] 3)) (.slice (some ⟨V0.heap.size, 0, none⟩) 1 1) [yv] := rd_singleR
                  obtain ⟨gx, hgx⟩ : ∃ gx, gx = V0.heap.size := ⟨_, rfl⟩
                  rw [← hgx] at rx ⊢
                  generalize V0.alloc (.cells #[.int .i64 yv] 3) = w6 at b6 rx ⊢
                  have O6 := hide (Own.below OV.out b6)
                  have X6 := hide (XV.out.below b6)
                  have B6 := hide (BV.out.trans (b6.mono BV.out.size))
                  have RX := hide rx
                  clear b6 rx hgx hHeld
                  refine hK.out _ _ (trivial) (fun hHeld => ?_)
                  clear hK K
                  try simp only [Act.put, List.getElem_toArray, List.getElem_cons_zero, List.getElem_cons_succ, List.setIfInBounds_toArray, List.set_cons_zero, List.set_cons_succ]
                  refine wpAnyH_ready (rs := [6]) (by kernel_rfl) (by simp) ?_
                  refine (AllReadyH.cons rfl (fun K hK => ?_) AllReadyH.nil)
                  refine step_app_int (by rfl) (.tmp 53) (.tmp 57) (by rfl) wo.heap.size (.slice va2 i vc2) (by rfl) (T.take i) O6.out (.slice (some ⟨gx, 0, none⟩) 1 1) (by rfl) [yv] RX.out (by rw [TI.out]; simp only [List.length_singleton]; omega) B6.out.size ?_
                  intro v7 w7 o7 g7 at7
                  rw [← TS2.out] at o7
                  obtain ⟨a7, k7, hv7⟩ := row_slice o7
                  have eL : (T.take (i + 1)).length = i + 1 := by rw [List.length_take, TL.out]; omega
                  rw [eL] at hv7
                  subst hv7
                  have x7 := X6.out.kept g7 (X6.out.offT O6.out (by decide))
                  have b7 := B6.out.grown g7 B6.out.size (fun k hk => (World.ownsRow.lt O6.out k hk).1)
                  have O8 := hide (World.ownsRow.kept o7 (grown_setCell w7 g9 0 (.slice a7 (i + 1) k7)) (.inr (x7.offT o7 (by decide))))
                  have X9 : Hid (BoxAt (w7.setCell ⟨g9, 0, none⟩ (.slice a7 (i + 1) k7)) g9 #[.slice a7 (i + 1) k7, .bool false] 104) := by show BoxAt _ _ _ _; simpa using x7.set 0 (.slice a7 (i + 1) k7)
                  have B9 := hide (b7.setCell (p := ⟨g9, 0, none⟩) (by show wo.heap.size ≤ g9; rw [S9.out]; exact Nat.le_refl _) (.slice a7 (i + 1) k7))
                  have X7 := hide x7
                  clear o7 g7 at7 x7 b7 hHeld eL
                  refine hK.out _ _ (trivial) (fun hHeld => ?_)
                  clear hK K
                  try simp only [Act.put, List.getElem_toArray, List.getElem_cons_zero, List.getElem_cons_succ, List.setIfInBounds_toArray, List.set_cons_zero, List.set_cons_succ]
                  refine wpAnyH_take (i := 7) (v := ?v5) rfl (by kernel_rfl) (by kernel_rfl) (by kernel_rfl) (fun _ _ _ h => h) (Or.inl ⟨by rfl, ?hy5⟩) (by assumption) ?rest5
                  case hy5 => (intro w' hSw; dsimp only [List.getElem_toArray, List.getElem_cons_zero, List.getElem_cons_succ] at hSw ⊢; go_simp; try (with_reducible rfl))
                  try simp only [Act.put, List.getElem_toArray, List.getElem_cons_zero, List.getElem_cons_succ, List.setIfInBounds_toArray, List.set_cons_zero, List.set_cons_succ]
                  refine wpAnyH_ready (rs := [8]) (by kernel_rfl) (by simp) ?_
                  refine (AllReadyH.cons rfl (fun K hK => ?_) AllReadyH.nil)
                  obtain ⟨q0, q1⟩ := X7.out.c2
                  have qf := X7.out.frozen 0
                  dsimp only [List.getElem_toArray, List.getElem_cons_zero, List.getElem_cons_succ]
                  go_simp
                  clear q0 q1 qf hHeld
                  refine hK.out _ _ (trivial) (fun hHeld => ?_)
                  clear hK K
                  try simp only [Act.put, List.getElem_toArray, List.getElem_cons_zero, List.getElem_cons_succ, List.setIfInBounds_toArray, List.set_cons_zero, List.set_cons_succ]
                  refine wpAnyH_done (by kernel_rfl) ?_ _
                  refine NoPanic.normal ?_
                  clear hHeld X7
                  go_wp2
                  go_roundw
                  case rel => exact ⟨i + 1, a7, k7, by omega, by go_num, O8.out, X9.out, B9.out⟩
                  case measure => simp [intOf]; omega
                · dsimp only [List.getElem_toArray, List.getElem_cons_zero, List.getElem_cons_succ]
                  go_simp
                  have b6 := below_box V0 (.cells #[.int .i64 yv] 3)
                  have rx : Rd (V0.alloc (.cells #[.int .i64 yv] 3)) (.slice (some ⟨V0.heap.size, 0, none⟩) 1 1) [yv] := rd_singleR
                  obtain ⟨gx, hgx⟩ : ∃ gx, gx = V0.heap.size := ⟨_, rfl⟩
                  rw [← hgx] at rx ⊢
                  generalize V0.alloc (.cells #[.int .i64 yv] 3) = w6 at b6 rx ⊢
                  have O6 := hide (Own.below OV.out b6)
                  have X6 := hide (XV.out.below b6)
                  have B6 := hide (BV.out.trans (b6.mono BV.out.size))
                  have RX := hide rx
                  clear b6 rx hgx hHeld
                  refine hK.out _ _ (trivial) (fun hHeld => ?_)
                  clear hK K
                  try simp only [Act.put, List.getElem_toArray, List.getElem_cons_zero, List.getElem_cons_succ, List.setIfInBounds_toArray, List.set_cons_zero, List.set_cons_succ]
                  refine wpAnyH_ready (rs := [1]) (by kernel_rfl) (by simp) ?_
                  refine (AllReadyH.cons rfl (fun K hK => ?_) AllReadyH.nil)
                  obtain ⟨x0, x1⟩ := X6.out.c2
                  dsimp only [List.getElem_toArray, List.getElem_cons_zero, List.getElem_cons_succ]
                  go_simp
                  clear x0 x1 hHeld
                  refine hK.out _ _ (trivial) (fun hHeld => ?_)
                  clear hK K
                  try simp only [Act.put, List.getElem_toArray, List.getElem_cons_zero, List.getElem_cons_succ, List.setIfInBounds_toArray, List.set_cons_zero, List.set_cons_succ]
                  refine wpAnyH_ready (rs := [6]) (by kernel_rfl) (by simp) ?_
                  refine (AllReadyH.cons rfl (fun K hK => ?_) AllReadyH.nil)
                  refine step_app_int (by rfl) (.tmp 53) (.tmp 57) (by rfl) wo.heap.size (.slice va2 i vc2) (by rfl) (T.take i) O6.out (.slice (some ⟨gx, 0, none⟩) 1 1) (by rfl) [yv] RX.out (by rw [TI.out]; simp only [List.length_singleton]; omega) B6.out.size ?_
                  intro v7 w7 o7 g7 at7
                  rw [← TS2.out] at o7
                  obtain ⟨a7, k7, hv7⟩ := row_slice o7
                  have eL : (T.take (i + 1)).length = i + 1 := by rw [List.length_take, TL.out]; omega
                  rw [eL] at hv7
                  subst hv7
                  have x7 := X6.out.kept g7 (X6.out.offT O6.out (by decide))
                  have b7 := B6.out.grown g7 B6.out.size (fun k hk => (World.ownsRow.lt O6.out k hk).1)
                  have O8 := hide (World.ownsRow.kept o7 (grown_setCell w7 g9 0 (.slice a7 (i + 1) k7)) (.inr (x7.offT o7 (by decide))))
                  have X9 : Hid (BoxAt (w7.setCell ⟨g9, 0, none⟩ (.slice a7 (i + 1) k7)) g9 #[.slice a7 (i + 1) k7, .bool false] 104) := by show BoxAt _ _ _ _; simpa using x7.set 0 (.slice a7 (i + 1) k7)
                  have B9 := hide (b7.setCell (p := ⟨g9, 0, none⟩) (by show wo.heap.size ≤ g9; rw [S9.out]; exact Nat.le_refl _) (.slice a7 (i + 1) k7))
                  have X7 := hide x7
                  clear o7 g7 at7 x7 b7 hHeld eL
                  refine hK.out _ _ (trivial) (fun hHeld => ?_)
                  clear hK K
                  try simp only [Act.put, List.getElem_toArray, List.getElem_cons_zero, List.getElem_cons_succ, List.setIfInBounds_toArray, List.set_cons_zero, List.set_cons_succ]
                  refine wpAnyH_take (i := 7) (v := ?v6) rfl (by kernel_rfl) (by kernel_rfl) (by kernel_rfl) (fun _ _ _ h => h) (Or.inl ⟨by rfl, ?hy6⟩) (by assumption) ?rest6
                  case hy6 => (intro w' hSw; dsimp only [List.getElem_toArray, List.getElem_cons_zero, List.getElem_cons_succ] at hSw ⊢; go_simp; try (with_reducible rfl))
                  try simp only [Act.put, List.getElem_toArray, List.getElem_cons_zero, List.getElem_cons_succ, List.setIfInBounds_toArray, List.set_cons_zero, List.set_cons_succ]
                  refine wpAnyH_ready (rs := [8]) (by kernel_rfl) (by simp) ?_
                  refine (AllReadyH.cons rfl (fun K hK => ?_) AllReadyH.nil)
                  obtain ⟨q0, q1⟩ := X7.out.c2
                  have qf := X7.out.frozen 0
                  dsimp only [List.getElem_toArray, List.getElem_cons_zero, List.getElem_cons_succ]
                  go_simp
                  clear q0 q1 qf hHeld
                  refine hK.out _ _ (trivial) (fun hHeld => ?_)
                  clear hK K
                  try simp only [Act.put, List.getElem_toArray, List.getElem_cons_zero, List.getElem_cons_succ, List.setIfInBounds_toArray, List.set_cons_zero, List.set_cons_succ]
                  refine wpAnyH_done (by kernel_rfl) ?_ _
                  refine NoPanic.normal ?_
                  clear hHeld X7
                  go_wp2
                  go_roundw
                  case rel => exact ⟨i + 1, a7, k7, by omega, by go_num, O8.out, X9.out, B9.out⟩
                  case measure => simp [intOf]; omega
          · obtain rfl : i = ks.length := by omega
            have ho := O2.out
            rw [← TL.out, List.take_length, TL.out] at ho
            have OT := hide ho
            obtain ⟨x0, x1⟩ := X2.out.c2
            have ptq := PT7.out.step B2.out
            obtain ⟨o0, o1⟩ := ptq.out.c2
            obtain ⟨wb, hwb⟩ : ∃ u, u = wr.alloc (.cells #[.slice va2 ks.length vc2, .bool z] 104) := ⟨_, rfl⟩
            have bb : Below wr.heap.size wr wb := by rw [hwb]; exact below_box _ _
            have xb : BoxAt wb wr.heap.size #[.slice va2 ks.length vc2, .bool z] 104 := by rw [hwb]; exact BoxAt.new _ _ _
            obtain ⟨q0, q1⟩ := xb.c2
            have WB : Hid (wr.alloc (.cells #[.slice va2 ks.length vc2, .bool z] 104) = wb) := hwb.symm
            have OB := hide (ownsRow_mono (Own.below OT.out bb) PT7.out.low.size)
            have LB := hide (fun b hb => (World.ownsRow.lt OT.out b hb).1)
            have PTB := hide (ptq.step bb)
            have BRB := hide ((PT7.out.br.below B2.out).below bb)
            have SB : Hid (wo.heap.size ≤ wb.heap.size) := Nat.le_trans B2.out.size bb.size
            have TJ : Hid ((Q j).length = j) := QL.out j hj
            have XQ : Hid (BoxAt wb gO #[.slice va j vc, .slice none 0 0] 43) := PTB.out.out
            clear ho ptq bb xb hwb
            go_wp2_with (refine wpList_app_br rfl _ _ rfl w2.heap.size wo.heap.size (.slice va j vc) rfl _ us _ (Q j) (by rw [WB.out]; exact BRB.out) wr.heap.size rfl (.slice va2 ks.length vc2) (T, z) (by rw [WB.out]; exact q0) (by rw [WB.out]; exact q1) rfl (by rw [WB.out]; exact OB.out) LB.out (by rw [WB.out]; exact SB.out) (by rw [TJ.out]; omega) (by rw [WB.out]; exact PTB.out.low.size) ?_)
            rw [WB.out]
            intro v6 w6 n6 g6
            obtain ⟨bo, pt8, _⟩ := PTB.out.appB n6 g6
            obtain ⟨va6, vc6, hv6⟩ := n6.slice
            have eX : Q j ++ [(T, z)] = Q (j + 1) := by rw [TS.out, TB.out]
            have eL : (Q j ++ [(T, z)]).length = j + 1 := by rw [List.length_append, TJ.out]; rfl
            rw [eL] at hv6
            subst hv6
            rw [eX] at pt8
            obtain ⟨r0, r1⟩ := bo.c2
            have rf := bo.frozen 0
            have PT10 := hide pt8
            clear n6 g6 bo pt8 eX eL x0 x1 o0 o1 q0 q1 OB PTB BRB
            go_wp2
            go_roundw
            case rel => exact ⟨j + 1, va6, vc6, _, by omega, by go_num, PT10.out⟩
            case measure => simp [intOf]; omega
      · obtain rfl : j = L.length := by omega
        have pt := PT7.out
        rw [QE.out] at pt
        have PT8 := hide pt
        obtain ⟨p0, p1⟩ := ((A2.out.step PT8.out.low).atBox 1 rfl).c2
        clear PT7 pt
        go_wp2
        go_loopw [71] (fun vi wr => ∃ (i : Nat) (ra : Option Addr) (rc : Nat), i ≤ vs.length ∧ vi = .int .i64 i ∧ PT w2 wr gO (.slice va L.length vc) (.slice ra i rc) us X (Y.take i)) (fun vi _ => vs.length - (intOf vi).toNat)
        case atStart => exact ⟨0, none, 0, Nat.zero_le _, rfl, by rw [List.take_zero]; exact PT8.out⟩
        case round =>
          obtain ⟨i, ra, rc, hi, rfl, hpt⟩ := hrel
          have PT9 := hide hpt
          clear hpt PT8 p0 p1
          have YL : Hid (Y.length = vs.length) := by show _ = _; rw [HY2.out]; simp
          have TI : Hid ((Y.take i).length = i) := by show (Y.take i).length = i; rw [List.length_take, YL.out]; omega
          by_cases hli : i < vs.length
          · have hli' : (i : Int) < (vs.length : Int) := by omega
            obtain ⟨bk, ok, euk, ck⟩ := (R.out.below (A2.out.step PT9.out.low).below).2.cellP i hli
            subst euk
            have TS2 := hide (take_succ_getD Y i 0 (by rw [YL.out]; exact hli))
            have tg : Y.getD i 0 = rnF bs (vs.getD i 0) := by rw [HY2.out]; simp [List.getD_eq_getElem?_getD, hli]
            have kf : Fst L (vs.getD i 0) (rnF bs (vs.getD i 0)) := by
              refine LF.out _ ?_
              have h2 := OK.out.2.2 i hli
              rcases h2 with h2 | h2
              · exact .inl h2
              · refine .inr ⟨h2.1, by rw [BL.out]; exact h2.2.1, CV.out _ ?_ (by have := h2.1; omega)⟩
                rw [List.getD_eq_getElem?_getD, List.getElem?_eq_getElem hli]
                exact List.getElem_mem _
            rw [← tg] at kf
            obtain ⟨x, hx⟩ : ∃ x, x = vs.getD i 0 := ⟨_, rfl⟩
            rw [← hx] at ck kf
            obtain ⟨yv, hyv⟩ : ∃ yv, yv = Y.getD i 0 := ⟨_, rfl⟩
            rw [← hyv] at kf TS2
            have FX := hide kf
            have RL := hide (RU.out.below PT9.out.low)
            clear hx hyv tg kf
            go_upto_region 21 with fail
            refine wp_region_noPanic ?_
            refine wp_region_held_drew (S := fun _ => True) (by kernel_rfl) (trivial) (fun hHeld => ?_)
            have PTV := hide (PT9.out.step (Below.refl _ _).drew)
            have RV := hide (RL.out.below (Below.refl _ _).drew)
            clear PT9 RL
            generalize World.drew _ = V0 at *
            refine wpAnyH_take (i := 0) (v := ?v7) rfl (by kernel_rfl) (by kernel_rfl) (by kernel_rfl) (fun _ _ _ h => h) (Or.inl ⟨by rfl, ?hy7⟩) (by assumption) ?rest7
            case hy7 => (intro w' hSw; dsimp only [List.getElem_toArray, List.getElem_cons_zero, List.getElem_cons_succ] at hSw ⊢; go_simp; try (with_reducible rfl))
            try simp only [Act.put, List.getElem_toArray, List.getElem_cons_zero, List.getElem_cons_succ, List.setIfInBounds_toArray, List.set_cons_zero, List.set_cons_succ]
            refine wpAnyH_take (i := 2) (v := ?v8) rfl (by kernel_rfl) (by kernel_rfl) (by kernel_rfl) (fun _ _ _ h => h) (Or.inl ⟨by rfl, ?hy8⟩) (by assumption) ?rest8
            case hy8 => (intro w' hSw; dsimp only [List.getElem_toArray, List.getElem_cons_zero, List.getElem_cons_succ] at hSw ⊢; go_simp; try (with_reducible rfl))
            try simp only [Act.put, List.getElem_toArray, List.getElem_cons_zero, List.getElem_cons_succ, List.setIfInBounds_toArray, List.set_cons_zero, List.set_cons_succ]
            refine wpAnyH_take (i := 3) (v := ?v9) rfl (by kernel_rfl) (by kernel_rfl) (by kernel_rfl) (fun _ _ _ h => h) (Or.inl ⟨by rfl, ?hy9⟩) (by assumption) ?rest9
            case hy9 => (intro w' hSw; dsimp only [List.getElem_toArray, List.getElem_cons_zero, List.getElem_cons_succ] at hSw ⊢; go_simp; try (with_reducible rfl))
            try simp only [Act.put, List.getElem_toArray, List.getElem_cons_zero, List.getElem_cons_succ, List.setIfInBounds_toArray, List.set_cons_zero, List.set_cons_succ]
            refine wpAnyH_ready (rs := [1, 4]) (by kernel_rfl) (by simp) ?_
            refine (AllReadyH.cons rfl (fun K hK => ?_) (AllReadyH.cons rfl (fun K hK => ?_) AllReadyH.nil))
            · obtain ⟨x0, x1⟩ := PTV.out.out.c2
              dsimp only [List.getElem_toArray, List.getElem_cons_zero, List.getElem_cons_succ]
              go_simp
              clear x0 x1 hHeld
              refine hK.out _ _ (trivial) (fun hHeld => ?_)
              clear hK K
              try simp only [Act.put, List.getElem_toArray, List.getElem_cons_zero, List.getElem_cons_succ, List.setIfInBounds_toArray, List.set_cons_zero, List.set_cons_succ]
              refine wpAnyH_ready (rs := [4]) (by kernel_rfl) (by simp) ?_
              refine (AllReadyH.cons rfl (fun K hK => ?_) AllReadyH.nil)
              dsimp only [List.getElem_toArray, List.getElem_cons_zero, List.getElem_cons_succ]
              go_simp
              refine (l11Number_calls _ L x yv _ RV.out FX.out).mono ?_
              rintro e' u ⟨rfl, rfl⟩
              clear hHeld
              refine hK.out _ _ (trivial) (fun hHeld => ?_)
              clear hK K
              try simp only [Act.put, List.getElem_toArray, List.getElem_cons_zero, List.getElem_cons_succ, List.setIfInBounds_toArray, List.set_cons_zero, List.set_cons_succ]
              refine wpAnyH_ready (rs := [5]) (by kernel_rfl) (by simp) ?_
              refine (AllReadyH.cons rfl (fun K hK => ?_) AllReadyH.nil)
              dsimp only [List.getElem_toArray, List.getElem_cons_zero, List.getElem_cons_succ]
              go_simp
              have b6 := below_box V0 (.cells #[.int .i64 yv] 3)
              have rx : Rd (V0.alloc (.cells #[.int .i64 yv] 3)) (.slice (some ⟨V0.heap.size, 0, none⟩) 1 1) [yv] := rd_singleR
              obtain ⟨gx, hgx⟩ : ∃ gx, gx = V0.heap.size := ⟨_, rfl⟩
              rw [← hgx] at rx ⊢
              generalize V0.alloc (.cells #[.int .i64 yv] 3) = w6 at b6 rx ⊢
              have PT6 := hide (PTV.out.step b6)
              have RX := hide rx
              clear b6 rx hgx hHeld
              refine hK.out _ _ (trivial) (fun hHeld => ?_)
              clear hK K
              try simp only [Act.put, List.getElem_toArray, List.getElem_cons_zero, List.getElem_cons_succ, List.setIfInBounds_toArray, List.set_cons_zero, List.set_cons_succ]
              refine wpAnyH_ready (rs := [6]) (by kernel_rfl) (by simp) ?_
              refine (AllReadyH.cons rfl (fun K hK => ?_) AllReadyH.nil)
              refine step_app_int (by rfl) (.tmp 76) (.tmp 80) (by rfl) w2.heap.size (.slice ra i rc) (by rfl) (Y.take i) (PT6.out.br.rowE 0 (by simp)) (.slice (some ⟨gx, 0, none⟩) 1 1) (by rfl) [yv] RX.out (by rw [TI.out]; simp only [List.length_singleton]; omega) PT6.out.low.size ?_
              intro v7 w7 o7 g7 at7
              rw [← TS2.out] at o7
              obtain ⟨bo, pt8, _⟩ := PT6.out.appR o7 g7 at7
              obtain ⟨a7, k7, hv7⟩ := row_slice o7
              have eL : (Y.take (i + 1)).length = i + 1 := by rw [List.length_take, YL.out]; omega
              rw [eL] at hv7
              subst hv7
              have BO := hide bo
              have PT10 := hide pt8
              clear o7 g7 at7 bo pt8 hHeld eL
              refine hK.out _ _ (trivial) (fun hHeld => ?_)
              clear hK K
              try simp only [Act.put, List.getElem_toArray, List.getElem_cons_zero, List.getElem_cons_succ, List.setIfInBounds_toArray, List.set_cons_zero, List.set_cons_succ]
              refine wpAnyH_take (i := 7) (v := ?v10) rfl (by kernel_rfl) (by kernel_rfl) (by kernel_rfl) (fun _ _ _ h => h) (Or.inl ⟨by rfl, ?hy10⟩) (by assumption) ?rest10
              case hy10 => (intro w' hSw; dsimp only [List.getElem_toArray, List.getElem_cons_zero, List.getElem_cons_succ] at hSw ⊢; go_simp; try (with_reducible rfl))
              try simp only [Act.put, List.getElem_toArray, List.getElem_cons_zero, List.getElem_cons_succ, List.setIfInBounds_toArray, List.set_cons_zero, List.set_cons_succ]
              refine wpAnyH_ready (rs := [8]) (by kernel_rfl) (by simp) ?_
              refine (AllReadyH.cons rfl (fun K hK => ?_) AllReadyH.nil)
              obtain ⟨q0, q1⟩ := BO.out.c2
              have qf := BO.out.frozen 1
              dsimp only [List.getElem_toArray, List.getElem_cons_zero, List.getElem_cons_succ]
              go_simp
              clear q0 q1 qf hHeld
              refine hK.out _ _ (trivial) (fun hHeld => ?_)
              clear hK K
              try simp only [Act.put, List.getElem_toArray, List.getElem_cons_zero, List.getElem_cons_succ, List.setIfInBounds_toArray, List.set_cons_zero, List.set_cons_succ]
              refine wpAnyH_done (by kernel_rfl) ?_ _
              refine NoPanic.normal ?_
              clear hHeld BO
              go_wp2
              go_roundw
              case rel => exact ⟨i + 1, a7, k7, by omega, by go_num, PT10.out⟩
              case measure => simp [intOf]; omega
            · dsimp only [List.getElem_toArray, List.getElem_cons_zero, List.getElem_cons_succ]
              go_simp
              refine (l11Number_calls _ L x yv _ RV.out FX.out).mono ?_
              rintro e' u ⟨rfl, rfl⟩
              clear hHeld
              refine hK.out _ _ (trivial) (fun hHeld => ?_)
              clear hK K
              try simp only [Act.put, List.getElem_toArray, List.getElem_cons_zero, List.getElem_cons_succ, List.setIfInBounds_toArray, List.set_cons_zero, List.set_cons_succ]
              refine wpAnyH_ready (rs := [1, 5]) (by kernel_rfl) (by simp) ?_
              refine (AllReadyH.cons rfl (fun K hK => ?_) (AllReadyH.cons rfl (fun K hK => ?_) AllReadyH.nil))
              · obtain ⟨x0, x1⟩ := PTV.out.out.c2
                dsimp only [List.getElem_toArray, List.getElem_cons_zero, List.getElem_cons_succ]
                go_simp
                clear x0 x1 hHeld
                refine hK.out _ _ (trivial) (fun hHeld => ?_)
                clear hK K
                try simp only [Act.put, List.getElem_toArray, List.getElem_cons_zero, List.getElem_cons_succ, List.setIfInBounds_toArray, List.set_cons_zero, List.set_cons_succ]
                refine wpAnyH_ready (rs := [5]) (by kernel_rfl) (by simp) ?_
                refine (AllReadyH.cons rfl (fun K hK => ?_) AllReadyH.nil)
                dsimp only [List.getElem_toArray, List.getElem_cons_zero, List.getElem_cons_succ]
                go_simp
                have b6 := below_box V0 (.cells #[.int .i64 yv] 3)
                have rx : Rd (V0.alloc (.cells #[.int .i64 yv] 3)) (.slice (some ⟨V0.heap.size, 0, none⟩) 1 1) [yv] := rd_singleR
                obtain ⟨gx, hgx⟩ : ∃ gx, gx = V0.heap.size := ⟨_, rfl⟩
                rw [← hgx] at rx ⊢
                generalize V0.alloc (.cells #[.int .i64 yv] 3) = w6 at b6 rx ⊢
                have PT6 := hide (PTV.out.step b6)
                have RX := hide rx
                clear b6 rx hgx hHeld
                refine hK.out _ _ (trivial) (fun hHeld => ?_)
                clear hK K
                try simp only [Act.put, List.getElem_toArray, List.getElem_cons_zero, List.getElem_cons_succ, List.setIfInBounds_toArray, List.set_cons_zero, List.set_cons_succ]
                refine wpAnyH_ready (rs := [6]) (by kernel_rfl) (by simp) ?_
                refine (AllReadyH.cons rfl (fun K hK => ?_) AllReadyH.nil)
                refine step_app_int (by rfl) (.tmp 76) (.tmp 80) (by rfl) w2.heap.size (.slice ra i rc) (by rfl) (Y.take i) (PT6.out.br.rowE 0 (by simp)) (.slice (some ⟨gx, 0, none⟩) 1 1) (by rfl) [yv] RX.out (by rw [TI.out]; simp only [List.length_singleton]; omega) PT6.out.low.size ?_
                intro v7 w7 o7 g7 at7
                rw [← TS2.out] at o7
                obtain ⟨bo, pt8, _⟩ := PT6.out.appR o7 g7 at7
                obtain ⟨a7, k7, hv7⟩ := row_slice o7
                have eL : (Y.take (i + 1)).length = i + 1 := by rw [List.length_take, YL.out]; omega
                rw [eL] at hv7
                subst hv7
                have BO := hide bo
                have PT10 := hide pt8
                clear o7 g7 at7 bo pt8 hHeld eL
                refine hK.out _ _ (trivial) (fun hHeld => ?_)
                clear hK K
                try simp only [Act.put, List.getElem_toArray, List.getElem_cons_zero, List.getElem_cons_succ, List.setIfInBounds_toArray, List.set_cons_zero, List.set_cons_succ]
                refine wpAnyH_take (i := 7) (v := ?v11) rfl (by kernel_rfl) (by kernel_rfl) (by kernel_rfl) (fun _ _ _ h => h) (Or.inl ⟨by rfl, ?hy11⟩) (by assumption) ?rest11
                case hy11 => (intro w' hSw; dsimp only [List.getElem_toArray, List.getElem_cons_zero, List.getElem_cons_succ] at hSw ⊢; go_simp; try (with_reducible rfl))
                try simp only [Act.put, List.getElem_toArray, List.getElem_cons_zero, List.getElem_cons_succ, List.setIfInBounds_toArray, List.set_cons_zero, List.set_cons_succ]
                refine wpAnyH_ready (rs := [8]) (by kernel_rfl) (by simp) ?_
                refine (AllReadyH.cons rfl (fun K hK => ?_) AllReadyH.nil)
                obtain ⟨q0, q1⟩ := BO.out.c2
                have qf := BO.out.frozen 1
                dsimp only [List.getElem_toArray, List.getElem_cons_zero, List.getElem_cons_succ]
                go_simp
                clear q0 q1 qf hHeld
                refine hK.out _ _ (trivial) (fun hHeld => ?_)
                clear hK K
                try simp only [Act.put, List.getElem_toArray, List.getElem_cons_zero, List.getElem_cons_succ, List.setIfInBounds_toArray, List.set_cons_zero, List.set_cons_succ]
                refine wpAnyH_done (by kernel_rfl) ?_ _
                refine NoPanic.normal ?_
                clear hHeld BO
                go_wp2
                go_roundw
                case rel => exact ⟨i + 1, a7, k7, by omega, by go_num, PT10.out⟩
                case measure => simp [intOf]; omega
              · dsimp only [List.getElem_toArray, List.getElem_cons_zero, List.getElem_cons_succ]
                go_simp
                have b6 := below_box V0 (.cells #[.int .i64 yv] 3)
                have rx : Rd (V0.alloc (.cells #[.int .i64 yv] 3)) (.slice (some ⟨V0.heap.size, 0, none⟩) 1 1) [yv] := rd_singleR
                obtain ⟨gx, hgx⟩ : ∃ gx, gx = V0.heap.size := ⟨_, rfl⟩
                rw [← hgx] at rx ⊢
                generalize V0.alloc (.cells #[.int .i64 yv] 3) = w6 at b6 rx ⊢
                have PT6 := hide (PTV.out.step b6)
                have RX := hide rx
                clear b6 rx hgx hHeld
                refine hK.out _ _ (trivial) (fun hHeld => ?_)
                clear hK K
                try simp only [Act.put, List.getElem_toArray, List.getElem_cons_zero, List.getElem_cons_succ, List.setIfInBounds_toArray, List.set_cons_zero, List.set_cons_succ]
                refine wpAnyH_ready (rs := [1]) (by kernel_rfl) (by simp) ?_
                refine (AllReadyH.cons rfl (fun K hK => ?_) AllReadyH.nil)
                obtain ⟨x0, x1⟩ := PT6.out.out.c2
                dsimp only [List.getElem_toArray, List.getElem_cons_zero, List.getElem_cons_succ]
                go_simp
                clear x0 x1 hHeld
                refine hK.out _ _ (trivial) (fun hHeld => ?_)
                clear hK K
                try simp only [Act.put, List.getElem_toArray, List.getElem_cons_zero, List.getElem_cons_succ, List.setIfInBounds_toArray, List.set_cons_zero, List.set_cons_succ]
                refine wpAnyH_ready (rs := [6]) (by kernel_rfl) (by simp) ?_
                refine (AllReadyH.cons rfl (fun K hK => ?_) AllReadyH.nil)
                refine step_app_int (by rfl) (.tmp 76) (.tmp 80) (by rfl) w2.heap.size (.slice ra i rc) (by rfl) (Y.take i) (PT6.out.br.rowE 0 (by simp)) (.slice (some ⟨gx, 0, none⟩) 1 1) (by rfl) [yv] RX.out (by rw [TI.out]; simp only [List.length_singleton]; omega) PT6.out.low.size ?_
                intro v7 w7 o7 g7 at7
                rw [← TS2.out] at o7
                obtain ⟨bo, pt8, _⟩ := PT6.out.appR o7 g7 at7
                obtain ⟨a7, k7, hv7⟩ := row_slice o7
                have eL : (Y.take (i + 1)).length = i + 1 := by rw [List.length_take, YL.out]; omega
                rw [eL] at hv7
                subst hv7
                have BO := hide bo
                have PT10 := hide pt8
                clear o7 g7 at7 bo pt8 hHeld eL
                refine hK.out _ _ (trivial) (fun hHeld => ?_)
                clear hK K
                try simp only [Act.put, List.getElem_toArray, List.getElem_cons_zero, List.getElem_cons_succ, List.setIfInBounds_toArray, List.set_cons_zero, List.set_cons_succ]
                refine wpAnyH_take (i := 7) (v := ?v12) rfl (by kernel_rfl) (by kernel_rfl) (by kernel_rfl) (fun _ _ _ h => h) (Or.inl ⟨by rfl, ?hy12⟩) (by assumption) ?rest12
                case hy12 => (intro w' hSw; dsimp only [List.getElem_toArray, List.getElem_cons_zero, List.getElem_cons_succ] at hSw ⊢; go_simp; try (with_reducible rfl))
                try simp only [Act.put, List.getElem_toArray, List.getElem_cons_zero, List.getElem_cons_succ, List.setIfInBounds_toArray, List.set_cons_zero, List.set_cons_succ]
                refine wpAnyH_ready (rs := [8]) (by kernel_rfl) (by simp) ?_
                refine (AllReadyH.cons rfl (fun K hK => ?_) AllReadyH.nil)
                obtain ⟨q0, q1⟩ := BO.out.c2
                have qf := BO.out.frozen 1
                dsimp only [List.getElem_toArray, List.getElem_cons_zero, List.getElem_cons_succ]
                go_simp
                clear q0 q1 qf hHeld
                refine hK.out _ _ (trivial) (fun hHeld => ?_)
                clear hK K
                try simp only [Act.put, List.getElem_toArray, List.getElem_cons_zero, List.getElem_cons_succ, List.setIfInBounds_toArray, List.set_cons_zero, List.set_cons_succ]
                refine wpAnyH_done (by kernel_rfl) ?_ _
                refine NoPanic.normal ?_
                clear hHeld BO
                go_wp2
                go_roundw
                case rel => exact ⟨i + 1, a7, k7, by omega, by go_num, PT10.out⟩
                case measure => simp [intOf]; omega
          · obtain rfl : i = vs.length := by omega
            have pt := PT9.out
            rw [← YL.out, List.take_length, YL.out] at pt
            have PTE := hide pt
            have HW3 : Hid (y = (m.length : Int) - (L.length : Int)) := by show _ = _; rw [LL.out]; exact HW2.out
            have hLm : L.length ≤ m.length := by rw [LL.out]; exact NLE
            clear PT9 pt
            go_upto_region 23 with fail
            refine wp_region_noPanic ?_
            refine wp_region_held_drew (S := fun w' => (w'.cell? ⟨gO, 0, none⟩ = some (.slice va L.length vc) ∧ w'.cell? ⟨gO, 1, none⟩ = some (.slice ra vs.length rc)) ∧ (w'.cell? ⟨w.heap.size, 0, none⟩ = some (.slice ap m.length cp) ∧ w'.cell? ⟨w.heap.size, 1, none⟩ = some (.slice ar vs.length cr))) (by kernel_rfl) (⟨(PTE.out.step (Below.refl _ _).drew).out.c2, ((A2.out.step (PTE.out.step (Below.refl _ _).drew).low).atBox 1 rfl).c2⟩) (fun hHeld => ?_)
            have PTV := hide (PTE.out.step (Below.refl _ _).drew)
            clear PTE
            generalize World.drew _ = V0 at *
            refine wpAnyH_take (i := 0) (v := ?v13) rfl (by kernel_rfl) (by kernel_rfl) (by kernel_rfl) (fun _ _ _ h => h) (Or.inl ⟨by rfl, ?hy13⟩) (by assumption) ?rest13
            case hy13 => (intro w' hSw; dsimp only [List.getElem_toArray, List.getElem_cons_zero, List.getElem_cons_succ] at hSw ⊢; go_simp; try (with_reducible rfl))
            try simp only [Act.put, List.getElem_toArray, List.getElem_cons_zero, List.getElem_cons_succ, List.setIfInBounds_toArray, List.set_cons_zero, List.set_cons_succ]
            refine wpAnyH_take (i := 1) (v := ?v14) rfl (by kernel_rfl) (by kernel_rfl) (by kernel_rfl) (fun _ _ _ h => h) (Or.inl ⟨by rfl, ?hy14⟩) (by assumption) ?rest14
            case hy14 => (intro w' hSw; dsimp only [List.getElem_toArray, List.getElem_cons_zero, List.getElem_cons_succ] at hSw ⊢; go_simp; try (with_reducible rfl))
            try simp only [Act.put, List.getElem_toArray, List.getElem_cons_zero, List.getElem_cons_succ, List.setIfInBounds_toArray, List.set_cons_zero, List.set_cons_succ]
            refine wpAnyH_take (i := 2) (v := ?v15) rfl (by kernel_rfl) (by kernel_rfl) (by kernel_rfl) (fun _ _ _ h => h) (Or.inl ⟨by rfl, ?hy15⟩) (by assumption) ?rest15
            case hy15 => (intro w' hSw; dsimp only [List.getElem_toArray, List.getElem_cons_zero, List.getElem_cons_succ] at hSw ⊢; go_simp; try (with_reducible rfl))
            try simp only [Act.put, List.getElem_toArray, List.getElem_cons_zero, List.getElem_cons_succ, List.setIfInBounds_toArray, List.set_cons_zero, List.set_cons_succ]
            refine wpAnyH_take (i := 3) (v := ?v16) rfl (by kernel_rfl) (by kernel_rfl) (by kernel_rfl) (fun _ _ _ h => h) (Or.inl ⟨by rfl, ?hy16⟩) (by assumption) ?rest16
            case hy16 => (intro w' hSw; dsimp only [List.getElem_toArray, List.getElem_cons_zero, List.getElem_cons_succ] at hSw ⊢; go_simp; try (with_reducible rfl))
            try simp only [Act.put, List.getElem_toArray, List.getElem_cons_zero, List.getElem_cons_succ, List.setIfInBounds_toArray, List.set_cons_zero, List.set_cons_succ]
            refine wpAnyH_take (i := 4) (v := ?v17) rfl (by kernel_rfl) (by kernel_rfl) (by kernel_rfl) (fun _ _ _ h => h) (Or.inl ⟨by rfl, ?hy17⟩) (by assumption) ?rest17
            case hy17 => (intro w' hSw; dsimp only [List.getElem_toArray, List.getElem_cons_zero, List.getElem_cons_succ] at hSw ⊢; go_simp; try (with_reducible rfl))
            try simp only [Act.put, List.getElem_toArray, List.getElem_cons_zero, List.getElem_cons_succ, List.setIfInBounds_toArray, List.set_cons_zero, List.set_cons_succ]
            refine wpAnyH_take (i := 5) (v := ?v18) rfl (by kernel_rfl) (by kernel_rfl) (by kernel_rfl) (fun _ _ _ h => h) (Or.inl ⟨by rfl, ?hy18⟩) (by assumption) ?rest18
            case hy18 => (intro w' hSw; dsimp only [List.getElem_toArray, List.getElem_cons_zero, List.getElem_cons_succ] at hSw ⊢; go_simp; try (with_reducible rfl))
            try simp only [Act.put, List.getElem_toArray, List.getElem_cons_zero, List.getElem_cons_succ, List.setIfInBounds_toArray, List.set_cons_zero, List.set_cons_succ]
            refine wpAnyH_take (i := 6) (v := ?v19) rfl (by kernel_rfl) (by kernel_rfl) (by kernel_rfl) (fun _ _ _ h => h) (Or.inl ⟨by rfl, ?hy19⟩) (by assumption) ?rest19
            case hy19 => (intro w' hSw; dsimp only [List.getElem_toArray, List.getElem_cons_zero, List.getElem_cons_succ] at hSw ⊢; go_simp; try (with_reducible rfl))
            try simp only [Act.put, List.getElem_toArray, List.getElem_cons_zero, List.getElem_cons_succ, List.setIfInBounds_toArray, List.set_cons_zero, List.set_cons_succ]
            refine wpAnyH_ready (rs := [7]) (by kernel_rfl) (by simp) ?_
            refine (AllReadyH.cons rfl (fun K hK => ?_) AllReadyH.nil)
            have xr := (A2.out.step PTV.out.low).atBox 0 rfl
            obtain ⟨d0, d1⟩ := xr.c2
            have f0 := xr.frozen 0
            have f1 := xr.frozen 1
            dsimp only [List.getElem_toArray, List.getElem_cons_zero, List.getElem_cons_succ]
            go_simp
            clear d0 d1 f0 f1 hHeld
            have FIN := hide (PTV.out.fin (A2.out.atBox 0 rfl) A2.out.below (by omega))
            have xo := (PTV.out.out.other (g' := w.heap.size + 1) (j := 0) (x := .slice va L.length vc) (by have := PTV.out.l2; have := (A2.out.atBox 0 rfl).lt; omega)).other (g' := w.heap.size + 1) (j := 1) (x := .slice ra vs.length rc) (by have := PTV.out.l2; have := (A2.out.atBox 0 rfl).lt; omega)
            have xa := (((A2.out.step PTV.out.low).atBox 1 rfl).other (g' := w.heap.size + 1) (j := 0) (x := .slice va L.length vc) (by omega)).other (g' := w.heap.size + 1) (j := 1) (x := .slice ra vs.length rc) (by omega)
            clear xr
            refine hK.out _ _ (⟨xo.c2, xa.c2⟩) (fun hHeld => ?_)
            clear hK K
            try simp only [Act.put, List.getElem_toArray, List.getElem_cons_zero, List.getElem_cons_succ, List.setIfInBounds_toArray, List.set_cons_zero, List.set_cons_succ]
            refine wpAnyH_take (i := 8) (v := ?v20) rfl (by kernel_rfl) (by kernel_rfl) (by kernel_rfl) (fun _ _ _ h => h) (Or.inl ⟨by rfl, ?hy20⟩) (by assumption) ?rest20
            case hy20 => (intro w' hSw; dsimp only [List.getElem_toArray, List.getElem_cons_zero, List.getElem_cons_succ] at hSw ⊢; go_simp; try (with_reducible rfl))
            try simp only [Act.put, List.getElem_toArray, List.getElem_cons_zero, List.getElem_cons_succ, List.setIfInBounds_toArray, List.set_cons_zero, List.set_cons_succ]
            refine wpAnyH_take (i := 9) (v := ?v21) rfl (by kernel_rfl) (by kernel_rfl) (by kernel_rfl) (fun _ _ _ h => h) (Or.inl ⟨by rfl, ?hy21⟩) (by assumption) ?rest21
            case hy21 => (intro w' hSw; dsimp only [List.getElem_toArray, List.getElem_cons_zero, List.getElem_cons_succ] at hSw ⊢; go_simp; try (with_reducible rfl))
            try simp only [Act.put, List.getElem_toArray, List.getElem_cons_zero, List.getElem_cons_succ, List.setIfInBounds_toArray, List.set_cons_zero, List.set_cons_succ]
            refine wpAnyH_done (by kernel_rfl) ?_ _
            refine NoPanic.normal ?_
            clear hHeld xo xa
            go_wp2
            refine bodyPost_ret (res_pl3 rfl _ _ (w.heap.size + 1) _ _ (0, 0) rfl FIN.out.1) rfl ⟨_, _, ?_, FIN.out.2.1, FIN.out.2.2⟩
            rw [HW3.out]
            have ew := wrap_few ((m.length : Int) - (L.length : Int)) (by omega) (by omega)
            exact congrArg (fun q => Ending.returned (.tuple #[.agg #[.slice va L.length vc, .slice ra vs.length rc], .int .i64 q, .bool true])) ew
end Go.Proofs.Ythmijjcddjlebaa

/-
  One root more: HoldRoot of the program and of the model, call by call. Each contract says what it asks.
-/
import Derived.Test.YtakhggnbhjoojaaGnj
namespace Go.Proofs.Ytakhggnbhjoojaa
open Go.RowKit
set_option linter.unusedVariables false

/-- A row besides grows: where it lay, or in a new block. -/
theorem NdV.appE {w w' : World} {lo hi : Nat} {v v' : Value} {es us : List Value} {qs : List (List Int)} {xs : List Nd} {r : List Int} (h : NdV w lo hi v es us qs xs) (i : Nat) (hi' : i < qs.length) (ho : Own w' lo v' r) (hg : w.grownBy w' (es.getD i nilRow).ownBlock) (hat : v'.ownBlock = (es.getD i nilRow).ownBlock ∨ v'.ownBlock = some w.heap.size) (hh : hi ≤ w.heap.size) :
    NdV w' lo w'.heap.size v (es.set i v') us (qs.set i r) xs := by
  have e1 : (es ++ us).getD i nilRow = es.getD i nilRow := getD_app_left es us i _ (by rw [h.lenE]; exact hi')
  refine ⟨World.ownsRow.kept h.head hg (h.off (h.rowE i hi')), fun k hk => ?_, by simp [h.lenE], ?_⟩
  · have := h.top k hk
    have := hg.size
    omega
  · rw [← set_app_left qs _ i _ hi', ← set_app_left es _ i _ (by rw [h.lenE]; exact hi')]
    exact h.rws.app i (by simp; omega) ho (by rw [e1]; exact hg) (by rw [e1]; exact hat) hh
/-- A place of a row: what stands there, and what the row is when it is written. -/
theorem own_put {w : World} {lo n : Nat} {v : Value} {cs : List Int} (h : Own w lo v cs) (hn : n < cs.length) :
    ∃ g cap, v = .slice (some ⟨g, 0, none⟩) cs.length cap ∧ w.cell? ⟨g, n, none⟩ = some (.int .i64 (cs.getD n 0)) ∧ w.frozen? ⟨g, n, none⟩ = false ∧ ∀ y : Int, Own (w.setCell ⟨g, n, none⟩ (.int .i64 y)) lo v (cs.set n y) ∧ w.grownBy (w.setCell ⟨g, n, none⟩ (.int .i64 y)) v.ownBlock := by
  obtain ⟨g, cap, rfl⟩ : ∃ g cap, v = .slice (some ⟨g, 0, none⟩) cs.length cap := by
    rcases h.2 with ⟨_, h0⟩ | ⟨g, cap, cur, rfl, _⟩
    · omega
    · exact ⟨g, cap, rfl⟩
  refine ⟨g, cap, rfl, ?_, World.ownsRow.frozenAt h n, fun y => ?_⟩
  · rw [World.ownsRow.cellAt h n (by omega), List.getElem?_map, List.getElem?_eq_getElem hn, List.getD_eq_getElem?_getD, List.getElem?_eq_getElem hn]
    rfl
  · have st := World.ownsRow.stored h n (.int .i64 y)
    refine ⟨?_, st.2⟩
    have h1 := st.1
    unfold Own
    rw [List.length_set]
    rw [← List.map_set] at h1
    exact h1
theorem rd_one {w : World} {g : Nat} {x : Int} (h : BoxAt w g #[.int .i64 x] 3) : Rd w (.slice (some ⟨g, 0, none⟩) 1 1) [x] := by
  refine ⟨_, 1, rfl, by simp, ⟨by unfold maxLen; omega, fun h => by cases h⟩, .inr ⟨g, 0, rfl, h.lt, fun i hi => ?_⟩⟩
  have : i = 0 := by simpa using hi
  subst this
  rw [Nat.zero_add, h.cell 0]
  rfl
theorem good_bd {m : List Nd} {rs cs : List Int} (h : goodG m rs cs) : Bd 90 cs := by
  rw [h.2.1]
  have h8 := Bd.nodes (m := m) (Bd.list (xs := rs) (Bd.zero m.length))
  have h9 := totN_six m h.1.1.2
  have h10 := h.1.1.1
  have h11 := h.1.2.1
  exact h8.mono (by omega)
theorem good_sz {m : List Nd} {rs cs : List Int} (h : goodG m rs cs) : SzG m rs cs := by
  have := szG_ok h.1
  rw [h.2.1]
  exact this
theorem good_len {m : List Nd} {rs cs : List Int} (h : goodG m rs cs) : cs.length = m.length := by rw [h.2.1, cntG_len]

/-- A good graph that has the node. -/
abbrev thG (m : List Nd) (rs cs : List Int) (x : Int) : Prop := goodG m rs cs ∧ okH m m.length x

set_option maxRecDepth 100000 in
set_option maxHeartbeats 1600000 in
theorem l10There_calls (p r c : Value) (m : List Nd) (rs cs : List Int) (x : Int) (w : World) (h : RdG w p r c m rs cs) :
    Calls Try.prog 89 #[.agg #[p, r, c], .int .i64 x] w fun e w' => e = .returned (.bool (decide (thG m rs cs x))) ∧ Below w.heap.size w w' := by
  have R := hide h
  obtain ⟨⟨ap, cp, rfl, h1, h2, h3⟩, ⟨ar, cr, rfl, _⟩, ⟨ac, cc, rfl, _⟩⟩ := h
  have hm : m.length ≤ maxLen := by omega
  unfold maxLen at hm
  clear h1 h2 h3
  have A0 := hide ((Hand.start w).box #[.slice ap m.length cp, .slice ar rs.length cr, .slice ac cs.length cc] 27)
  by_cases hg : goodG m rs cs
  case neg =>
    have E : Hid (decide (goodG m rs cs) = false) := decide_eq_false hg
    have T : Hid (decide (thG m rs cs x) = false) := decide_eq_false (fun h => hg h.1)
    rw [T.out]
    clear hg
    go_enter Try.func89, Try.ntmps89
    go_wp2_with fail
    refine (sGoodGraph_calls _ _ _ m rs cs _ (R.out.below A0.out.below)).mono ?_
    rw [E.out]
    rintro e w1 ⟨rfl, b1⟩
    have A1 := hide (A0.out.step b1)
    clear b1 A0
    go_wp2
    go_ret
    exact ⟨rfl, A1.out.below⟩
  have E : Hid (decide (goodG m rs cs) = true) := decide_eq_true hg
  obtain ⟨y, hy⟩ : ∃ y, decide (thG m rs cs x) = y := ⟨_, rfl⟩
  rw [hy]
  have HY : Hid (y = true ↔ okH m m.length x) := by
    show _ ↔ _
    rw [← hy, decide_eq_true_iff]
    exact ⟨fun h => h.2, fun h => ⟨hg, h⟩⟩
  clear hg hy
  go_enter Try.func89, Try.ntmps89
  go_wp2_with fail
  refine (sGoodGraph_calls _ _ _ m rs cs _ (R.out.below A0.out.below)).mono ?_
  rw [E.out]
  rintro e w1 ⟨rfl, b1⟩
  have A1 := hide (A0.out.step b1)
  obtain ⟨c0, c1, c2⟩ := (A1.out.atBox 0 rfl).c3
  clear b1 A0
  by_cases h0 : 0 ≤ x
  case neg =>
    obtain rfl : y = false := by
      cases y with
      | false => rfl
      | true => exact absurd (HY.out.1 rfl).1 h0
    have h0b : decide (0 ≤ x) = false := decide_eq_false h0
    go_wp2
    go_ret
    exact ⟨rfl, A1.out.below⟩
  obtain ⟨n, rfl⟩ : ∃ n : Nat, x = (n : Int) := ⟨x.toNat, by omega⟩
  by_cases h1 : n < m.length
  case neg =>
    obtain rfl : y = false := by
      cases y with
      | false => rfl
      | true => exact absurd (HY.out.1 rfl).2.1 (by omega)
    have h1b : decide ((n : Int) < (m.length : Int)) = false := decide_eq_false (by omega)
    go_wp2
    go_ret
    exact ⟨rfl, A1.out.below⟩
  obtain ⟨b, off, u, ks, z, rfl, hx, hu, d0, d1⟩ := (R.out.below A1.out.below).1.at n h1
  have EZ : Hid ((!z) = y) := by
    show _ = _
    have := HY.out
    unfold okH at this
    rw [Int.toNat_natCast, hx] at this
    cases z <;> cases y <;> simp_all
  have h1' : (n : Int) < (m.length : Int) := by omega
  clear hx hu d0
  go_wp2
  go_ret
  exact ⟨ret_bol EZ.out, A1.out.below⟩

/-- A root can be held. -/
abbrev hrOk (m : List Nd) (rs cs : List Int) (x : Int) : Prop := thG m rs cs x ∧ rs.length ≠ 6

set_option maxRecDepth 100000 in
set_option maxHeartbeats 1600000 in
theorem sHoldRoot_calls (p r c : Value) (m : List Nd) (rs cs : List Int) (x : Int) (ok : Bool) (w : World) (h : RdG w p r c m rs cs) (hok : ok = decide (hrOk m rs cs x)) :
    Calls Try.prog 37 #[.agg #[p, r, c], .int .i64 x] w fun e w' => ∃ p' r' c', e = .returned (.tuple #[.agg #[p', r', c'], .bool ok]) ∧ TGrf p' r' c' (gX ok m) (gX ok (rs ++ [x])) (gX ok (bump cs x)) w.heap.size w'.heap.size w' ∧ Below w.heap.size w w' := by
  have R := hide h
  obtain ⟨⟨ap, cp, rfl, h1, h2, h3⟩, ⟨ar, cr, rfl, hr1, hr2, _⟩, ⟨ac, cc, rfl, _⟩⟩ := h
  have hrm : rs.length ≤ maxLen := by omega
  unfold maxLen at hrm
  have A0 := hide (Hand.twoN w #[.slice ap m.length cp, .slice ar rs.length cr, .slice ac cs.length cc] nilG 27 27)
  clear h1 h2 h3 hr1 hr2
  by_cases hg : thG m rs cs x
  case neg =>
    obtain rfl : ok = false := by rw [hok]; exact decide_eq_false (fun h => hg h.1)
    have E : Hid (decide (thG m rs cs x) = false) := decide_eq_false hg
    clear hok hg
    go_enter Try.func37, Try.ntmps37
    go_wp2_with fail
    refine (l10There_calls _ _ _ m rs cs _ _ (R.out.below A0.out.below)).mono ?_
    rw [E.out]
    rintro e w1 ⟨rfl, b1⟩
    have A8 := hide (A0.out.step b1)
    have x := A8.out.atBox 0 rfl
    obtain ⟨z0, z1, z2⟩ := x.c3
    have f0 := x.frozen 0
    have f1 := x.frozen 1
    have f2 := x.frozen 2
    obtain ⟨c0, c1, c2⟩ := (A8.out.atBox 1 rfl).c3
    have A9 := hide (A8.out.store3G 0 rfl nilRow nilRow nilRow)
    clear x A8
    go_wp2
    exact bodyPost_ret (res_gr2 rfl _ _ (w.heap.size + 1) _ _ _ (0, 0) rfl (A9.out.atBox 0 rfl)) rfl ⟨_, _, _, rfl, TGrf.nil _ _ _, A9.out.below⟩
  have E : Hid (decide (thG m rs cs x) = true) := decide_eq_true hg
  by_cases h6 : rs.length = 6
  case pos =>
    obtain rfl : ok = false := by rw [hok]; exact decide_eq_false (fun h => h.2 h6)
    have h6b : ((rs.length : Int) == 6) = true := by simp; omega
    clear hok hg h6
    go_enter Try.func37, Try.ntmps37
    go_wp2_with fail
    refine (l10There_calls _ _ _ m rs cs _ _ (R.out.below A0.out.below)).mono ?_
    rw [E.out]
    rintro e w1 ⟨rfl, b1⟩
    have A8 := hide (A0.out.step b1)
    have x := A8.out.atBox 0 rfl
    obtain ⟨z0, z1, z2⟩ := x.c3
    have f0 := x.frozen 0
    have f1 := x.frozen 1
    have f2 := x.frozen 2
    obtain ⟨c0, c1, c2⟩ := (A8.out.atBox 1 rfl).c3
    have A9 := hide (A8.out.store3G 0 rfl nilRow nilRow nilRow)
    clear x A8
    go_wp2
    exact bodyPost_ret (res_gr2 rfl _ _ (w.heap.size + 1) _ _ _ (0, 0) rfl (A9.out.atBox 0 rfl)) rfl ⟨_, _, _, rfl, TGrf.nil _ _ _, A9.out.below⟩
  obtain rfl : ok = true := by rw [hok]; exact decide_eq_true ⟨hg, h6⟩
  have h6b : ((rs.length : Int) == 6) = false := by simp; omega
  have GG := hide hg.1
  have HH := hide hg.2
  clear hok hg h6
  obtain ⟨n, hn⟩ : ∃ n : Nat, x = (n : Int) := ⟨x.toNat, by have := HH.out.1; omega⟩
  have hnm : n < m.length := by have := HH.out.2.1; omega
  have hcl : cs.length = m.length := good_len GG.out
  have hbd : 0 ≤ cs.getD n 0 ∧ cs.getD n 0 ≤ 90 := (good_bd GG.out) n (by omega)
  have hrs : rs.length ≤ 6 := GG.out.1.2.1
  have SZ := hide (good_sz GG.out)
  subst hn
  have HCL := hide hcl
  have HBD := hide hbd
  have HNM := hide hnm
  clear hcl hbd hnm
  go_enter Try.func37, Try.ntmps37
  go_wp2_with fail
  refine (l10There_calls _ _ _ m rs cs _ _ (R.out.below A0.out.below)).mono ?_
  rw [E.out]
  rintro e w1 ⟨rfl, b1⟩
  have A1 := hide (A0.out.step b1)
  obtain ⟨c0, c1, c2⟩ := (A1.out.atBox 1 rfl).c3
  clear b1 A0
  go_wp2_with fail
  refine (l10Own_calls _ _ _ m rs cs _ (R.out.below A1.out.below) SZ.out).mono ?_
  rintro e w4 ⟨p4, r4, c4, rfl, d4, b4⟩
  obtain ⟨ap4, cp4, ar4, cr4, ac4, cc4, rfl, rfl, rfl⟩ := d4.sls
  have hgx : w.heap.size + 1 < w4.heap.size := Nat.lt_of_lt_of_le (A1.out.atBox 0 rfl).lt b4.size
  have A4 := (A1.out.add b4 (TGrf.st _ _ _ _ _ _) d4).box #[.slice ap4 m.length cp4, .slice ar4 rs.length cr4, .slice ac4 cs.length cc4] 27
  have A5 := A4.box #[.int .i64 (n : Int)] 3
  rw [World.size_alloc] at A5
  obtain ⟨w5, hw5⟩ : ∃ w5, w5 = (w4.alloc (.cells #[.slice ap4 m.length cp4, .slice ar4 rs.length cr4, .slice ac4 cs.length cc4] 27)).alloc (.cells #[.int .i64 (n : Int)] 3) := ⟨_, rfl⟩
  rw [← hw5] at A5
  have S5 : Hid (w5.heap.size = w4.heap.size + 1 + 1) := by show _ = _; rw [hw5]; simp
  have RX := hide (rd_one (A5.atBox 0 rfl))
  obtain ⟨lo5, hi5, ⟨us5, d5⟩, hl5, hh5, put5⟩ := A5.open 2 rfl
  have d5' := d5.wider (lo' := w.heap.size) (hi' := w5.heap.size) hl5 hh5
  have GB := hide (A5.atBox 1 rfl)
  have XB := hide (A5.atBox 3 rfl)
  have AB := hide A5.below
  have hcl := HCL.out
  have hbd := HBD.out
  have hnm := HNM.out
  have hnc0 : n < cs.length := by omega
  have HNC := hide hnc0
  obtain ⟨gc, kc, hc, _⟩ := own_put (d5'.rowE 1 (by simp)) (n := n) hnc0
  simp only [List.getD_cons_zero, List.getD_cons_succ, Value.slice.injEq, true_and] at hc
  obtain ⟨rfl, rfl⟩ := hc
  have W5 : Hid ((w4.alloc (.cells #[.slice ap4 m.length cp4, .slice ar4 rs.length cr4, .slice (some ⟨gc, 0, none⟩) cs.length cc4] 27)).alloc (.cells #[.int .i64 (n : Int)] 3) = w5) := hw5.symm
  have D5 := hide d5'
  clear put5 b4 d4 A1 A4 A5 hw5 d5 d5' lo5 hi5 hl5 hh5 c0 c1 c2 hcl hbd hnm hnc0
  go_wp2_with (at_builtin; refine wpList_app_int rfl _ _ rfl w.heap.size (.slice ar4 rs.length cr4) rfl rs (by rw [W5.out]; exact D5.out.rowE 0 (by simp)) (.slice (some ⟨w4.heap.size + 1, 0, none⟩) 1 1) rfl [(n : Int)] (by rw [W5.out]; exact RX.out) (by simp only [List.length_singleton]; omega) (by rw [W5.out]; exact AB.out.size) ?_)
  rw [W5.out]
  intro v6 w6 o6 g6 at6
  obtain ⟨a6, k6, hv6⟩ := row_slice o6
  obtain ⟨L6, hL6⟩ : ∃ L, L = (rs ++ [(n : Int)]).length := ⟨_, rfl⟩
  rw [← hL6] at hv6
  subst hv6
  clear hL6
  have gk : (Value.slice ar4 rs.length cr4).ownBlock ≠ some w4.heap.size := GB.out.offT (D5.out.rowE 0 (by simp)) (by decide)
  have xk : (Value.slice ar4 rs.length cr4).ownBlock ≠ some (w.heap.size + 1) := XB.out.offT (D5.out.rowE 0 (by simp)) (by decide)
  have d6 := D5.out.appE 0 (by simp) o6 g6 (by first | exact at6 | (rw [S5.out]; exact at6)) (Nat.le_refl _)
  have gb6 := GB.out.kept g6 gk
  have xb6 := XB.out.kept g6 xk
  have b6 : Below w.heap.size w w6 := AB.out.grown g6 AB.out.size (fun k hk => (World.ownsRow.lt (D5.out.rowE 0 (by simp)) k hk).1)
  obtain ⟨vr, hvr⟩ : ∃ vr, vr = Value.slice a6 L6 k6 := ⟨_, rfl⟩
  rw [← hvr] at d6
  have d7 := d6.atBox gb6 (by decide) (by decide) 1 vr
  have gb7 : BoxAt (w6.setCell ⟨w4.heap.size, 1, none⟩ vr) w4.heap.size #[.slice ap4 m.length cp4, vr, .slice (some ⟨gc, 0, none⟩) cs.length cc4] 27 := by simpa using gb6.set 1 vr
  have xb7 := xb6.other (g' := w4.heap.size) (j := 1) (x := vr) (by omega)
  have b7 : Below w.heap.size w (w6.setCell ⟨w4.heap.size, 1, none⟩ vr) := b6.setCell (by show w.heap.size ≤ w4.heap.size; omega) _
  obtain ⟨gc0, gc1, gc2⟩ := gb6.c3
  have gf1 := gb6.frozen 1
  obtain ⟨hc0, hc1, hc2⟩ := gb7.c3
  have o7 := d7.rowE 1 (by simp)
  obtain ⟨g', k', he, n7, nf7, put7⟩ := own_put o7 (n := n) HNC.out
  have hbd := HBD.out
  simp only [List.getD_cons_zero, List.getD_cons_succ, List.set_cons_zero, Value.slice.injEq, Option.some.injEq, Addr.mk.injEq, and_true, true_and] at he
  obtain ⟨rfl, rfl⟩ := he
  have n7' : (w6.setCell ⟨w4.heap.size, 1, none⟩ vr).cell? ⟨gc, n, none⟩ = some (.int .i64 (cs.getD n 0)) := n7
  obtain ⟨y, hy⟩ : ∃ y, y = cs.getD n 0 := ⟨_, rfl⟩
  rw [← hy] at n7' hbd
  have p7 := put7 (y + 1)
  have d8 := d7.writeE 1 (by simp) p7.1 p7.2
  have gb8 := gb7.kept p7.2 (gb7.offT o7 (by decide))
  have xb8 := xb7.kept p7.2 (xb7.offT o7 (by decide))
  have b8 : Below w.heap.size w ((w6.setCell ⟨w4.heap.size, 1, none⟩ vr).setCell ⟨gc, n, none⟩ (.int .i64 (y + 1))) := b7.grown p7.2 b7.size (fun k hk => (World.ownsRow.lt o7 k hk).1)
  obtain ⟨ic0, ic1, ic2⟩ := gb8.c3
  obtain ⟨jc0, jc1, jc2⟩ := xb8.c3
  have jf0 := xb8.frozen 0
  have jf1 := xb8.frozen 1
  have jf2 := xb8.frozen 2
  have hnc : (n : Int) < (cs.length : Int) := by have := HNC.out; omega
  have hy0 := hbd.1
  have hy1 := hbd.2
  obtain ⟨w8, hw8⟩ : ∃ w8, w8 = (w6.setCell ⟨w4.heap.size, 1, none⟩ vr).setCell ⟨gc, n, none⟩ (.int .i64 (y + 1)) := ⟨_, rfl⟩
  have W8 : Hid ((w6.setCell ⟨w4.heap.size, 1, none⟩ vr).setCell ⟨gc, n, none⟩ (.int .i64 (y + 1)) = w8) := hw8.symm
  have xb9 := (xb8.store3 (.slice ap4 m.length cp4) vr (.slice (some ⟨gc, 0, none⟩) cs.length cc4))
  have d9 := ((d8.atBox xb8 (by decide) (by decide) 0 (.slice ap4 m.length cp4)).atBox (xb8.set 0 (.slice ap4 m.length cp4)) (by decide) (by decide) 1 vr).atBox ((xb8.set 0 (.slice ap4 m.length cp4)).set 1 vr) (by decide) (by decide) 2 (.slice (some ⟨gc, 0, none⟩) cs.length cc4)
  have b9 := ((b8.setCell (p := ⟨w.heap.size + 1, 0, none⟩) (by show w.heap.size ≤ w.heap.size + 1; omega) (.slice ap4 m.length cp4)).setCell (p := ⟨w.heap.size + 1, 1, none⟩) (by show w.heap.size ≤ w.heap.size + 1; omega) vr).setCell (p := ⟨w.heap.size + 1, 2, none⟩) (by show w.heap.size ≤ w.heap.size + 1; omega) (.slice (some ⟨gc, 0, none⟩) cs.length cc4)
  have hbp : cs.set n (y + 1) = bump cs (n : Int) := by rw [hy]; simp [bump]
  simp only [List.set_cons_zero, List.set_cons_succ, List.getD_cons_zero, List.getD_cons_succ] at d9
  rw [hbp] at d9
  have D9 := hide (d9.wider (lo' := w.heap.size) (hi' := (((((w6.setCell ⟨w4.heap.size, 1, none⟩ vr).setCell ⟨gc, n, none⟩ (.int .i64 (y + 1))).setCell ⟨w.heap.size + 1, 0, none⟩ (.slice ap4 m.length cp4)).setCell ⟨w.heap.size + 1, 1, none⟩ vr).setCell ⟨w.heap.size + 1, 2, none⟩ (.slice (some ⟨gc, 0, none⟩) cs.length cc4)).heap.size) (Nat.le_refl _) (by simp))
  have X9 := hide xb9
  have B9 := hide b9
  clear d6 d7 d8 d9 gb6 gb7 gb8 xb6 xb7 xb8 xb9 b6 b7 b8 b9 o6 g6 at6 o7 p7 put7 gk xk hbd hw8 W8 hbp n7 hgx hy
  subst hvr
  go_wp2
  exact bodyPost_ret (res_gr2 rfl _ _ (w.heap.size + 1) _ _ _ (0, 0) rfl X9.out) rfl ⟨_, _, _, rfl, ⟨us5, D9.out⟩, B9.out⟩

set_option maxRecDepth 100000 in
set_option maxHeartbeats 1600000 in
theorem holdRoot_calls (p r c : Value) (m : List Nd) (rs cs : List Int) (x : Int) (ok : Bool) (w : World) (h : RdG w p r c m rs cs) (hok : ok = decide (hrOk m rs cs x)) :
    Calls Try.prog 38 #[.agg #[p, r, c], .int .i64 x] w fun e w' => ∃ p' r' c', e = .returned (.tuple #[.agg #[p', r', c'], .bool ok]) ∧ TGrf p' r' c' (gX ok m) (gX ok (rs ++ [x])) (gX ok (bump cs x)) w.heap.size w'.heap.size w' ∧ Below w.heap.size w w' := by
  have R := hide h
  obtain ⟨⟨ap, cp, rfl, h1, h2, h3⟩, ⟨ar, cr, rfl, hr1, hr2, _⟩, ⟨ac, cc, rfl, _⟩⟩ := h
  have hrm : rs.length ≤ maxLen := by omega
  unfold maxLen at hrm
  have A0 := hide (Hand.twoN w #[.slice ap m.length cp, .slice ar rs.length cr, .slice ac cs.length cc] nilG 27 27)
  clear h1 h2 h3 hr1 hr2
  by_cases hg : goodG m rs cs
  case neg =>
    obtain rfl : ok = false := by rw [hok]; exact decide_eq_false (fun h => hg h.1.1)
    have E : Hid (decide (goodG m rs cs) = false) := decide_eq_false hg
    clear hok hg
    go_enter Try.func38, Try.ntmps38
    go_wp2_with fail
    refine (goodGraph_calls _ _ _ m rs cs _ (R.out.below A0.out.below)).mono ?_
    rw [E.out]
    rintro e w1 ⟨rfl, b1⟩
    have A8 := hide (A0.out.step b1)
    have x := A8.out.atBox 0 rfl
    obtain ⟨z0, z1, z2⟩ := x.c3
    have f0 := x.frozen 0
    have f1 := x.frozen 1
    have f2 := x.frozen 2
    obtain ⟨c0, c1, c2⟩ := (A8.out.atBox 1 rfl).c3
    have A9 := hide (A8.out.store3G 0 rfl nilRow nilRow nilRow)
    clear x A8
    go_wp2
    exact bodyPost_ret (res_gr2 rfl _ _ (w.heap.size + 1) _ _ _ (0, 0) rfl (A9.out.atBox 0 rfl)) rfl ⟨_, _, _, rfl, TGrf.nil _ _ _, A9.out.below⟩
  have E : Hid (decide (goodG m rs cs) = true) := decide_eq_true hg
  by_cases hh : okH m m.length x
  case neg =>
    obtain rfl : ok = false := by rw [hok]; exact decide_eq_false (fun h => hh h.1.2)
    have E2 : Hid (decide (okH m m.length x) = false) := decide_eq_false hh
    clear hok hg hh
    go_enter Try.func38, Try.ntmps38
    go_wp2_with fail
    refine (goodGraph_calls _ _ _ m rs cs _ (R.out.below A0.out.below)).mono ?_
    rw [E.out]
    rintro e w1 ⟨rfl, b1⟩
    have A1 := hide (A0.out.step b1)
    obtain ⟨c0, c1, c2⟩ := (A1.out.atBox 1 rfl).c3
    clear b1
    go_wp2_with fail
    refine (hasNode_calls _ m _ _ (R.out.below A1.out.below).1).mono ?_
    rw [E2.out]
    rintro e w2 ⟨rfl, rfl⟩
    clear c0 c1 c2
    have A8 := hide (A1.out)
    have x := A8.out.atBox 0 rfl
    obtain ⟨z0, z1, z2⟩ := x.c3
    have f0 := x.frozen 0
    have f1 := x.frozen 1
    have f2 := x.frozen 2
    obtain ⟨c0, c1, c2⟩ := (A8.out.atBox 1 rfl).c3
    have A9 := hide (A8.out.store3G 0 rfl nilRow nilRow nilRow)
    clear x A8
    go_wp2
    exact bodyPost_ret (res_gr2 rfl _ _ (w.heap.size + 1) _ _ _ (0, 0) rfl (A9.out.atBox 0 rfl)) rfl ⟨_, _, _, rfl, TGrf.nil _ _ _, A9.out.below⟩
  have E2 : Hid (decide (okH m m.length x) = true) := decide_eq_true hh
  by_cases h6 : rs.length = 6
  case pos =>
    obtain rfl : ok = false := by rw [hok]; exact decide_eq_false (fun h => h.2 h6)
    have h6b : ((rs.length : Int) == 6) = true := by simp; omega
    clear hok hg h6 hh
    go_enter Try.func38, Try.ntmps38
    go_wp2_with fail
    refine (goodGraph_calls _ _ _ m rs cs _ (R.out.below A0.out.below)).mono ?_
    rw [E.out]
    rintro e w1 ⟨rfl, b1⟩
    have A1 := hide (A0.out.step b1)
    obtain ⟨c0, c1, c2⟩ := (A1.out.atBox 1 rfl).c3
    clear b1
    go_wp2_with fail
    refine (hasNode_calls _ m _ _ (R.out.below A1.out.below).1).mono ?_
    rw [E2.out]
    rintro e w2 ⟨rfl, rfl⟩
    clear c0 c1 c2
    have A8 := hide (A1.out)
    have x := A8.out.atBox 0 rfl
    obtain ⟨z0, z1, z2⟩ := x.c3
    have f0 := x.frozen 0
    have f1 := x.frozen 1
    have f2 := x.frozen 2
    obtain ⟨c0, c1, c2⟩ := (A8.out.atBox 1 rfl).c3
    have A9 := hide (A8.out.store3G 0 rfl nilRow nilRow nilRow)
    clear x A8
    go_wp2
    exact bodyPost_ret (res_gr2 rfl _ _ (w.heap.size + 1) _ _ _ (0, 0) rfl (A9.out.atBox 0 rfl)) rfl ⟨_, _, _, rfl, TGrf.nil _ _ _, A9.out.below⟩
  obtain rfl : ok = true := by rw [hok]; exact decide_eq_true ⟨⟨hg, hh⟩, h6⟩
  have h6b : ((rs.length : Int) == 6) = false := by simp; omega
  have GG := hide hg
  have HH := hide hh
  clear hok hg h6 hh
  obtain ⟨n, hn⟩ : ∃ n : Nat, x = (n : Int) := ⟨x.toNat, by have := HH.out.1; omega⟩
  have hnm : n < m.length := by have := HH.out.2.1; omega
  have hcl : cs.length = m.length := good_len GG.out
  have hbd : 0 ≤ cs.getD n 0 ∧ cs.getD n 0 ≤ 90 := (good_bd GG.out) n (by omega)
  have hrs : rs.length ≤ 6 := GG.out.1.2.1
  have SZ := hide (good_sz GG.out)
  subst hn
  have HCL := hide hcl
  have HBD := hide hbd
  have HNM := hide hnm
  clear hcl hbd hnm
  go_enter Try.func38, Try.ntmps38
  go_wp2_with fail
  refine (goodGraph_calls _ _ _ m rs cs _ (R.out.below A0.out.below)).mono ?_
  rw [E.out]
  rintro e w1 ⟨rfl, b1⟩
  have A1 := hide (A0.out.step b1)
  obtain ⟨c0, c1, c2⟩ := (A1.out.atBox 1 rfl).c3
  clear b1 A0
  go_wp2_with fail
  refine (hasNode_calls _ m _ _ (R.out.below A1.out.below).1).mono ?_
  rw [E2.out]
  rintro e w2 ⟨rfl, rfl⟩
  go_wp2_with fail
  refine (copyGraph_calls _ _ _ m rs cs _ (R.out.below A1.out.below) SZ.out).mono ?_
  rintro e w4 ⟨p4, r4, c4, rfl, d4, b4⟩
  obtain ⟨ap4, cp4, ar4, cr4, ac4, cc4, rfl, rfl, rfl⟩ := d4.sls
  have hgx : w.heap.size + 1 < w4.heap.size := Nat.lt_of_lt_of_le (A1.out.atBox 0 rfl).lt b4.size
  have A4 := (A1.out.add b4 (TGrf.st _ _ _ _ _ _) d4).box #[.slice ap4 m.length cp4, .slice ar4 rs.length cr4, .slice ac4 cs.length cc4] 27
  have A5 := A4.box #[.int .i64 (n : Int)] 3
  rw [World.size_alloc] at A5
  obtain ⟨w5, hw5⟩ : ∃ w5, w5 = (w4.alloc (.cells #[.slice ap4 m.length cp4, .slice ar4 rs.length cr4, .slice ac4 cs.length cc4] 27)).alloc (.cells #[.int .i64 (n : Int)] 3) := ⟨_, rfl⟩
  rw [← hw5] at A5
  have S5 : Hid (w5.heap.size = w4.heap.size + 1 + 1) := by show _ = _; rw [hw5]; simp
  have RX := hide (rd_one (A5.atBox 0 rfl))
  obtain ⟨lo5, hi5, ⟨us5, d5⟩, hl5, hh5, put5⟩ := A5.open 2 rfl
  have d5' := d5.wider (lo' := w.heap.size) (hi' := w5.heap.size) hl5 hh5
  have GB := hide (A5.atBox 1 rfl)
  have XB := hide (A5.atBox 3 rfl)
  have AB := hide A5.below
  have hcl := HCL.out
  have hbd := HBD.out
  have hnm := HNM.out
  have hnc0 : n < cs.length := by omega
  have HNC := hide hnc0
  obtain ⟨gc, kc, hc, _⟩ := own_put (d5'.rowE 1 (by simp)) (n := n) hnc0
  simp only [List.getD_cons_zero, List.getD_cons_succ, Value.slice.injEq, true_and] at hc
  obtain ⟨rfl, rfl⟩ := hc
  have W5 : Hid ((w4.alloc (.cells #[.slice ap4 m.length cp4, .slice ar4 rs.length cr4, .slice (some ⟨gc, 0, none⟩) cs.length cc4] 27)).alloc (.cells #[.int .i64 (n : Int)] 3) = w5) := hw5.symm
  have D5 := hide d5'
  clear put5 b4 d4 A1 A4 A5 hw5 d5 d5' lo5 hi5 hl5 hh5 c0 c1 c2 hcl hbd hnm hnc0
  go_wp2_with (at_builtin; refine wpList_app_int rfl _ _ rfl w.heap.size (.slice ar4 rs.length cr4) rfl rs (by rw [W5.out]; exact D5.out.rowE 0 (by simp)) (.slice (some ⟨w4.heap.size + 1, 0, none⟩) 1 1) rfl [(n : Int)] (by rw [W5.out]; exact RX.out) (by simp only [List.length_singleton]; omega) (by rw [W5.out]; exact AB.out.size) ?_)
  rw [W5.out]
  intro v6 w6 o6 g6 at6
  obtain ⟨a6, k6, hv6⟩ := row_slice o6
  obtain ⟨L6, hL6⟩ : ∃ L, L = (rs ++ [(n : Int)]).length := ⟨_, rfl⟩
  rw [← hL6] at hv6
  subst hv6
  clear hL6
  have gk : (Value.slice ar4 rs.length cr4).ownBlock ≠ some w4.heap.size := GB.out.offT (D5.out.rowE 0 (by simp)) (by decide)
  have xk : (Value.slice ar4 rs.length cr4).ownBlock ≠ some (w.heap.size + 1) := XB.out.offT (D5.out.rowE 0 (by simp)) (by decide)
  have d6 := D5.out.appE 0 (by simp) o6 g6 (by first | exact at6 | (rw [S5.out]; exact at6)) (Nat.le_refl _)
  have gb6 := GB.out.kept g6 gk
  have xb6 := XB.out.kept g6 xk
  have b6 : Below w.heap.size w w6 := AB.out.grown g6 AB.out.size (fun k hk => (World.ownsRow.lt (D5.out.rowE 0 (by simp)) k hk).1)
  obtain ⟨vr, hvr⟩ : ∃ vr, vr = Value.slice a6 L6 k6 := ⟨_, rfl⟩
  rw [← hvr] at d6
  have d7 := d6.atBox gb6 (by decide) (by decide) 1 vr
  have gb7 : BoxAt (w6.setCell ⟨w4.heap.size, 1, none⟩ vr) w4.heap.size #[.slice ap4 m.length cp4, vr, .slice (some ⟨gc, 0, none⟩) cs.length cc4] 27 := by simpa using gb6.set 1 vr
  have xb7 := xb6.other (g' := w4.heap.size) (j := 1) (x := vr) (by omega)
  have b7 : Below w.heap.size w (w6.setCell ⟨w4.heap.size, 1, none⟩ vr) := b6.setCell (by show w.heap.size ≤ w4.heap.size; omega) _
  obtain ⟨gc0, gc1, gc2⟩ := gb6.c3
  have gf1 := gb6.frozen 1
  obtain ⟨hc0, hc1, hc2⟩ := gb7.c3
  have o7 := d7.rowE 1 (by simp)
  obtain ⟨g', k', he, n7, nf7, put7⟩ := own_put o7 (n := n) HNC.out
  have hbd := HBD.out
  simp only [List.getD_cons_zero, List.getD_cons_succ, List.set_cons_zero, Value.slice.injEq, Option.some.injEq, Addr.mk.injEq, and_true, true_and] at he
  obtain ⟨rfl, rfl⟩ := he
  have n7' : (w6.setCell ⟨w4.heap.size, 1, none⟩ vr).cell? ⟨gc, n, none⟩ = some (.int .i64 (cs.getD n 0)) := n7
  obtain ⟨y, hy⟩ : ∃ y, y = cs.getD n 0 := ⟨_, rfl⟩
  rw [← hy] at n7' hbd
  have p7 := put7 (y + 1)
  have d8 := d7.writeE 1 (by simp) p7.1 p7.2
  have gb8 := gb7.kept p7.2 (gb7.offT o7 (by decide))
  have xb8 := xb7.kept p7.2 (xb7.offT o7 (by decide))
  have b8 : Below w.heap.size w ((w6.setCell ⟨w4.heap.size, 1, none⟩ vr).setCell ⟨gc, n, none⟩ (.int .i64 (y + 1))) := b7.grown p7.2 b7.size (fun k hk => (World.ownsRow.lt o7 k hk).1)
  obtain ⟨ic0, ic1, ic2⟩ := gb8.c3
  obtain ⟨jc0, jc1, jc2⟩ := xb8.c3
  have jf0 := xb8.frozen 0
  have jf1 := xb8.frozen 1
  have jf2 := xb8.frozen 2
  have hnc : (n : Int) < (cs.length : Int) := by have := HNC.out; omega
  have hy0 := hbd.1
  have hy1 := hbd.2
  obtain ⟨w8, hw8⟩ : ∃ w8, w8 = (w6.setCell ⟨w4.heap.size, 1, none⟩ vr).setCell ⟨gc, n, none⟩ (.int .i64 (y + 1)) := ⟨_, rfl⟩
  have W8 : Hid ((w6.setCell ⟨w4.heap.size, 1, none⟩ vr).setCell ⟨gc, n, none⟩ (.int .i64 (y + 1)) = w8) := hw8.symm
  have xb9 := (xb8.store3 (.slice ap4 m.length cp4) vr (.slice (some ⟨gc, 0, none⟩) cs.length cc4))
  have d9 := ((d8.atBox xb8 (by decide) (by decide) 0 (.slice ap4 m.length cp4)).atBox (xb8.set 0 (.slice ap4 m.length cp4)) (by decide) (by decide) 1 vr).atBox ((xb8.set 0 (.slice ap4 m.length cp4)).set 1 vr) (by decide) (by decide) 2 (.slice (some ⟨gc, 0, none⟩) cs.length cc4)
  have b9 := ((b8.setCell (p := ⟨w.heap.size + 1, 0, none⟩) (by show w.heap.size ≤ w.heap.size + 1; omega) (.slice ap4 m.length cp4)).setCell (p := ⟨w.heap.size + 1, 1, none⟩) (by show w.heap.size ≤ w.heap.size + 1; omega) vr).setCell (p := ⟨w.heap.size + 1, 2, none⟩) (by show w.heap.size ≤ w.heap.size + 1; omega) (.slice (some ⟨gc, 0, none⟩) cs.length cc4)
  have hbp : cs.set n (y + 1) = bump cs (n : Int) := by rw [hy]; simp [bump]
  simp only [List.set_cons_zero, List.set_cons_succ, List.getD_cons_zero, List.getD_cons_succ] at d9
  rw [hbp] at d9
  have D9 := hide (d9.wider (lo' := w.heap.size) (hi' := (((((w6.setCell ⟨w4.heap.size, 1, none⟩ vr).setCell ⟨gc, n, none⟩ (.int .i64 (y + 1))).setCell ⟨w.heap.size + 1, 0, none⟩ (.slice ap4 m.length cp4)).setCell ⟨w.heap.size + 1, 1, none⟩ vr).setCell ⟨w.heap.size + 1, 2, none⟩ (.slice (some ⟨gc, 0, none⟩) cs.length cc4)).heap.size) (Nat.le_refl _) (by simp))
  have X9 := hide xb9
  have B9 := hide b9
  clear d6 d7 d8 d9 gb6 gb7 gb8 xb6 xb7 xb8 xb9 b6 b7 b8 b9 o6 g6 at6 o7 p7 put7 gk xk hbd hw8 W8 hbp n7 hgx hy
  subst hvr
  go_wp2
  exact bodyPost_ret (res_gr2 rfl _ _ (w.heap.size + 1) _ _ _ (0, 0) rfl X9.out) rfl ⟨_, _, _, rfl, ⟨us5, D9.out⟩, B9.out⟩
end Go.Proofs.Ytakhggnbhjoojaa

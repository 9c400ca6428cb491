/-
  A sweep: SweepGraph of the program, call by call. Each contract says what it asks.
-/
import Derived.Test.YtakhggnbhjoojaaSwb
namespace Go.Proofs.Ytakhggnbhjoojaa
open Go.RowKit
set_option linter.unusedVariables false

set_option linter.unusedSimpArgs false in
set_option maxRecDepth 100000 in
set_option maxHeartbeats 6400000 in
theorem sweepGraph_calls (p r c : Value) (m : List Nd) (rs cs : List Int) (ok : Bool) (w : World) (h : RdG w p r c m rs cs) (hok : ok = decide (okG m rs)) :
    Calls Try.prog 44 #[.agg #[p, r, c]] w fun e w' => ∃ p' r' c' y', e = .returned (.tuple #[.agg #[p', r', c'], y', .bool ok]) ∧ TGrY p' r' c' y' (gX ok (swS m rs).1) (gX ok rs) (gX ok (cntG (swS m rs).1 rs)) (gX ok (swS m rs).2) w.heap.size w'.heap.size w' ∧ Below w.heap.size w w' := by
  have R := hide h
  obtain ⟨⟨ap, cp, rfl, h1, h2, h3⟩, ⟨ar, cr, rfl, hr1, hr2, _⟩, ⟨ac, cc, rfl, _⟩⟩ := h
  have A0 := hide (Hand.twoN w #[.slice ap m.length cp, .slice ar rs.length cr, .slice ac cs.length cc] nilG 27 27)
  clear h1 h2 h3 hr1 hr2
  obtain ⟨c0, c1, c2⟩ := (A0.out.atBox 1 rfl).c3
  by_cases hn : m.length ≤ 14 ∧ okNs m
  case neg =>
    obtain rfl : ok = false := by rw [hok]; exact decide_eq_false (fun h => hn h.1)
    have EN : Hid (decide (m.length ≤ 14 ∧ okNs m) = false) := decide_eq_false hn
    clear hok hn
    go_enter Try.func44, Try.ntmps44
    go_wp2_with fail
    refine (areNodes_calls _ m _ (R.out.below A0.out.below).1).mono ?_
    rw [EN.out]
    rintro e w1 ⟨rfl, b1⟩
    have A1 := hide (A0.out.step b1)
    clear b1 c0 c1 c2
    have A8 := hide (A1.out)
    have x := A8.out.atBox 0 rfl
    obtain ⟨z0, z1, z2⟩ := x.c3
    have f0 := x.frozen 0
    have f1 := x.frozen 1
    have f2 := x.frozen 2
    obtain ⟨c0, c1, c2⟩ := (A8.out.atBox 1 rfl).c3
    have A9 := hide (A8.out.store3G 0 rfl nilRow nilRow nilRow)
    clear x A8
    go_wp2
    exact bodyPost_ret (res_gr3 rfl _ _ (w.heap.size + 1) _ _ _ (0, 0) rfl (A9.out.atBox 0 rfl)) rfl ⟨_, _, _, _, rfl, TGrY.nil _ _ _, A9.out.below⟩
  have EN : Hid (decide (m.length ≤ 14 ∧ okNs m) = true) := decide_eq_true hn
  by_cases hr : rs.length ≤ 6 ∧ allH m m.length rs
  case neg =>
    obtain rfl : ok = false := by rw [hok]; exact decide_eq_false (fun h => hr h.2)
    have ER : Hid (decide (rs.length ≤ 6 ∧ allH m m.length rs) = false) := decide_eq_false hr
    clear hok hn hr
    go_enter Try.func44, Try.ntmps44
    go_wp2_with fail
    refine (areNodes_calls _ m _ (R.out.below A0.out.below).1).mono ?_
    rw [EN.out]
    rintro e w1 ⟨rfl, b1⟩
    have A1 := hide (A0.out.step b1)
    clear b1 c0 c1 c2
    obtain ⟨c0, c1, c2⟩ := (A1.out.atBox 1 rfl).c3
    go_wp2_with fail
    refine (areRoots_calls _ _ m rs _ (R.out.below A1.out.below).1 (R.out.below A1.out.below).2.1).mono ?_
    rw [ER.out]
    rintro e w2 ⟨rfl, b2⟩
    have A2 := hide (A1.out.step b2)
    clear b2 c0 c1 c2
    have A8 := hide (A2.out)
    have x := A8.out.atBox 0 rfl
    obtain ⟨z0, z1, z2⟩ := x.c3
    have f0 := x.frozen 0
    have f1 := x.frozen 1
    have f2 := x.frozen 2
    obtain ⟨c0, c1, c2⟩ := (A8.out.atBox 1 rfl).c3
    have A9 := hide (A8.out.store3G 0 rfl nilRow nilRow nilRow)
    clear x A8
    go_wp2
    exact bodyPost_ret (res_gr3 rfl _ _ (w.heap.size + 1) _ _ _ (0, 0) rfl (A9.out.atBox 0 rfl)) rfl ⟨_, _, _, _, rfl, TGrY.nil _ _ _, A9.out.below⟩
  have ER : Hid (decide (rs.length ≤ 6 ∧ allH m m.length rs) = true) := decide_eq_true hr
  have hg : okG m rs := ⟨hn, hr⟩
  obtain rfl : ok = true := by rw [hok]; exact decide_eq_true hg
  have G := hide hg
  have hm14 : m.length ≤ 14 := hg.1.1
  have HR6 : Hid (rs.length ≤ 6) := hr.1
  have SO : Hid (okG (swS m rs).1 rs) := swept_ok hg
  have HT : Hid (m.length + totN m ≤ 1048576) := by have := lsN_tot m (okG_ls hg); show _ ≤ _; omega
  obtain ⟨bs, hbs⟩ : ∃ bs, bs = rchA m rs := ⟨_, rfl⟩
  have hbl : bs.length = m.length := by rw [hbs]; exact rchA_len m rs
  obtain ⟨S, hS⟩ : ∃ S, S = swS m rs := ⟨_, rfl⟩
  have ES : Hid (S = swK m bs m.length) := by show _ = _; rw [hS, hbs]; rfl
  rw [← hS] at SO ⊢
  have EB := hide hbs
  have HBL := hide hbl
  have CT : Hid (ctR S.1 rs = cntG S.1 rs) := if_pos SO.out
  clear hok hg hbs hbl hS hn hr
  go_enter Try.func44, Try.ntmps44
  go_wp2_with fail
  refine (areNodes_calls _ m _ (R.out.below A0.out.below).1).mono ?_
  rw [EN.out]
  rintro e w1 ⟨rfl, b1⟩
  have A1 := hide (A0.out.step b1)
  clear b1 c0 c1 c2
  obtain ⟨c0, c1, c2⟩ := (A1.out.atBox 1 rfl).c3
  go_wp2_with fail
  refine (areRoots_calls _ _ m rs _ (R.out.below A1.out.below).1 (R.out.below A1.out.below).2.1).mono ?_
  rw [ER.out]
  rintro e w2 ⟨rfl, b2⟩
  have A2 := hide (A1.out.step b2)
  clear b2 c0 c1 c2
  obtain ⟨c0, c1, c2⟩ := (A2.out.atBox 1 rfl).c3
  go_wp2_with fail
  refine (eachOf_calls _ m _ (R.out.below A2.out.below).1 HT.out).mono ?_
  rintro e w3 ⟨gp, rfl, d3, b3⟩
  have A3 := A2.out.add b3 (TNds.st _ _) d3
  have b4 := below_box w3 (.cells #[] 3)
  have o4 : Own (w3.alloc (.cells #[] 3)) w3.heap.size (.slice (some ⟨w3.heap.size, 0, none⟩) 0 0) [] := World.ownsRow_lit (base := w3.heap.size) (e := 3) (size := 1) w3 #[] 0 (Nat.le_refl _) (Nat.zero_le _) rfl
  obtain ⟨w4, hw4⟩ : ∃ w4, w4 = w3.alloc (.cells #[] 3) := ⟨_, rfl⟩
  have W4 : Hid (w3.alloc (.cells #[] 3) = w4) := hw4.symm
  rw [← hw4] at b4 o4
  have A4 := A3.step b4
  obtain ⟨lo5, hi5, ⟨us5, d5⟩, hl5, hh5, put5⟩ := A3.open 0 rfl
  have d6 := (((d5.wider (lo' := w.heap.size) (hi' := w3.heap.size) hl5 hh5).below b4).addE (hi2 := w4.heap.size) (Own.mono o4 A3.below.size) b4.size (fun b hb => ⟨row_top o4 b hb, row_low o4 b hb⟩))
  have D4 := hide d6
  have XB4 := hide (A4.atBox 1 rfl)
  have AA4 := hide (A4.atBox 2 rfl)
  have AB4 := hide A4.below
  clear c0 c1 c2 b3 d3 A3 A4 b4 o4 hw4 lo5 hi5 hl5 hh5 put5 d5 d6 A0 A1 A2
  obtain ⟨c0, c1, c2⟩ := AA4.out.c3
  go_upto_region 4 with fail
  rw [W4.out]
  go_wp2_with fail
  refine (reachedFrom_calls _ _ m rs _ (R.out.below AB4.out).1 (R.out.below AB4.out).2.1 (okG_rc G.out)).mono ?_
  rintro e w5 ⟨v5, rfl, z5, b5⟩
  rw [← EB.out] at z5
  obtain ⟨za, zc, hv5⟩ := row_slice z5
  rw [HBL.out] at hv5
  subst hv5
  have Z5 : Hid (OwnZ w5 w.heap.size (.slice za m.length zc) bs) := by
    refine ⟨z5.1, ?_⟩
    rcases z5.2 with hn | ⟨g, cap, cur, e, hb', rest⟩
    · exact .inl hn
    · exact .inr ⟨g, cap, cur, e, Nat.le_trans AB4.out.size hb', rest⟩
  have D5 := hide ((D4.out.below b5).wider (hi' := w5.heap.size) (Nat.le_refl _) b5.size)
  have XB5 := hide (XB4.out.below b5)
  have AA5 := hide (AA4.out.below b5)
  have AB5 := hide (AB4.out.trans (b5.mono AB4.out.size))
  clear z5 b5 D4 XB4 AA4 AB4 c0 c1 c2
  go_wp2
  go_loopw [6, 34] (fun vo vi wr => ∃ (k : Nat) (us : List Value), k ≤ m.length ∧ vi = .int .i64 k ∧ NdV wr w.heap.size wr.heap.size (.slice (some ⟨gp, 0, none⟩) m.length m.length) [vo] us [(swK m bs k).2] (swK m bs k).1 ∧ OwnZ wr w.heap.size (.slice za m.length zc) bs ∧ BoxAt wr w.heap.size #[.slice ap m.length cp, .slice ar rs.length cr, .slice ac cs.length cc] 27 ∧ BoxAt wr (w.heap.size + 1) nilG 27 ∧ Below w.heap.size w wr) (fun _ vi _ => m.length - (intOf vi).toNat)
  case atStart => exact ⟨0, us5, Nat.zero_le _, rfl, D5.out, Z5.out, AA5.out, XB5.out, AB5.out⟩
  case round =>
    obtain ⟨k, us, hk, rfl, hd, hzz, haa, hxb, hab⟩ := hrel
    clear D5 Z5 AA5 XB5 AB5
    obtain ⟨va, vc, hvo⟩ := row_slice (hd.rowE 0 (by simp))
    simp only [List.getD_cons_zero, List.getD_cons_succ] at hvo
    have hgl := swK_gone m bs k
    obtain ⟨LG, hLG⟩ : ∃ L, L = (swK m bs k).2.length := ⟨_, rfl⟩
    rw [← hLG] at hvo hgl
    subst hvo
    clear hLG
    have D := hide hd
    have Z := hide hzz
    have AA := hide haa
    have XB := hide hxb
    have AB := hide hab
    clear hd hzz haa hxb hab
    by_cases hlt : k < m.length
    · have hlt' : (k : Int) < (m.length : Int) := by omega
      obtain ⟨zb, zo, rfl, hc⟩ := (OwnZ.rd Z.out).cellAt k (by rw [HBL.out]; exact hlt)
      have hnow := swK_now m bs k hlt
      have hsl := swK_len m bs k
      obtain ⟨y, hy⟩ : ∃ y, y = bs.getD k false := ⟨_, rfl⟩
      rw [← hy] at hc
      have HYB := hide hy
      have HSL := hide hsl
      have hkl : k < (swK m bs k).1.length := by omega
      obtain ⟨f3, f4, f5, f6⟩ := D.out.cells k hkl
      rw [hnow] at f4
      obtain ⟨z, hz⟩ : ∃ z, z = (m.getD k nd0).2 := ⟨_, rfl⟩
      rw [← hz] at f4
      have HZ := hide hz
      obtain ⟨ua, uc, hu⟩ := row_slice (D.out.row k hkl)
      obtain ⟨LH, hLH⟩ : ∃ L, L = ((swK m bs k).1.getD k nd0).1.length := ⟨_, rfl⟩
      rw [← hLH] at hu
      rw [hu] at f3
      have HKL := hide hkl
      clear hy hz hsl hnow hu hLH hkl
      cases y with
      | true =>
        have ST : Hid (swK m bs (k + 1) = swK m bs k) := swK_stay m bs k (fun h => by have := HYB.out.trans h.1; cases this)
        go_wp2
        go_round
        case rel => exact ⟨k + 1, us, by omega, by go_num, by rw [ST.out]; exact D.out, Z.out, AA.out, XB.out, AB.out⟩
        case measure => simp [intOf]; omega
      | false =>
        cases z with
        | true =>
          have ST : Hid (swK m bs (k + 1) = swK m bs k) := swK_stay m bs k (fun h => by have := HZ.out.trans h.2; cases this)
          go_wp2
          go_round
          case rel => exact ⟨k + 1, us, by omega, by go_num, by rw [ST.out]; exact D.out, Z.out, AA.out, XB.out, AB.out⟩
          case measure => simp [intOf]; omega
        | false =>
          have ST : Hid (swK m bs (k + 1) = ((swK m bs k).1.set k ([], true), (swK m bs k).2 ++ [(k : Int)])) := swK_go m bs k ⟨HYB.out.symm, HZ.out.symm⟩
          have d8 := (D.out.detach k HKL.out).dropE (by simp)
          have ho2 := D.out.head
          rw [HSL.out] at ho2
          have st := World.ownsRow.stored ho2 (k * 2) nilRow
          have st2 := World.ownsRow.stored st.1 (k * 2 + 1) (.bool true)
          have kp : ∀ {g : Nat} {cs : Array Value} {T : TypeId}, BoxAt wr g cs T → 84 ≠ T → BoxAt ((wr.setCell ⟨gp, k * 2, none⟩ nilRow).setCell ⟨gp, k * 2 + 1, none⟩ (.bool true)) g cs T := fun hx hne => (hx.kept st.2 (hx.offRowN ho2 hne)).kept st2.2 ((hx.kept st.2 (hx.offRowN ho2 hne)).offRowN st.1 hne)
          have hgl2 : w.heap.size ≤ gp := (World.ownsRow.lt ho2 gp rfl).1
          have z8a := World.ownsRow.kept Z.out st.2 (types_apart Z.out ho2 (by decide))
          have z8 := World.ownsRow.kept z8a st2.2 (types_apart z8a st.1 (by decide))
          have aa8 := kp AA.out (by decide)
          have xb8 := kp XB.out (by decide)
          have ab8 := (AB.out.setCell (p := ⟨gp, k * 2, none⟩) (by exact hgl2) nilRow).setCell (p := ⟨gp, k * 2 + 1, none⟩) (by exact hgl2) (.bool true)
          obtain ⟨w8, hw8⟩ : ∃ w8, w8 = (wr.setCell ⟨gp, k * 2, none⟩ nilRow).setCell ⟨gp, k * 2 + 1, none⟩ (.bool true) := ⟨_, rfl⟩
          have W8 : Hid ((wr.setCell ⟨gp, k * 2, none⟩ nilRow).setCell ⟨gp, k * 2 + 1, none⟩ (.bool true) = w8) := hw8.symm
          have s8 : w8.heap.size = wr.heap.size := by rw [hw8]; simp
          rw [← hw8] at d8 aa8 xb8 ab8 z8
          have b9 := below_box w8 (.cells #[.int .i64 (k : Int)] 3)
          have RX0 : Rd (w8.alloc (.cells #[.int .i64 (k : Int)] 3)) (.slice (some ⟨w8.heap.size, 0, none⟩) 1 1) [(k : Int)] := rd_singleR
          obtain ⟨w9, hw9⟩ : ∃ w9, w9 = w8.alloc (.cells #[.int .i64 (k : Int)] 3) := ⟨_, rfl⟩
          have W9 : Hid (w8.alloc (.cells #[.int .i64 (k : Int)] 3) = w9) := hw9.symm
          have S9 : Hid (w9.heap.size = w8.heap.size + 1) := by show _ = _; rw [hw9, World.size_alloc]
          rw [← hw9] at b9 RX0
          rw [s8] at RX0
          have RX := hide RX0
          have S8 := hide s8
          have D9 := hide ((d8.below b9).wider (hi' := w9.heap.size) (Nat.le_refl _) (by have := b9.size; omega))
          have Z9 := hide (ownsRow_below z8 b9)
          have AA9 := hide (aa8.below b9)
          have XB9 := hide (xb8.below b9)
          have AB9 := hide (ab8.trans (b9.mono ab8.size))
          clear d8 ho2 st st2 kp hgl2 aa8 xb8 ab8 z8 z8a hw8 hw9 b9 RX0 s8 D AA XB AB Z
          go_wp2_with (at_builtin; refine wpList_app_int rfl _ _ rfl w.heap.size (.slice va LG vc) rfl (swK m bs k).2 (by rw [W8.out, W9.out]; exact D9.out.rowE 0 (by simp)) (.slice (some ⟨wr.heap.size, 0, none⟩) 1 1) rfl [(k : Int)] (by rw [W8.out, W9.out]; exact RX.out) (by have := swK_gone m bs k; simp only [List.length_singleton]; omega) (by rw [W8.out, W9.out]; exact AB9.out.size) ?_)
          rw [W8.out, W9.out]
          intro v10 w10 o10 g10 at10
          have oy := D9.out.rowE 0 (by simp)
          have d10 := D9.out.appE 0 (by simp) o10 g10 (by first | (rw [S9.out]; exact at10) | (rw [S9.out, S8.out]; exact at10) | exact at10) (Nat.le_refl _)
          simp only [List.set_cons_zero, List.set_cons_succ] at d10
          have D10 := hide d10
          have Z10 := hide (World.ownsRow.kept Z9.out g10 (types_apart Z9.out oy (by decide)))
          have AA10 := hide (AA9.out.kept g10 (AA9.out.offT oy (by decide)))
          have XB10 := hide (XB9.out.kept g10 (XB9.out.offT oy (by decide)))
          have AB10 := hide (AB9.out.grown g10 AB9.out.size (fun k hk => (World.ownsRow.lt oy k hk).1))
          clear oy o10 g10 at10 d10 D9 Z9 AA9 XB9 AB9
          go_wp2
          go_round
          case rel => exact ⟨k + 1, _, by omega, by go_num, by rw [ST.out]; exact D10.out, Z10.out, AA10.out, XB10.out, AB10.out⟩
          case measure => simp [intOf]; omega
    · obtain rfl : k = m.length := by omega
      have hd := D.out
      rw [← ES.out] at hd
      have D2 := hide hd
      obtain ⟨g0, g1, g2⟩ := AA.out.c3
      clear hd D
      go_wp2_with fail
      refine (countsOf_calls _ _ S.1 rs _ D2.out.rd (R.out.below AB.out).2.1).mono ?_
      rw [CT.out]
      rintro e w11 ⟨c11, rfl, o11, b11⟩
      obtain ⟨a11, k11, hv11⟩ := row_slice o11
      obtain ⟨LC, hLC⟩ : ∃ L, L = (cntG S.1 rs).length := ⟨_, rfl⟩
      rw [← hLC] at hv11
      subst hv11
      clear hLC g0 g1 g2
      have D11 := hide (((D2.out.below b11).addE (hi2 := w11.heap.size) (Own.mono o11 AB.out.size) b11.size (fun b hb => ⟨row_top o11 b hb, row_low o11 b hb⟩)))
      have AA11 := hide (AA.out.below b11)
      have XB11 := hide (XB.out.below b11)
      have AB11 := hide (AB.out.trans (b11.mono AB.out.size))
      clear o11 b11 D2 AA XB AB Z
      obtain ⟨g0, g1, g2⟩ := AA11.out.c3
      go_wp2_with fail
      refine (copyInts_calls _ rs _ (R.out.below AB11.out).2.1 (by have := HR6.out; omega)).mono ?_
      rintro e w12 ⟨r12, rfl, o12, b12⟩
      obtain ⟨a12, k12, hv12⟩ := row_slice o12
      obtain ⟨LR, hLR⟩ : ∃ L, L = rs.length := ⟨_, rfl⟩
      rw [← hLR] at hv12
      subst hv12
      clear g0 g1 g2
      have d12 := (((D11.out.below b12).addE (hi2 := w12.heap.size) (Own.mono o12 AB11.out.size) b12.size (fun b hb => ⟨row_top o12 b hb, row_low o12 b hb⟩)))
      have xb12 := XB11.out.below b12
      have ab12 := AB11.out.trans (b12.mono AB11.out.size)
      obtain ⟨jc0, jc1, jc2⟩ := xb12.c3
      have jf0 := xb12.frozen 0
      have jf1 := xb12.frozen 1
      have jf2 := xb12.frozen 2
      have xb13 := xb12.store3 (.slice (some ⟨gp, 0, none⟩) m.length m.length) (.slice a12 LR k12) (.slice a11 LC k11)
      have d13 := ((d12.atBox xb12 (by decide) (by decide) 0 (.slice (some ⟨gp, 0, none⟩) m.length m.length)).atBox (xb12.set 0 (.slice (some ⟨gp, 0, none⟩) m.length m.length)) (by decide) (by decide) 1 (.slice a12 LR k12)).atBox ((xb12.set 0 (.slice (some ⟨gp, 0, none⟩) m.length m.length)).set 1 (.slice a12 LR k12)) (by decide) (by decide) 2 (.slice a11 LC k11)
      have b13 := ((ab12.setCell (p := ⟨w.heap.size + 1, 0, none⟩) (by show w.heap.size ≤ w.heap.size + 1; omega) (.slice (some ⟨gp, 0, none⟩) m.length m.length)).setCell (p := ⟨w.heap.size + 1, 1, none⟩) (by show w.heap.size ≤ w.heap.size + 1; omega) (.slice a12 LR k12)).setCell (p := ⟨w.heap.size + 1, 2, none⟩) (by show w.heap.size ≤ w.heap.size + 1; omega) (.slice a11 LC k11)
      have D14 := hide (d13.wider (lo' := w.heap.size) (hi' := (((w12.setCell ⟨w.heap.size + 1, 0, none⟩ (.slice (some ⟨gp, 0, none⟩) m.length m.length)).setCell ⟨w.heap.size + 1, 1, none⟩ (.slice a12 LR k12)).setCell ⟨w.heap.size + 1, 2, none⟩ (.slice a11 LC k11)).heap.size) (Nat.le_refl _) (by simp))
      have X13 := hide xb13
      have B13 := hide b13
      clear o12 b12 d12 xb12 ab12 xb13 d13 b13 D11 AA11 XB11 AB11 hLR
      go_wp2
      exact bodyPost_ret (res_gr3 rfl _ _ (w.heap.size + 1) _ _ _ (0, 0) rfl X13.out) rfl ⟨_, _, _, _, rfl, ⟨_, by simp only [gX_true]; exact D14.out⟩, B13.out⟩
end Go.Proofs.Ytakhggnbhjoojaa

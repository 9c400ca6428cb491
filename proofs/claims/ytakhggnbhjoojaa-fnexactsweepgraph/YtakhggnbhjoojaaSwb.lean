/-
  A sweep: SweepGraph of the model, call by call. Each contract says what it asks.
-/
import Derived.Test.YtakhggnbhjoojaaSwa
import Derived.Test.YtakhggnbhjoojaaRcf
namespace Go.Proofs.Ytakhggnbhjoojaa
open Go.RowKit
set_option linter.unusedVariables false

/-- The nodes that a sweep leaves, and which have gone. -/
def swS (m : List Nd) (rs : List Int) : List Nd × List Int := swK m (rchA m rs) m.length
theorem okG_rc {m : List Nd} {rs : List Int} (h : okG m rs) : RcOk m rs := ⟨h.1.1, h.2.1, fun i hi => ⟨(h.2.2 i hi).1, (h.2.2 i hi).2.1⟩, okG_ls h⟩
/-- What stands behind one node more. -/
theorem swK_go (m : List Nd) (bs : List Bool) (k : Nat) (h : swG m bs k) : swK m bs (k + 1) = ((swK m bs k).1.set k ([], true), (swK m bs k).2 ++ [(k : Int)]) := by simp only [swK]; rw [if_pos h]
theorem swK_stay (m : List Nd) (bs : List Bool) (k : Nat) (h : ¬ swG m bs k) : swK m bs (k + 1) = swK m bs k := by simp only [swK]; rw [if_neg h]
theorem swK_now (m : List Nd) (bs : List Bool) (k : Nat) (h : k < m.length) : (swK m bs k).1.getD k nd0 = m.getD k nd0 := by
  rw [swK_at m bs k (by omega) k, if_neg (fun h => by omega)]

set_option linter.unusedSimpArgs false in
set_option maxRecDepth 100000 in
set_option maxHeartbeats 6400000 in
theorem sSweepGraph_calls (p r c : Value) (m : List Nd) (rs cs : List Int) (ok : Bool) (w : World) (h : RdG w p r c m rs cs) (hz : SzG m rs cs) (hok : ok = decide (okG m rs)) :
    Calls Try.prog 43 #[.agg #[p, r, c]] w fun e w' => ∃ p' r' c' y', e = .returned (.tuple #[.agg #[p', r', c'], y', .bool ok]) ∧ TGrY p' r' c' y' (gX ok (swS m rs).1) (gX ok rs) (gX ok (cntG (swS m rs).1 rs)) (gX ok (swS m rs).2) w.heap.size w'.heap.size w' ∧ Below w.heap.size w w' := by
  have R := hide h
  have SZ := hide hz
  obtain ⟨⟨ap, cp, rfl, h1, h2, h3⟩, ⟨ar, cr, rfl, hr1, hr2, _⟩, ⟨ac, cc, rfl, _⟩⟩ := h
  have A0 := hide (Hand.twoN w #[.slice ap m.length cp, .slice ar rs.length cr, .slice ac cs.length cc] nilG 27 27)
  clear h1 h2 h3 hr1 hr2 hz
  obtain ⟨c0, c1, c2⟩ := (A0.out.atBox 1 rfl).c3
  by_cases hg : okG m rs
  case neg =>
    obtain rfl : ok = false := by rw [hok]; exact decide_eq_false hg
    have E : Hid (decide (okG m rs) = false) := decide_eq_false hg
    clear hok hg
    go_enter Try.func43, Try.ntmps43
    go_wp2_with fail
    refine (l10Nodes_calls _ _ m rs _ (R.out.below A0.out.below).1 (R.out.below A0.out.below).2.1).mono ?_
    rw [E.out]
    rintro e w1 ⟨rfl, b1⟩
    have A1 := hide (A0.out.step b1)
    clear b1 c0 c1 c2
    have A8 := hide (A1.out)
    have x := A8.out.atBox 0 rfl
    obtain ⟨z0, z1, z2⟩ := x.c3
    have f0 := x.frozen 0
    have f1 := x.frozen 1
    have f2 := x.frozen 2
    obtain ⟨c0, c1, c2⟩ := (A8.out.atBox 1 rfl).c3
    have A9 := hide (A8.out.store3G 0 rfl nilRow nilRow nilRow)
    clear x A8
    go_wp2
    exact bodyPost_ret (res_gr3 rfl _ _ (w.heap.size + 1) _ _ _ (0, 0) rfl (A9.out.atBox 0 rfl)) rfl ⟨_, _, _, _, rfl, TGrY.nil _ _ _, A9.out.below⟩
  have E : Hid (decide (okG m rs) = true) := decide_eq_true hg
  obtain rfl : ok = true := by rw [hok]; exact decide_eq_true hg
  have G := hide hg
  have hm14 : m.length ≤ 14 := hg.1.1
  have SO : Hid (okG (swS m rs).1 rs) := swept_ok hg
  obtain ⟨bs, hbs⟩ : ∃ bs, bs = rchA m rs := ⟨_, rfl⟩
  have hbl : bs.length = m.length := by rw [hbs]; exact rchA_len m rs
  obtain ⟨S, hS⟩ : ∃ S, S = swS m rs := ⟨_, rfl⟩
  have ES : Hid (S = swK m bs m.length) := by show _ = _; rw [hS, hbs]; rfl
  rw [← hS] at SO ⊢
  have EB := hide hbs
  have HBL := hide hbl
  clear hok hg hbs hbl hS
  go_enter Try.func43, Try.ntmps43
  go_wp2_with fail
  refine (l10Nodes_calls _ _ m rs _ (R.out.below A0.out.below).1 (R.out.below A0.out.below).2.1).mono ?_
  rw [E.out]
  rintro e w1 ⟨rfl, b1⟩
  have A1 := hide (A0.out.step b1)
  clear b1 c0 c1 c2
  obtain ⟨c0, c1, c2⟩ := (A1.out.atBox 1 rfl).c3
  go_wp2_with fail
  refine (l10Own_calls _ _ _ m rs cs _ (R.out.below A1.out.below) SZ.out).mono ?_
  rintro e w4 ⟨p4, r4, c4, rfl, d4, b4⟩
  obtain ⟨ap4, cp4, ar4, cr4, ac4, cc4, rfl, rfl, rfl⟩ := d4.sls
  have hgx : w.heap.size + 1 < w4.heap.size := Nat.lt_of_lt_of_le (A1.out.atBox 0 rfl).lt b4.size
  have A5 := (A1.out.add b4 (TGrf.st _ _ _ _ _ _) d4).box #[.slice ap4 m.length cp4, .slice ar4 rs.length cr4, .slice ac4 cs.length cc4] 27
  obtain ⟨lo5, hi5, ⟨us5, d5⟩, hl5, hh5, put5⟩ := A5.open 1 rfl
  have d5' := d5.wider (lo' := w.heap.size) (hi' := (w4.alloc (.cells #[.slice ap4 m.length cp4, .slice ar4 rs.length cr4, .slice ac4 cs.length cc4] 27)).heap.size) hl5 hh5
  have gb := A5.atBox 0 rfl
  have xb := A5.atBox 2 rfl
  have aa := A5.atBox 3 rfl
  have ab := A5.below
  obtain ⟨w5, hw5⟩ : ∃ w5, w5 = w4.alloc (.cells #[.slice ap4 m.length cp4, .slice ar4 rs.length cr4, .slice ac4 cs.length cc4] 27) := ⟨_, rfl⟩
  have W5 : Hid (w4.alloc (.cells #[.slice ap4 m.length cp4, .slice ar4 rs.length cr4, .slice ac4 cs.length cc4] 27) = w5) := hw5.symm
  rw [← hw5] at d5' gb xb aa ab
  have D5 := hide d5'
  have GB5 := hide gb
  have XB5 := hide xb
  have AA5 := hide aa
  have AB5 := hide ab
  have HGX := hide hgx
  clear b4 d4 A0 A1 A5 d5 d5' gb xb aa ab hw5 put5 lo5 hi5 hl5 hh5 hgx c0 c1 c2
  obtain ⟨c0, c1, c2⟩ := AA5.out.c3
  go_upto_region 4 with fail
  rw [W5.out]
  go_wp2_with fail
  refine (l10Reached_calls _ _ m rs _ (R.out.below AB5.out).1 (R.out.below AB5.out).2.1 (okG_rc G.out)).mono ?_
  rintro e w6 ⟨v6, rfl, o6, b6⟩
  rw [← EB.out] at o6
  obtain ⟨a6, k6, hv6⟩ := row_slice o6
  obtain ⟨L6, hL6⟩ : ∃ L, L = (selF 0 bs).length := ⟨_, rfl⟩
  rw [← hL6] at hv6
  subst hv6
  clear hL6
  have d6 := (D5.out.below b6).addLast (u := nilRow) (r := []) (hi2 := w5.heap.size) (World.ownsRow_nil _ _ _ _) (Nat.le_refl _) (fun b hb => by simp [Value.ownBlock] at hb)
  have D6 := hide (d6.addLast (hi2 := w6.heap.size) (Own.mono o6 AB5.out.size) b6.size (fun b hb => ⟨row_top o6 b hb, row_low o6 b hb⟩))
  have GB6 := hide (GB5.out.below b6)
  have XB6 := hide (XB5.out.below b6)
  have AB6 := hide (AB5.out.trans (b6.mono AB5.out.size))
  clear o6 b6 d6 D5 GB5 XB5 AA5 AB5 c0 c1 c2 R
  obtain ⟨c0, c1, c2⟩ := GB6.out.c3
  go_wp2
  go_loopw [7, 27] (fun vo vi wr => ∃ (k : Nat) (us : List Value), k ≤ m.length ∧ vi = .int .i64 k ∧ NdV wr w.heap.size wr.heap.size (.slice ap4 m.length cp4) [.slice ar4 rs.length cr4, .slice ac4 cs.length cc4, vo, .slice a6 L6 k6] us [rs, cs, (swK m bs k).2, selF 0 bs] (swK m bs k).1 ∧ BoxAt wr w4.heap.size #[.slice ap4 m.length cp4, .slice ar4 rs.length cr4, .slice ac4 cs.length cc4] 27 ∧ BoxAt wr (w.heap.size + 1) nilG 27 ∧ Below w.heap.size w wr) (fun _ vi _ => m.length - (intOf vi).toNat)
  case atStart => exact ⟨0, us5, Nat.zero_le _, rfl, D6.out, GB6.out, XB6.out, AB6.out⟩
  case round =>
    obtain ⟨k, us, hk, rfl, hd, hgb, hxb, hab⟩ := hrel
    clear D6 GB6 XB6 AB6 c0 c1 c2
    obtain ⟨va, vc, hvo⟩ := row_slice (hd.rowE 2 (by simp))
    simp only [List.getD_cons_zero, List.getD_cons_succ] at hvo
    have hgl := swK_gone m bs k
    obtain ⟨LG, hLG⟩ : ∃ L, L = (swK m bs k).2.length := ⟨_, rfl⟩
    rw [← hLG] at hvo hgl
    subst hvo
    by_cases hlt : k < m.length
    · have hlt' : (k : Int) < (m.length : Int) := by omega
      have hnow := swK_now m bs k hlt
      have hsl := swK_len m bs k
      obtain ⟨gp, kp, hp, _⟩ := hd.form (by omega)
      simp only [Value.slice.injEq] at hp
      obtain ⟨rfl, hq, rfl⟩ := hp
      clear hq
      obtain ⟨e1, e2, e3, e4⟩ := hd.cells k (by omega)
      rw [hnow] at e2
      obtain ⟨ua, uc, hu⟩ := row_slice (hd.row k (by omega))
      obtain ⟨LH, hLH⟩ : ∃ L, L = ((swK m bs k).1.getD k nd0).1.length := ⟨_, rfl⟩
      rw [← hLH] at hu
      rw [hu] at e1
      have HU := hide hu
      obtain ⟨z, hz⟩ : ∃ z, z = (m.getD k nd0).2 := ⟨_, rfl⟩
      rw [← hz] at e2
      have b1 := below_box wr (.cells #[.slice ua LH uc, .bool z] 84)
      have x1 := BoxAt.new wr #[.slice ua LH uc, .bool z] 84
      obtain ⟨w7, hw7⟩ : ∃ w7, w7 = wr.alloc (.cells #[.slice ua LH uc, .bool z] 84) := ⟨_, rfl⟩
      rw [← hw7] at b1 x1
      have W7 : Hid (wr.alloc (.cells #[.slice ua LH uc, .bool z] 84) = w7) := hw7.symm
      have D7 := hide ((hd.below b1).wider (hi' := w7.heap.size) (Nat.le_refl _) b1.size)
      have GB7 := hide (hgb.below b1)
      have XB7 := hide (hxb.below b1)
      have AB7 := hide (hab.trans (b1.mono hab.size))
      have f1 := x1.cell 1
      have f1' : w7.cell? ⟨wr.heap.size, 1, none⟩ = some (.bool z) := f1
      have HZ := hide hz
      have HSL := hide hsl
      clear hd hgb hxb hab hw7 b1 x1 f1 hz hu hLH hLG e3 e4 hsl
      cases z with
      | true =>
        have ST : Hid (swK m bs (k + 1) = swK m bs k) := swK_stay m bs k (fun h => by have := HZ.out.trans h.2; cases this)
        go_wp2
        rw [W7.out]
        go_round
        case rel => exact ⟨k + 1, _, by omega, by go_num, by rw [ST.out]; exact D7.out, GB7.out, XB7.out, AB7.out⟩
        case measure => simp [intOf]; omega
      | false =>
        obtain ⟨y, hy⟩ : ∃ y, y = bs.getD k false := ⟨_, rfl⟩
        have HY : Hid (y = true ↔ (k : Int) ∈ selF 0 bs) := by
          have := selF_mem bs 0 k
          rw [Nat.zero_add] at this
          show _ ↔ _
          rw [hy, this]
        have HYB := hide hy
        clear hy
        go_wp2_with fail
        rw [W7.out]
        refine (l1HasE_calls _ (selF 0 bs) (k : Int) y _ (Own.rd (D7.out.rowE 3 (by simp))) HY.out).mono ?_
        rintro e w8 ⟨rfl, rfl⟩
        cases y with
        | true =>
          have ST : Hid (swK m bs (k + 1) = swK m bs k) := swK_stay m bs k (fun h => by have := HYB.out.trans h.1; cases this)
          go_wp2
          go_roundw
          case rel => exact ⟨k + 1, us, by omega, by go_num, by rw [ST.out]; exact D7.out, GB7.out, XB7.out, AB7.out⟩
          case measure => simp [intOf]; omega
        | false =>
          have ST : Hid (swK m bs (k + 1) = ((swK m bs k).1.set k ([], true), (swK m bs k).2 ++ [(k : Int)])) := swK_go m bs k ⟨HYB.out.symm, HZ.out.symm⟩
          have hkl : k < (swK m bs k).1.length := by have := HSL.out; omega
          obtain ⟨f3, f4, f5, f6⟩ := D7.out.cells k hkl
          rw [HU.out] at f3
          have d8 := (D7.out.detach k hkl).dropE (by simp)
          have ho2 := D7.out.head
          rw [HSL.out] at ho2
          have st := World.ownsRow.stored ho2 (k * 2) nilRow
          have st2 := World.ownsRow.stored st.1 (k * 2 + 1) (.bool true)
          have kp : ∀ {g : Nat} {cs : Array Value} {T : TypeId}, BoxAt w7 g cs T → 84 ≠ T → BoxAt ((w7.setCell ⟨gp, k * 2, none⟩ nilRow).setCell ⟨gp, k * 2 + 1, none⟩ (.bool true)) g cs T := fun hx hne => (hx.kept st.2 (hx.offRowN ho2 hne)).kept st2.2 ((hx.kept st.2 (hx.offRowN ho2 hne)).offRowN st.1 hne)
          have hgl2 : w.heap.size ≤ gp := (World.ownsRow.lt ho2 gp rfl).1
          obtain ⟨gx0, gx1, gx2⟩ := GB7.out.c3
          have gb8 := kp GB7.out (by decide)
          have xb8 := kp XB7.out (by decide)
          have ab8 := (AB7.out.setCell (p := ⟨gp, k * 2, none⟩) (by exact hgl2) nilRow).setCell (p := ⟨gp, k * 2 + 1, none⟩) (by exact hgl2) (.bool true)
          obtain ⟨w8, hw8⟩ : ∃ w8, w8 = (w7.setCell ⟨gp, k * 2, none⟩ nilRow).setCell ⟨gp, k * 2 + 1, none⟩ (.bool true) := ⟨_, rfl⟩
          have W8 : Hid ((w7.setCell ⟨gp, k * 2, none⟩ nilRow).setCell ⟨gp, k * 2 + 1, none⟩ (.bool true) = w8) := hw8.symm
          have s8 : w8.heap.size = w7.heap.size := by rw [hw8]; simp
          rw [← hw8] at d8 gb8 xb8 ab8
          have b9 := below_box w8 (.cells #[.int .i64 (k : Int)] 3)
          have RX0 : Rd (w8.alloc (.cells #[.int .i64 (k : Int)] 3)) (.slice (some ⟨w8.heap.size, 0, none⟩) 1 1) [(k : Int)] := rd_singleR
          obtain ⟨w9, hw9⟩ : ∃ w9, w9 = w8.alloc (.cells #[.int .i64 (k : Int)] 3) := ⟨_, rfl⟩
          have W9 : Hid (w8.alloc (.cells #[.int .i64 (k : Int)] 3) = w9) := hw9.symm
          have S9 : Hid (w9.heap.size = w8.heap.size + 1) := by show _ = _; rw [hw9, World.size_alloc]
          rw [← hw9] at b9 RX0
          rw [s8] at RX0
          have RX := hide RX0
          have S8 := hide s8
          have D9 := hide ((d8.below b9).wider (hi' := w9.heap.size) (Nat.le_refl _) (by have := b9.size; omega))
          have GB9 := hide (gb8.below b9)
          have XB9 := hide (xb8.below b9)
          have AB9 := hide (ab8.trans (b9.mono ab8.size))
          clear d8 ho2 st st2 kp hgl2 gb8 xb8 ab8 hw8 hw9 b9 RX0 s8 D7 GB7 XB7 AB7 e1 e2 f1'
          go_wp2_with (at_builtin; refine wpList_app_int rfl _ _ rfl w.heap.size (.slice va LG vc) rfl (swK m bs k).2 (by rw [W8.out, W9.out]; exact D9.out.rowE 2 (by simp)) (.slice (some ⟨w7.heap.size, 0, none⟩) 1 1) rfl [(k : Int)] (by rw [W8.out, W9.out]; exact RX.out) (by have := swK_gone m bs k; simp only [List.length_singleton]; omega) (by rw [W8.out, W9.out]; exact AB9.out.size) ?_)
          rw [W8.out, W9.out]
          intro v10 w10 o10 g10 at10
          have oy := D9.out.rowE 2 (by simp)
          have d10 := D9.out.appE 2 (by simp) o10 g10 (by first | (rw [S9.out]; exact at10) | (rw [S9.out, S8.out]; exact at10) | exact at10) (Nat.le_refl _)
          simp only [List.set_cons_zero, List.set_cons_succ] at d10
          have D10 := hide d10
          have GB10 := hide (GB9.out.kept g10 (GB9.out.offT oy (by decide)))
          have XB10 := hide (XB9.out.kept g10 (XB9.out.offT oy (by decide)))
          have AB10 := hide (AB9.out.grown g10 AB9.out.size (fun k hk => (World.ownsRow.lt oy k hk).1))
          clear oy o10 g10 at10 d10 D9 GB9 XB9 AB9
          go_wp2
          go_roundw
          case rel => exact ⟨k + 1, _, by omega, by go_num, by rw [ST.out]; exact D10.out, GB10.out, XB10.out, AB10.out⟩
          case measure => simp [intOf]; omega
    · obtain rfl : k = m.length := by omega
      rw [← ES.out] at hd
      have SO2 := SO.out
      obtain ⟨g0, g1, g2⟩ := hgb.c3
      have D := hide hd
      have GB := hide hgb
      have XB := hide hxb
      have AB := hide hab
      clear hd hgb hxb hab hLG
      go_wp2_with fail
      refine (l10Counts_calls _ _ S.1 rs _ D.out.rd (Own.rd (D.out.rowE 0 (by simp))) SO2).mono ?_
      rintro e w11 ⟨c11, rfl, o11, b11⟩
      obtain ⟨a11, k11, hv11⟩ := row_slice o11
      obtain ⟨LC, hLC⟩ : ∃ L, L = (cntG S.1 rs).length := ⟨_, rfl⟩
      rw [← hLC] at hv11
      subst hv11
      clear hLC g0 g1 g2
      have d11 := ((D.out.below b11).putE 1 (by simp) (Own.mono o11 AB.out.size) b11.size (fun b hb => ⟨row_top o11 b hb, .inl (row_low o11 b hb)⟩) : NdV w11 w.heap.size w11.heap.size _ _ _ _ _)
      simp only [List.set_cons_zero, List.set_cons_succ] at d11
      have gb11 := GB.out.below b11
      have xb11 := XB.out.below b11
      have ab11 := AB.out.trans (b11.mono AB.out.size)
      have hc := gb11.cell 2
      have hf := gb11.frozen 2
      have d12 := d11.atBox gb11 (by decide) (by decide) 2 (.slice a11 LC k11)
      have gb12 : BoxAt (w11.setCell ⟨w4.heap.size, 2, none⟩ (.slice a11 LC k11)) w4.heap.size #[.slice ap4 m.length cp4, .slice ar4 rs.length cr4, .slice a11 LC k11] 27 := by simpa using gb11.set 2 (.slice a11 LC k11)
      have xb12 := xb11.other (g' := w4.heap.size) (j := 2) (x := .slice a11 LC k11) (by have := HGX.out; omega)
      have ab12 : Below w.heap.size w (w11.setCell ⟨w4.heap.size, 2, none⟩ (.slice a11 LC k11)) := ab11.setCell (by show w.heap.size ≤ w4.heap.size; have := HGX.out; omega) _
      have hc' : w11.cell? ⟨w4.heap.size, 2, none⟩ = some (.slice ac4 cs.length cc4) := hc
      obtain ⟨w12, hw12⟩ : ∃ w12, w12 = w11.setCell ⟨w4.heap.size, 2, none⟩ (.slice a11 LC k11) := ⟨_, rfl⟩
      have W12 : Hid (w11.setCell ⟨w4.heap.size, 2, none⟩ (.slice a11 LC k11) = w12) := hw12.symm
      have s12 : w12.heap.size = w11.heap.size := by rw [hw12]; simp
      rw [← hw12] at d12 gb12 xb12 ab12
      obtain ⟨jc0, jc1, jc2⟩ := xb12.c3
      have jf0 := xb12.frozen 0
      have jf1 := xb12.frozen 1
      have jf2 := xb12.frozen 2
      obtain ⟨g0, g1, g2⟩ := gb12.c3
      have xb13 := xb12.store3 (.slice ap4 m.length cp4) (.slice ar4 rs.length cr4) (.slice a11 LC k11)
      have d13 := ((d12.atBox xb12 (by decide) (by decide) 0 (.slice ap4 m.length cp4)).atBox (xb12.set 0 (.slice ap4 m.length cp4)) (by decide) (by decide) 1 (.slice ar4 rs.length cr4)).atBox ((xb12.set 0 (.slice ap4 m.length cp4)).set 1 (.slice ar4 rs.length cr4)) (by decide) (by decide) 2 (.slice a11 LC k11)
      have b13 := ((ab12.setCell (p := ⟨w.heap.size + 1, 0, none⟩) (by show w.heap.size ≤ w.heap.size + 1; omega) (.slice ap4 m.length cp4)).setCell (p := ⟨w.heap.size + 1, 1, none⟩) (by show w.heap.size ≤ w.heap.size + 1; omega) (.slice ar4 rs.length cr4)).setCell (p := ⟨w.heap.size + 1, 2, none⟩) (by show w.heap.size ≤ w.heap.size + 1; omega) (.slice a11 LC k11)
      have d14 := NdV.dropE (es := [.slice ar4 rs.length cr4, .slice a11 LC k11, .slice va LG vc]) (qs := [rs, cntG S.1 rs, S.2]) d13 rfl
      have D14 := hide (d14.wider (lo' := w.heap.size) (hi' := (((w12.setCell ⟨w.heap.size + 1, 0, none⟩ (.slice ap4 m.length cp4)).setCell ⟨w.heap.size + 1, 1, none⟩ (.slice ar4 rs.length cr4)).setCell ⟨w.heap.size + 1, 2, none⟩ (.slice a11 LC k11)).heap.size) (Nat.le_refl _) (by simp; omega))
      have X13 := hide xb13
      have B13 := hide b13
      clear o11 b11 d11 gb11 xb11 ab11 hc d12 gb12 xb12 ab12 hw12 s12 xb13 d13 b13 d14 D GB XB AB
      go_upto_region 14 with fail
      rw [W12.out]
      clear hc' hf
      go_wp2
      exact bodyPost_ret (res_gr3 rfl _ _ (w.heap.size + 1) _ _ _ (0, 0) rfl X13.out) rfl ⟨_, _, _, _, rfl, ⟨_, by simp only [gX_true]; exact D14.out⟩, B13.out⟩
end Go.Proofs.Ytakhggnbhjoojaa

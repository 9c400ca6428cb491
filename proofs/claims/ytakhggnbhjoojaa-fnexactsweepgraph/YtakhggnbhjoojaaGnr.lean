/-
  A root goes: DropRoot of the program and of the model, call by call. Each contract says what it asks.
-/
import Derived.Test.YtakhggnbhjoojaaGnp
namespace Go.Proofs.Ytakhggnbhjoojaa
open Go.RowKit
set_option linter.unusedVariables false

theorem TGrY.nil (w : World) (lo hi : Nat) : TGrY nilRow nilRow nilRow nilRow [] [] [] [] lo hi w := by
  obtain ⟨us, h⟩ := TGrf.nil w lo hi
  exact ⟨us, h.addLast (u := nilRow) (r := []) (World.ownsRow_nil _ _ _ _) (Nat.le_refl _) (fun b hb => by simp [Value.ownBlock] at hb)⟩
theorem lsN_tot (m : List Nd) (h : LsN m) : totN m ≤ 6 * m.length := by
  have : ∀ k, k ≤ m.length → totN (m.take k) ≤ 6 * k := by
    intro k
    induction k with
    | zero => intro _; simp [totN]
    | succ k ih =>
      intro hk
      have h1 := ih (by omega)
      have h2 := (h k (by omega)).1
      rw [totN_take_succ m k (by omega)]
      omega
  have h2 := this m.length (Nat.le_refl _)
  rwa [List.take_length] at h2
theorem good_ls {m : List Nd} {rs cs : List Int} (h : goodG m rs cs) : LsOk m.length 0 0 (m, cs, []) := by
  refine ⟨rfl, good_len h, fun k hk => ⟨(h.1.1.2 k hk).2.1, fun i hi => ?_⟩, fun i hi => ?_, by simp⟩
  · have := (h.1.1.2 k hk).1 i hi
    exact ⟨this.1, this.2.1⟩
  · have := good_bd h i hi
    simp only at this ⊢
    omega
theorem NdV.rotE {w : World} {lo hi : Nat} {v u : Value} {es us : List Value} {qs : List (List Int)} {xs : List Nd} {r : List Int} (h1 : NdV w lo hi v (u :: es) us (r :: qs) xs) : NdV w lo hi v (es ++ [u]) us (qs ++ [r]) xs := by
  have hE : es.length = qs.length := by simpa using h1.lenE
  have hU := h1.len
  refine ⟨h1.head, h1.top, by simp [hE], h1.rws.pick (by simp [hE, hU]) (fun j => if j < qs.length then j + 1 else if j = qs.length then 0 else j) ?_ ?_⟩
  · intro j hj
    simp only [List.length_append, List.length_singleton, List.length_map] at hj
    right
    by_cases c1 : j < qs.length
    · rw [if_pos c1]
      refine ⟨by simp; omega, ?_, ?_⟩
      · rw [List.append_assoc, getD_app_left es _ j _ (by rw [hE]; exact c1)]
        show _ = (es ++ us).getD j nilRow
        rw [getD_app_left es us j _ (by rw [hE]; exact c1)]
      · rw [List.append_assoc, getD_app_left qs _ j _ c1]
        show _ = (qs ++ xs.map Prod.fst).getD j []
        rw [getD_app_left qs _ j _ c1]
    · by_cases c2 : j = qs.length
      · subst c2
        rw [if_neg (by omega), if_pos rfl]
        have a1 := getD_app_right es ([u] ++ us) qs.length 0 nilRow hE
        have a2 := getD_app_right qs ([r] ++ xs.map Prod.fst) qs.length 0 [] rfl
        rw [Nat.add_zero] at a1 a2
        refine ⟨by simp, ?_, ?_⟩
        · rw [List.append_assoc, a1]; rfl
        · rw [List.append_assoc, a2]; rfl
      · obtain ⟨i, rfl⟩ : ∃ i, j = qs.length + (i + 1) := ⟨j - qs.length - 1, by omega⟩
        rw [if_neg c1, if_neg c2]
        refine ⟨by simp; omega, ?_, ?_⟩
        · rw [List.append_assoc, getD_app_right es _ _ (i + 1) _ hE]
          show us.getD i nilRow = (es ++ us).getD (qs.length + i) nilRow
          rw [getD_app_right es us _ i _ hE]
        · rw [List.append_assoc, getD_app_right qs _ _ (i + 1) _ rfl]
          show (xs.map Prod.fst).getD i [] = (qs ++ xs.map Prod.fst).getD (qs.length + i) []
          rw [getD_app_right qs _ _ i _ rfl]
  · intro j k hj hk e
    (repeat' split at e) <;> omega
/-- A graph above a list: both are the call's own. -/
theorem grY_join {w w' : World} {lo : Nat} {p r c y : Value} {xs : List Nd} {rs cs ys : List Int} (ho : Own w lo y ys) (hb : Below w.heap.size w w') (hd : TGrf p r c xs rs cs w.heap.size w'.heap.size w') (hlo : lo ≤ w.heap.size) : TGrY p r c y xs rs cs ys lo w'.heap.size w' := by
  obtain ⟨us, h⟩ := hd
  have h0 := h.wider (lo' := lo) (hi' := w'.heap.size) hlo (Nat.le_refl _)
  have h1 := h0.addAny (u := y) (r := ys) (hi2 := w'.heap.size) (Own.below ho hb) (Nat.le_refl _) (fun b hb' => by have := (World.ownsRow.lt ho b hb').2; have := hb.size; omega) (fun b hb' => ⟨fun i hi e => by
    have h2 := (World.ownsRow.lt (h.rowE i hi) b e).1
    have h3 := (World.ownsRow.lt ho b hb').2
    omega, fun i hi e => by
    have h2 := (World.ownsRow.lt (h.row i hi) b e).1
    have h3 := (World.ownsRow.lt ho b hb').2
    omega⟩)
  exact ⟨us, h1.rotE⟩
/-- A root can go. -/
abbrev drOk (m : List Nd) (rs cs : List Int) (k : Int) : Prop := goodG m rs cs ∧ 0 ≤ k ∧ k < (rs.length : Int)
/-- What is left. -/
def drS (m : List Nd) (rs cs : List Int) (k : Int) : Ls := lsF 14 m cs (rs.getD k.toNat 0).toNat
def outL (rs : List Int) (k : Int) : List Int := rs.take k.toNat ++ rs.drop (k.toNat + 1)

set_option linter.unusedSimpArgs false in
set_option maxRecDepth 100000 in
set_option maxHeartbeats 1600000 in
theorem sDropRoot_calls (p r c : Value) (m : List Nd) (rs cs : List Int) (k : Int) (ok : Bool) (w : World) (h : RdG w p r c m rs cs) (hok : ok = decide (drOk m rs cs k)) :
    Calls Try.prog 35 #[.agg #[p, r, c], .int .i64 k] w fun e w' => ∃ p' r' c' y', e = .returned (.tuple #[.agg #[p', r', c'], y', .bool ok]) ∧ TGrY p' r' c' y' (gX ok (drS m rs cs k).1) (gX ok (outL rs k)) (gX ok (drS m rs cs k).2.1) (gX ok (drS m rs cs k).2.2) w.heap.size w'.heap.size w' ∧ Below w.heap.size w w' := by
  have R := hide h
  obtain ⟨⟨ap, cp, rfl, h1, h2, h3⟩, ⟨ar, cr, rfl, hr1, hr2, _⟩, ⟨ac, cc, rfl, _⟩⟩ := h
  have hrm : rs.length ≤ maxLen := by omega
  unfold maxLen at hrm
  have A0 := hide (Hand.twoN w #[.slice ap m.length cp, .slice ar rs.length cr, .slice ac cs.length cc] nilG 27 27)
  clear h1 h2 h3 hr1 hr2
  by_cases hg : goodG m rs cs
  case neg =>
    obtain rfl : ok = false := by rw [hok]; exact decide_eq_false (fun h => hg h.1)
    have E : Hid (decide (goodG m rs cs) = false) := decide_eq_false hg
    clear hok hg
    go_enter Try.func35, Try.ntmps35
    go_wp2_with fail
    refine (sGoodGraph_calls _ _ _ m rs cs _ (R.out.below A0.out.below)).mono ?_
    rw [E.out]
    rintro e w1 ⟨rfl, b1⟩
    have A1 := hide (A0.out.step b1)
    clear b1
    have A8 := hide (A1.out)
    have x := A8.out.atBox 0 rfl
    obtain ⟨z0, z1, z2⟩ := x.c3
    have f0 := x.frozen 0
    have f1 := x.frozen 1
    have f2 := x.frozen 2
    obtain ⟨c0, c1, c2⟩ := (A8.out.atBox 1 rfl).c3
    have A9 := hide (A8.out.store3G 0 rfl nilRow nilRow nilRow)
    clear x A8
    go_wp2
    exact bodyPost_ret (res_gr3 rfl _ _ (w.heap.size + 1) _ _ _ (0, 0) rfl (A9.out.atBox 0 rfl)) rfl ⟨_, _, _, _, rfl, TGrY.nil _ _ _, A9.out.below⟩
  have E : Hid (decide (goodG m rs cs) = true) := decide_eq_true hg
  by_cases hk0 : 0 ≤ k
  case neg =>
    obtain rfl : ok = false := by rw [hok]; exact decide_eq_false (fun h => hk0 h.2.1)
    have hk0' : k < 0 := by omega
    clear hok hg hk0
    go_enter Try.func35, Try.ntmps35
    go_wp2_with fail
    refine (sGoodGraph_calls _ _ _ m rs cs _ (R.out.below A0.out.below)).mono ?_
    rw [E.out]
    rintro e w1 ⟨rfl, b1⟩
    have A1 := hide (A0.out.step b1)
    clear b1
    have A8 := hide (A1.out)
    have x := A8.out.atBox 0 rfl
    obtain ⟨z0, z1, z2⟩ := x.c3
    have f0 := x.frozen 0
    have f1 := x.frozen 1
    have f2 := x.frozen 2
    obtain ⟨c0, c1, c2⟩ := (A8.out.atBox 1 rfl).c3
    have A9 := hide (A8.out.store3G 0 rfl nilRow nilRow nilRow)
    clear x A8
    go_wp2
    exact bodyPost_ret (res_gr3 rfl _ _ (w.heap.size + 1) _ _ _ (0, 0) rfl (A9.out.atBox 0 rfl)) rfl ⟨_, _, _, _, rfl, TGrY.nil _ _ _, A9.out.below⟩
  have hk0' : ¬ k < 0 := by omega
  by_cases hk1 : k < (rs.length : Int)
  case neg =>
    obtain rfl : ok = false := by rw [hok]; exact decide_eq_false (fun h => hk1 h.2.2)
    have hk1' : (rs.length : Int) ≤ k := by omega
    clear hok hg hk0 hk1
    go_enter Try.func35, Try.ntmps35
    go_wp2_with fail
    refine (sGoodGraph_calls _ _ _ m rs cs _ (R.out.below A0.out.below)).mono ?_
    rw [E.out]
    rintro e w1 ⟨rfl, b1⟩
    have A1 := hide (A0.out.step b1)
    clear b1
    have A8 := hide (A1.out)
    have x := A8.out.atBox 0 rfl
    obtain ⟨z0, z1, z2⟩ := x.c3
    have f0 := x.frozen 0
    have f1 := x.frozen 1
    have f2 := x.frozen 2
    obtain ⟨c0, c1, c2⟩ := (A8.out.atBox 1 rfl).c3
    have A9 := hide (A8.out.store3G 0 rfl nilRow nilRow nilRow)
    clear x A8
    go_wp2
    exact bodyPost_ret (res_gr3 rfl _ _ (w.heap.size + 1) _ _ _ (0, 0) rfl (A9.out.atBox 0 rfl)) rfl ⟨_, _, _, _, rfl, TGrY.nil _ _ _, A9.out.below⟩
  obtain rfl : ok = true := by rw [hok]; exact decide_eq_true ⟨hg, hk0, hk1⟩
  obtain ⟨kn, hkn⟩ : ∃ kn : Nat, k = (kn : Int) := ⟨k.toNat, by omega⟩
  subst hkn
  have hk1' : ¬ (rs.length : Int) ≤ (kn : Int) := by omega
  have hkr : kn < rs.length := by omega
  have hxo := hg.1.2.2 kn hkr
  obtain ⟨x, hx⟩ : ∃ x : Nat, rs.getD kn 0 = (x : Int) := ⟨(rs.getD kn 0).toNat, by have := hxo.1; omega⟩
  have hxm : x < m.length := by have := hxo.2.1; omega
  have SZ := hide (good_sz hg)
  have GL := hide (good_ls hg)
  have hr6 : rs.length ≤ 6 := hg.1.2.1
  have h14 : m.length ≤ 14 := hg.1.1.1
  have hcl : cs.length = m.length := good_len hg
  have HCL := hide hcl
  have HX := hide hx
  have HXM := hide hxm
  have HKR := hide hkr
  have H14 := hide h14
  obtain ⟨S, hS⟩ : ∃ S, S = drS m rs cs (kn : Int) := ⟨_, rfl⟩
  have ES : Hid (S = lsF 14 m cs x) := by show _ = _; rw [hS]; unfold drS; rw [Int.toNat_natCast, hx, Int.toNat_natCast]
  rw [← hS]
  clear hS
  have EL : Hid (outL rs (kn : Int) = rs.take kn ++ rs.drop (kn + 1)) := by show _ = _; unfold outL; rw [Int.toNat_natCast]
  clear hok hg hxo hx hxm hkr h14 hcl hk0 hk1
  have hk1 : (kn : Int) < (rs.length : Int) := by have := HKR.out; omega
  go_enter Try.func35, Try.ntmps35
  go_wp2_with fail
  refine (sGoodGraph_calls _ _ _ m rs cs _ (R.out.below A0.out.below)).mono ?_
  rw [E.out]
  rintro e w1 ⟨rfl, b1⟩
  have A1 := hide (A0.out.step b1)
  clear b1
  obtain ⟨c0, c1, c2⟩ := (A1.out.atBox 1 rfl).c3
  go_wp2_with fail
  refine (l10Own_calls _ _ _ m rs cs _ (R.out.below A1.out.below) SZ.out).mono ?_
  rintro e w4 ⟨p4, r4, c4, rfl, d4, b4⟩
  obtain ⟨ap4, cp4, ar4, cr4, ac4, cc4, rfl, rfl, rfl⟩ := d4.sls
  have hgx : w.heap.size + 1 < w4.heap.size := Nat.lt_of_lt_of_le (A1.out.atBox 0 rfl).lt b4.size
  have A5 := (A1.out.add b4 (TGrf.st _ _ _ _ _ _) d4).box #[.slice ap4 m.length cp4, .slice ar4 rs.length cr4, .slice ac4 cs.length cc4] 27
  obtain ⟨lo5, hi5, ⟨us5, d5⟩, hl5, hh5, put5⟩ := A5.open 1 rfl
  obtain ⟨w4b, hw4b⟩ : ∃ w4b, w4b = w4.alloc (.cells #[.slice ap4 m.length cp4, .slice ar4 rs.length cr4, .slice ac4 cs.length cc4] 27) := ⟨_, rfl⟩
  have d5' := d5.wider (lo' := w.heap.size) (hi' := (w4.alloc (.cells #[.slice ap4 m.length cp4, .slice ar4 rs.length cr4, .slice ac4 cs.length cc4] 27)).heap.size) hl5 hh5
  have gb := A5.atBox 0 rfl
  have xb := A5.atBox 2 rfl
  have aa := A5.atBox 3 rfl
  have ab := A5.below
  rw [← hw4b] at d5' gb xb ab aa
  have o5 := d5'.rowE 0 (by simp)
  obtain ⟨gr, kr, er, rc5, rf5, _⟩ := own_put o5 (n := kn) HKR.out
  simp only [List.getD_cons_zero, List.getD_cons_succ, Value.slice.injEq, true_and] at er
  obtain ⟨rfl, rfl⟩ := er
  have rc5' : w4b.cell? ⟨gr, kn, none⟩ = some (.int .i64 (rs.getD kn 0)) := rc5
  rw [HX.out] at rc5'
  have W4B : Hid (w4.alloc (.cells #[.slice ap4 m.length cp4, .slice (some ⟨gr, 0, none⟩) rs.length cr4, .slice ac4 cs.length cc4] 27) = w4b) := hw4b.symm
  have D5 := hide d5'
  have GB := hide gb
  have XB := hide xb
  have AA := hide aa
  have AB := hide ab
  have HGX := hide hgx
  obtain ⟨gc0, gc1, gc2⟩ := gb.c3
  clear b4 d4 A1 A5 hw4b put5 d5 d5' gb xb ab aa lo5 hi5 hl5 hh5 c0 c1 c2 o5 rc5 hgx
  go_upto_region 4 with fail
  rw [W4B.out]
  go_wp2_with fail
  refine (l10Without_calls _ rs kn _ (Own.rd (D5.out.rowE 0 (by simp))) HKR.out (by omega)).mono ?_
  rintro e w6 ⟨v6, rfl, o6, b6⟩
  obtain ⟨a6, k6, hv6⟩ := row_slice o6
  obtain ⟨L6, hL6⟩ : ∃ L, L = (rs.take kn ++ rs.drop (kn + 1)).length := ⟨_, rfl⟩
  rw [← hL6] at hv6
  subst hv6
  clear hL6
  have d6 := ((D5.out.below b6).putE 0 (by simp) (Own.mono o6 AB.out.size) b6.size (fun b hb => ⟨row_top o6 b hb, .inl (row_low o6 b hb)⟩) : NdV w6 w.heap.size w6.heap.size _ _ _ _ _)
  simp only [List.set_cons_zero] at d6
  have gb6 := GB.out.below b6
  have xb6 := XB.out.below b6
  have d7 := d6.atBox gb6 (by decide) (by decide) 1 (.slice a6 L6 k6)
  have gb7 : BoxAt (w6.setCell ⟨w4.heap.size, 1, none⟩ (.slice a6 L6 k6)) w4.heap.size #[.slice ap4 m.length cp4, .slice a6 L6 k6, .slice ac4 cs.length cc4] 27 := by simpa using gb6.set 1 (.slice a6 L6 k6)
  have xb7 := xb6.other (g' := w4.heap.size) (j := 1) (x := .slice a6 L6 k6) (by have := HGX.out; omega)
  have ab7 : Below w.heap.size w (w6.setCell ⟨w4.heap.size, 1, none⟩ (.slice a6 L6 k6)) := (AB.out.trans (b6.mono AB.out.size)).setCell (by show w.heap.size ≤ w4.heap.size; have := HGX.out; omega) _
  obtain ⟨hc0, hc1, hc2⟩ := gb6.c3
  have hf1 := gb6.frozen 1
  obtain ⟨w7, hw7⟩ : ∃ w7, w7 = w6.setCell ⟨w4.heap.size, 1, none⟩ (.slice a6 L6 k6) := ⟨_, rfl⟩
  have s7 : w7.heap.size = w6.heap.size := by rw [hw7]; simp
  have W7 : Hid (w6.setCell ⟨w4.heap.size, 1, none⟩ (.slice a6 L6 k6) = w7) := hw7.symm
  rw [← hw7] at d7 gb7 xb7 ab7
  have D7 := hide (d7.addLast (u := nilRow) (r := []) (hi2 := w7.heap.size) (World.ownsRow_nil _ _ _ _) (by omega) (fun b hb => by simp [Value.ownBlock] at hb))
  have GB7 := hide gb7
  have XB7 := hide xb7
  have AB7 := hide ab7
  clear d6 d7 gb6 gb7 xb6 xb7 ab7 o6 b6 hw7 s7 D5 GB XB AB gc0 gc1 gc2 rc5' rf5
  go_upto_region 6 with fail
  rw [W7.out]
  clear hc0 hc1 hc2 hf1
  obtain ⟨hc0, hc1, hc2⟩ := GB7.out.c3
  go_wp2_with fail
  refine (l10Less_calls m.length H14.out 14 x 0 _ _ _ nilRow [] us5 [] (rs.take kn ++ rs.drop (kn + 1)) cs [] m w.heap.size w7 (by have := HXM.out; have := H14.out; omega) HXM.out GL.out (by rw [lsT_14]; omega) (by rw [lsT_14]; simp) D7.out AB7.out.size).mono ?_
  rintro e w8 ⟨y8, us8, rfl, d8, bl8, kb8⟩
  have lk := lsF_ok m.length 14 m cs x 0 GL.out
  obtain ⟨ay8, ky8, hy8⟩ := row_slice (d8.rowE 2 (by simp))
  simp only [List.getD_cons_zero, List.getD_cons_succ, List.nil_append] at hy8 d8
  rw [← ES.out] at d8 hy8 lk
  obtain ⟨LV, hLV⟩ : ∃ L, L = S.2.2.length := ⟨_, rfl⟩
  rw [← hLV] at hy8
  subst hy8
  have gb8 := kb8 _ _ _ (by decide) (by decide) (by decide) GB7.out
  have XB8 := hide (kb8 _ _ _ (by decide) (by decide) (by decide) XB7.out)
  have AB8 := hide (AB7.out.trans bl8)
  have rg8 : RdG w8 (.slice ap4 m.length cp4) (.slice a6 L6 k6) (.slice ac4 cs.length cc4) S.1 (rs.take kn ++ rs.drop (kn + 1)) S.2.1 := ⟨d8.rd, (d8.rowE 0 (by simp)).rd, (d8.rowE 1 (by simp)).rd⟩
  have RG8 := hide rg8
  have OY8 := hide (d8.rowE 2 (by simp))
  have SZ8 : Hid (SzG S.1 (rs.take kn ++ rs.drop (kn + 1)) S.2.1) := by
    have h1 := lsN_tot S.1 lk.nd
    have h2 := lk.lm
    have h3 := lk.lc
    have h4 := H14.out
    exact ⟨by omega, by simp; omega, by omega⟩
  clear hc0 hc1 hc2
  obtain ⟨hc0, hc1, hc2⟩ := gb8.c3
  clear d8 bl8 kb8 gb8 rg8 D7 GB7 XB7 AB7 lk hLV
  go_wp2_with fail
  refine (l10Own_calls _ _ _ S.1 (rs.take kn ++ rs.drop (kn + 1)) S.2.1 _ RG8.out SZ8.out).mono ?_
  rintro e w9 ⟨p9, r9, c9, rfl, d9, b9⟩
  obtain ⟨ap9, cp9, ar9, cr9, ac9, cc9, rfl, rfl, rfl⟩ := d9.sls
  obtain ⟨us9, dy9⟩ := grY_join OY8.out b9 d9 AB8.out.size
  have xb9 := XB8.out.below b9
  obtain ⟨jc0, jc1, jc2⟩ := xb9.c3
  have jf0 := xb9.frozen 0
  have jf1 := xb9.frozen 1
  have jf2 := xb9.frozen 2
  have ab9 := AB8.out.trans (b9.mono AB8.out.size)
  obtain ⟨LX, hLX⟩ : ∃ L, L = S.1.length := ⟨_, rfl⟩
  obtain ⟨LR, hLR⟩ : ∃ L, L = (rs.take kn ++ rs.drop (kn + 1)).length := ⟨_, rfl⟩
  obtain ⟨LC, hLC⟩ : ∃ L, L = S.2.1.length := ⟨_, rfl⟩
  rw [← hLX, ← hLR, ← hLC] at dy9 ⊢
  have xb10 := xb9.store3 (.slice ap9 LX cp9) (.slice ar9 LR cr9) (.slice ac9 LC cc9)
  have d10 := ((dy9.atBox xb9 (by decide) (by decide) 0 (.slice ap9 LX cp9)).atBox (xb9.set 0 (.slice ap9 LX cp9)) (by decide) (by decide) 1 (.slice ar9 LR cr9)).atBox ((xb9.set 0 (.slice ap9 LX cp9)).set 1 (.slice ar9 LR cr9)) (by decide) (by decide) 2 (.slice ac9 LC cc9)
  have b10 := ((ab9.setCell (p := ⟨w.heap.size + 1, 0, none⟩) (by show w.heap.size ≤ w.heap.size + 1; omega) (.slice ap9 LX cp9)).setCell (p := ⟨w.heap.size + 1, 1, none⟩) (by show w.heap.size ≤ w.heap.size + 1; omega) (.slice ar9 LR cr9)).setCell (p := ⟨w.heap.size + 1, 2, none⟩) (by show w.heap.size ≤ w.heap.size + 1; omega) (.slice ac9 LC cc9)
  have D10 := hide (d10.wider (lo' := w.heap.size) (hi' := (((w9.setCell ⟨w.heap.size + 1, 0, none⟩ (.slice ap9 LX cp9)).setCell ⟨w.heap.size + 1, 1, none⟩ (.slice ar9 LR cr9)).setCell ⟨w.heap.size + 1, 2, none⟩ (.slice ac9 LC cc9)).heap.size) (Nat.le_refl _) (by simp))
  have X10 := hide xb10
  have B10 := hide b10
  clear d9 b9 dy9 xb9 ab9 xb10 d10 b10 hLX hLR hLC hc0 hc1 hc2
  go_wp2
  exact bodyPost_ret (res_gr3 rfl _ _ (w.heap.size + 1) _ _ _ (0, 0) rfl X10.out) rfl ⟨_, _, _, _, rfl, ⟨_, by rw [EL.out]; exact D10.out⟩, B10.out⟩

set_option linter.unusedSimpArgs false in
set_option maxRecDepth 100000 in
set_option maxHeartbeats 1600000 in
theorem dropRoot_calls (p r c : Value) (m : List Nd) (rs cs : List Int) (k : Int) (ok : Bool) (w : World) (h : RdG w p r c m rs cs) (hok : ok = decide (drOk m rs cs k)) :
    Calls Try.prog 36 #[.agg #[p, r, c], .int .i64 k] w fun e w' => ∃ p' r' c' y', e = .returned (.tuple #[.agg #[p', r', c'], y', .bool ok]) ∧ TGrY p' r' c' y' (gX ok (drS m rs cs k).1) (gX ok (outL rs k)) (gX ok (drS m rs cs k).2.1) (gX ok (drS m rs cs k).2.2) w.heap.size w'.heap.size w' ∧ Below w.heap.size w w' := by
  have R := hide h
  obtain ⟨⟨ap, cp, rfl, h1, h2, h3⟩, ⟨ar, cr, rfl, hr1, hr2, _⟩, ⟨ac, cc, rfl, _⟩⟩ := h
  have hrm : rs.length ≤ maxLen := by omega
  unfold maxLen at hrm
  have A0 := hide (Hand.twoN w #[.slice ap m.length cp, .slice ar rs.length cr, .slice ac cs.length cc] nilG 27 27)
  clear h1 h2 h3 hr1 hr2
  by_cases hg : goodG m rs cs
  case neg =>
    obtain rfl : ok = false := by rw [hok]; exact decide_eq_false (fun h => hg h.1)
    have E : Hid (decide (goodG m rs cs) = false) := decide_eq_false hg
    clear hok hg
    go_enter Try.func36, Try.ntmps36
    go_wp2_with fail
    refine (goodGraph_calls _ _ _ m rs cs _ (R.out.below A0.out.below)).mono ?_
    rw [E.out]
    rintro e w1 ⟨rfl, b1⟩
    have A1 := hide (A0.out.step b1)
    clear b1
    have A8 := hide (A1.out)
    have x := A8.out.atBox 0 rfl
    obtain ⟨z0, z1, z2⟩ := x.c3
    have f0 := x.frozen 0
    have f1 := x.frozen 1
    have f2 := x.frozen 2
    obtain ⟨c0, c1, c2⟩ := (A8.out.atBox 1 rfl).c3
    have A9 := hide (A8.out.store3G 0 rfl nilRow nilRow nilRow)
    clear x A8
    go_wp2
    exact bodyPost_ret (res_gr3 rfl _ _ (w.heap.size + 1) _ _ _ (0, 0) rfl (A9.out.atBox 0 rfl)) rfl ⟨_, _, _, _, rfl, TGrY.nil _ _ _, A9.out.below⟩
  have E : Hid (decide (goodG m rs cs) = true) := decide_eq_true hg
  by_cases hk0 : 0 ≤ k
  case neg =>
    obtain rfl : ok = false := by rw [hok]; exact decide_eq_false (fun h => hk0 h.2.1)
    have hk0' : k < 0 := by omega
    clear hok hg hk0
    go_enter Try.func36, Try.ntmps36
    go_wp2_with fail
    refine (goodGraph_calls _ _ _ m rs cs _ (R.out.below A0.out.below)).mono ?_
    rw [E.out]
    rintro e w1 ⟨rfl, b1⟩
    have A1 := hide (A0.out.step b1)
    clear b1
    have A8 := hide (A1.out)
    have x := A8.out.atBox 0 rfl
    obtain ⟨z0, z1, z2⟩ := x.c3
    have f0 := x.frozen 0
    have f1 := x.frozen 1
    have f2 := x.frozen 2
    obtain ⟨c0, c1, c2⟩ := (A8.out.atBox 1 rfl).c3
    have A9 := hide (A8.out.store3G 0 rfl nilRow nilRow nilRow)
    clear x A8
    go_wp2
    exact bodyPost_ret (res_gr3 rfl _ _ (w.heap.size + 1) _ _ _ (0, 0) rfl (A9.out.atBox 0 rfl)) rfl ⟨_, _, _, _, rfl, TGrY.nil _ _ _, A9.out.below⟩
  have hk0' : ¬ k < 0 := by omega
  by_cases hk1 : k < (rs.length : Int)
  case neg =>
    obtain rfl : ok = false := by rw [hok]; exact decide_eq_false (fun h => hk1 h.2.2)
    have hk1' : (rs.length : Int) ≤ k := by omega
    clear hok hg hk0 hk1
    go_enter Try.func36, Try.ntmps36
    go_wp2_with fail
    refine (goodGraph_calls _ _ _ m rs cs _ (R.out.below A0.out.below)).mono ?_
    rw [E.out]
    rintro e w1 ⟨rfl, b1⟩
    have A1 := hide (A0.out.step b1)
    clear b1
    have A8 := hide (A1.out)
    have x := A8.out.atBox 0 rfl
    obtain ⟨z0, z1, z2⟩ := x.c3
    have f0 := x.frozen 0
    have f1 := x.frozen 1
    have f2 := x.frozen 2
    obtain ⟨c0, c1, c2⟩ := (A8.out.atBox 1 rfl).c3
    have A9 := hide (A8.out.store3G 0 rfl nilRow nilRow nilRow)
    clear x A8
    go_wp2
    exact bodyPost_ret (res_gr3 rfl _ _ (w.heap.size + 1) _ _ _ (0, 0) rfl (A9.out.atBox 0 rfl)) rfl ⟨_, _, _, _, rfl, TGrY.nil _ _ _, A9.out.below⟩
  obtain rfl : ok = true := by rw [hok]; exact decide_eq_true ⟨hg, hk0, hk1⟩
  obtain ⟨kn, hkn⟩ : ∃ kn : Nat, k = (kn : Int) := ⟨k.toNat, by omega⟩
  subst hkn
  have hk1' : ¬ (rs.length : Int) ≤ (kn : Int) := by omega
  have hkr : kn < rs.length := by omega
  have hxo := hg.1.2.2 kn hkr
  obtain ⟨x, hx⟩ : ∃ x : Nat, rs.getD kn 0 = (x : Int) := ⟨(rs.getD kn 0).toNat, by have := hxo.1; omega⟩
  have hxm : x < m.length := by have := hxo.2.1; omega
  have SZ := hide (good_sz hg)
  have GL := hide (good_ls hg)
  have hr6 : rs.length ≤ 6 := hg.1.2.1
  have h14 : m.length ≤ 14 := hg.1.1.1
  have hcl : cs.length = m.length := good_len hg
  have HCL := hide hcl
  have HX := hide hx
  have HXM := hide hxm
  have HKR := hide hkr
  have H14 := hide h14
  obtain ⟨S, hS⟩ : ∃ S, S = drS m rs cs (kn : Int) := ⟨_, rfl⟩
  have ES : Hid (S = lsF 14 m cs x) := by show _ = _; rw [hS]; unfold drS; rw [Int.toNat_natCast, hx, Int.toNat_natCast]
  rw [← hS]
  clear hS
  have EL : Hid (outL rs (kn : Int) = rs.take kn ++ rs.drop (kn + 1)) := by show _ = _; unfold outL; rw [Int.toNat_natCast]
  clear hok hg hxo hx hxm hkr h14 hcl hk0 hk1
  have hk1 : (kn : Int) < (rs.length : Int) := by have := HKR.out; omega
  go_enter Try.func36, Try.ntmps36
  go_wp2_with fail
  refine (goodGraph_calls _ _ _ m rs cs _ (R.out.below A0.out.below)).mono ?_
  rw [E.out]
  rintro e w1 ⟨rfl, b1⟩
  have A1 := hide (A0.out.step b1)
  clear b1
  obtain ⟨c0, c1, c2⟩ := (A1.out.atBox 1 rfl).c3
  go_wp2_with fail
  refine (copyGraph_calls _ _ _ m rs cs _ (R.out.below A1.out.below) SZ.out).mono ?_
  rintro e w4 ⟨p4, r4, c4, rfl, d4, b4⟩
  obtain ⟨ap4, cp4, ar4, cr4, ac4, cc4, rfl, rfl, rfl⟩ := d4.sls
  have hgx : w.heap.size + 1 < w4.heap.size := Nat.lt_of_lt_of_le (A1.out.atBox 0 rfl).lt b4.size
  have A5 := (A1.out.add b4 (TGrf.st _ _ _ _ _ _) d4).box #[.slice ap4 m.length cp4, .slice ar4 rs.length cr4, .slice ac4 cs.length cc4] 27
  obtain ⟨lo5, hi5, ⟨us5, d5⟩, hl5, hh5, put5⟩ := A5.open 1 rfl
  obtain ⟨w4b, hw4b⟩ : ∃ w4b, w4b = w4.alloc (.cells #[.slice ap4 m.length cp4, .slice ar4 rs.length cr4, .slice ac4 cs.length cc4] 27) := ⟨_, rfl⟩
  have d5' := d5.wider (lo' := w.heap.size) (hi' := (w4.alloc (.cells #[.slice ap4 m.length cp4, .slice ar4 rs.length cr4, .slice ac4 cs.length cc4] 27)).heap.size) hl5 hh5
  have gb := A5.atBox 0 rfl
  have xb := A5.atBox 2 rfl
  have aa := A5.atBox 3 rfl
  have ab := A5.below
  rw [← hw4b] at d5' gb xb ab aa
  have o5 := d5'.rowE 0 (by simp)
  obtain ⟨gr, kr, er, rc5, rf5, _⟩ := own_put o5 (n := kn) HKR.out
  simp only [List.getD_cons_zero, List.getD_cons_succ, Value.slice.injEq, true_and] at er
  obtain ⟨rfl, rfl⟩ := er
  have rc5' : w4b.cell? ⟨gr, kn, none⟩ = some (.int .i64 (rs.getD kn 0)) := rc5
  rw [HX.out] at rc5'
  have W4B : Hid (w4.alloc (.cells #[.slice ap4 m.length cp4, .slice (some ⟨gr, 0, none⟩) rs.length cr4, .slice ac4 cs.length cc4] 27) = w4b) := hw4b.symm
  have D5 := hide d5'
  have GB := hide gb
  have XB := hide xb
  have AA := hide aa
  have AB := hide ab
  have HGX := hide hgx
  obtain ⟨gc0, gc1, gc2⟩ := gb.c3
  clear b4 d4 A1 A5 hw4b put5 d5 d5' gb xb ab aa lo5 hi5 hl5 hh5 c0 c1 c2 o5 rc5 hgx
  go_upto_region 4 with fail
  rw [W4B.out]
  go_wp2_with fail
  refine (delete_calls gr cr4 kn w.heap.size rs _ (D5.out.rowE 0 (by simp)) HKR.out).mono ?_
  rintro e w6 ⟨rfl, o6, g6⟩
  obtain ⟨L6, hL6⟩ : ∃ L, L = rs.length - 1 := ⟨_, rfl⟩
  rw [← hL6] at o6 ⊢
  clear hL6
  have o5 := D5.out.rowE 0 (by simp)
  have d6 := D5.out.appE 0 (by simp) o6 g6 (.inl rfl) (Nat.le_refl _)
  simp only [List.set_cons_zero] at d6
  have gb6 := GB.out.kept g6 (GB.out.offT o5 (by decide))
  have xb6 := XB.out.kept g6 (XB.out.offT o5 (by decide))
  have aa6 := AA.out.kept g6 (AA.out.offT o5 (by decide))
  have ab6 : Below w.heap.size w w6 := AB.out.grown g6 AB.out.size (fun k hk => (World.ownsRow.lt o5 k hk).1)
  have d7 := d6.atBox gb6 (by decide) (by decide) 1 (.slice (some ⟨gr, 0, none⟩) L6 cr4)
  have gb7 : BoxAt (w6.setCell ⟨w4.heap.size, 1, none⟩ (.slice (some ⟨gr, 0, none⟩) L6 cr4)) w4.heap.size #[.slice ap4 m.length cp4, .slice (some ⟨gr, 0, none⟩) L6 cr4, .slice ac4 cs.length cc4] 27 := by simpa using gb6.set 1 (.slice (some ⟨gr, 0, none⟩) L6 cr4)
  have xb7 := xb6.other (g' := w4.heap.size) (j := 1) (x := .slice (some ⟨gr, 0, none⟩) L6 cr4) (by have := HGX.out; omega)
  have aa7 := aa6.other (g' := w4.heap.size) (j := 1) (x := .slice (some ⟨gr, 0, none⟩) L6 cr4) (by have := HGX.out; omega)
  have ab7 : Below w.heap.size w (w6.setCell ⟨w4.heap.size, 1, none⟩ (.slice (some ⟨gr, 0, none⟩) L6 cr4)) := ab6.setCell (by show w.heap.size ≤ w4.heap.size; have := HGX.out; omega) _
  obtain ⟨hc0, hc1, hc2⟩ := gb6.c3
  have hf1 := gb6.frozen 1
  obtain ⟨w7, hw7⟩ : ∃ w7, w7 = w6.setCell ⟨w4.heap.size, 1, none⟩ (.slice (some ⟨gr, 0, none⟩) L6 cr4) := ⟨_, rfl⟩
  have s7 : w7.heap.size = w6.heap.size := by rw [hw7]; simp
  have W7 : Hid (w6.setCell ⟨w4.heap.size, 1, none⟩ (.slice (some ⟨gr, 0, none⟩) L6 cr4) = w7) := hw7.symm
  rw [← hw7] at d7 gb7 xb7 ab7 aa7
  obtain ⟨rb, ro, rfl, rc⟩ := (R.out.2.1).cellAt kn HKR.out
  rw [HX.out] at rc
  have RB : Hid (rb < w.heap.size) := cell_lt rc
  have D7 := hide (d7.wider (hi' := w7.heap.size) (Nat.le_refl _) (by omega))
  have GB7 := hide gb7
  have XB7 := hide xb7
  have AA7 := hide aa7
  have AB7 := hide ab7
  have RC := hide rc
  have F : Hid (∀ W, Below w7.heap.size w7 W → (W.cell? ⟨w4.heap.size, 0, none⟩ = some (.slice ap4 m.length cp4) ∧ W.cell? ⟨w4.heap.size, 1, none⟩ = some (.slice (some ⟨gr, 0, none⟩) L6 cr4) ∧ W.cell? ⟨w4.heap.size, 2, none⟩ = some (.slice ac4 cs.length cc4)) ∧ W.cell? ⟨w.heap.size, 1, none⟩ = some (.slice (some ⟨rb, ro, none⟩) rs.length cr) ∧ W.cell? ⟨rb, ro + kn, none⟩ = some (.int .i64 (x : Int))) := by
    intro W hW
    exact ⟨(GB7.out.below hW).c3, (AA7.out.below hW).cell 1, ((AB7.out.trans (hW.mono AB7.out.size)).cell (by exact RB.out)).trans RC.out⟩
  clear d6 d7 gb6 gb7 xb6 xb7 aa6 aa7 ab6 ab7 o5 o6 g6 hw7 s7 D5 GB XB AB AA gc0 gc1 gc2 rc5' rf5 rc
  go_upto_region 5 with fail
  rw [W7.out]
  clear hc0 hc1 hc2 hf1
  refine wp_region_noPanic ?_
  refine wp_region_held_drew (S := fun w' => (w'.cell? ⟨w4.heap.size, 0, none⟩ = some (.slice ap4 m.length cp4) ∧ w'.cell? ⟨w4.heap.size, 1, none⟩ = some (.slice (some ⟨gr, 0, none⟩) L6 cr4) ∧ w'.cell? ⟨w4.heap.size, 2, none⟩ = some (.slice ac4 cs.length cc4)) ∧ w'.cell? ⟨w.heap.size, 1, none⟩ = some (.slice (some ⟨rb, ro, none⟩) rs.length cr) ∧ w'.cell? ⟨rb, ro + kn, none⟩ = some (.int .i64 (x : Int))) (by kernel_rfl) (F.out _ (Below.refl _ _).drew) (fun hHeld => ?_)
  have D7d : Hid (NdV (World.drew w7) w.heap.size (World.drew w7).heap.size _ _ _ _ _) := D7.out.below (Below.refl _ _).drew
  have AB7d := hide (AB7.out.trans ((Below.refl _ _).drew.mono AB7.out.size))
  have GB7d := hide (GB7.out.below (Below.refl _ _).drew)
  have XB7d := hide (XB7.out.below (Below.refl _ _).drew)
  have FD : Hid (∀ W, KeepB (World.drew w7) W → Below w.heap.size (World.drew w7) W → (fun W' => (W'.cell? ⟨w4.heap.size, 0, none⟩ = some (.slice ap4 m.length cp4) ∧ W'.cell? ⟨w4.heap.size, 1, none⟩ = some (.slice (some ⟨gr, 0, none⟩) L6 cr4) ∧ W'.cell? ⟨w4.heap.size, 2, none⟩ = some (.slice ac4 cs.length cc4)) ∧ W'.cell? ⟨w.heap.size, 1, none⟩ = some (.slice (some ⟨rb, ro, none⟩) rs.length cr) ∧ W'.cell? ⟨rb, ro + kn, none⟩ = some (.int .i64 (x : Int))) W) := by
    intro W hk hb
    refine ⟨(hk _ _ _ (by decide) (by decide) (by decide) (GB7.out.below (Below.refl _ _).drew)).c3, (hk _ _ _ (by decide) (by decide) (by decide) (AA7.out.below (Below.refl _ _).drew)).cell 1, ?_⟩
    rw [hb.cell (by exact RB.out)]
    exact (F.out _ (Below.refl _ _).drew).2.2
  clear D7 AB7 GB7 XB7 F AA7
  generalize World.drew w7 = V0 at *
  refine wpAnyH_take (i := 0) (v := ?v1) rfl (by kernel_rfl) (by kernel_rfl) (by kernel_rfl) (fun _ _ _ h => h) (Or.inl ⟨by rfl, ?hy1⟩) (by assumption) ?rest1
  case hy1 => (intro w' hSw; dsimp only [List.getElem_toArray, List.getElem_cons_zero, List.getElem_cons_succ] at hSw ⊢; go_simp; try (with_reducible rfl))
  try simp only [Act.put, List.getElem_toArray, List.getElem_cons_zero, List.getElem_cons_succ, List.setIfInBounds_toArray, List.set_cons_zero, List.set_cons_succ]
  refine wpAnyH_take (i := 1) (v := ?v2) rfl (by kernel_rfl) (by kernel_rfl) (by kernel_rfl) (fun _ _ _ h => h) (Or.inl ⟨by rfl, ?hy2⟩) (by assumption) ?rest2
  case hy2 => (intro w' hSw; dsimp only [List.getElem_toArray, List.getElem_cons_zero, List.getElem_cons_succ] at hSw ⊢; go_simp; try (with_reducible rfl))
  try simp only [Act.put, List.getElem_toArray, List.getElem_cons_zero, List.getElem_cons_succ, List.setIfInBounds_toArray, List.set_cons_zero, List.set_cons_succ]
  refine wpAnyH_take (i := 2) (v := ?v3) rfl (by kernel_rfl) (by kernel_rfl) (by kernel_rfl) (fun _ _ _ h => h) (Or.inl ⟨by rfl, ?hy3⟩) (by assumption) ?rest3
  case hy3 => (intro w' hSw; dsimp only [List.getElem_toArray, List.getElem_cons_zero, List.getElem_cons_succ] at hSw ⊢; go_simp; try (with_reducible rfl))
  try simp only [Act.put, List.getElem_toArray, List.getElem_cons_zero, List.getElem_cons_succ, List.setIfInBounds_toArray, List.set_cons_zero, List.set_cons_succ]
  refine wpAnyH_take (i := 3) (v := ?v4) rfl (by kernel_rfl) (by kernel_rfl) (by kernel_rfl) (fun _ _ _ h => h) (Or.inl ⟨by rfl, ?hy4⟩) (by assumption) ?rest4
  case hy4 => (intro w' hSw; dsimp only [List.getElem_toArray, List.getElem_cons_zero, List.getElem_cons_succ] at hSw ⊢; go_simp; try (with_reducible rfl))
  try simp only [Act.put, List.getElem_toArray, List.getElem_cons_zero, List.getElem_cons_succ, List.setIfInBounds_toArray, List.set_cons_zero, List.set_cons_succ]
  refine wpAnyH_take (i := 4) (v := ?v5) rfl (by kernel_rfl) (by kernel_rfl) (by kernel_rfl) (fun _ _ _ h => h) (Or.inl ⟨by rfl, ?hy5⟩) (by assumption) ?rest5
  case hy5 => (intro w' hSw; dsimp only [List.getElem_toArray, List.getElem_cons_zero, List.getElem_cons_succ] at hSw ⊢; go_simp; try (with_reducible rfl))
  try simp only [Act.put, List.getElem_toArray, List.getElem_cons_zero, List.getElem_cons_succ, List.setIfInBounds_toArray, List.set_cons_zero, List.set_cons_succ]
  refine wpAnyH_take (i := 5) (v := ?v6) rfl (by kernel_rfl) (by kernel_rfl) (by kernel_rfl) (fun _ _ _ h => h) (Or.inl ⟨by rfl, ?hy6⟩) (by assumption) ?rest6
  case hy6 => (intro w' hSw; dsimp only [List.getElem_toArray, List.getElem_cons_zero, List.getElem_cons_succ] at hSw ⊢; go_simp; try (with_reducible rfl))
  try simp only [Act.put, List.getElem_toArray, List.getElem_cons_zero, List.getElem_cons_succ, List.setIfInBounds_toArray, List.set_cons_zero, List.set_cons_succ]
  refine wpAnyH_ready (rs := [6]) (by kernel_rfl) (by simp) ?_
  refine AllReadyH.cons rfl (fun K hK => ?_) AllReadyH.nil
  dsimp only [List.getElem_toArray, List.getElem_cons_zero, List.getElem_cons_succ]
  go_simp
  refine (loseName_calls m.length H14.out x 0 _ _ _ us5 (rs.take kn ++ rs.drop (kn + 1)) cs m w.heap.size V0 HXM.out GL.out (by omega) D7d.out AB7d.out.size).mono ?_
  rw [← ES.out]
  rintro e' w8 ⟨y8, us8, rfl, d8, bl8, kb8⟩
  obtain ⟨ay8, ky8, hy8⟩ := row_slice (d8.rowE 2 (by simp))
  simp only [List.getD_cons_zero, List.getD_cons_succ] at hy8
  obtain ⟨LV, hLV⟩ : ∃ L, L = S.2.2.length := ⟨_, rfl⟩
  rw [← hLV] at hy8
  subst hy8
  clear hLV
  have GB8 := hide (kb8 _ _ _ (by decide) (by decide) (by decide) GB7d.out)
  have XB8 := hide (kb8 _ _ _ (by decide) (by decide) (by decide) XB7d.out)
  have AB8 := hide (AB7d.out.trans bl8)
  have D8 := hide d8
  have fs8 := FD.out _ kb8 bl8
  clear d8 bl8 kb8 D7d AB7d GB7d XB7d
  refine hK.out _ _ (fs8) (fun hHeld => ?_)
  clear hK K
  try simp only [Act.put, List.getElem_toArray, List.getElem_cons_zero, List.getElem_cons_succ, List.setIfInBounds_toArray, List.set_cons_zero, List.set_cons_succ]
  clear fs8 FD
  refine wpAnyH_take (i := 7) (v := ?v7) rfl (by kernel_rfl) (by kernel_rfl) (by kernel_rfl) (fun _ _ _ h => h) (Or.inl ⟨by rfl, ?hy7⟩) (by assumption) ?rest7
  case hy7 => (intro w' hSw; dsimp only [List.getElem_toArray, List.getElem_cons_zero, List.getElem_cons_succ] at hSw ⊢; go_simp; try (with_reducible rfl))
  try simp only [Act.put, List.getElem_toArray, List.getElem_cons_zero, List.getElem_cons_succ, List.setIfInBounds_toArray, List.set_cons_zero, List.set_cons_succ]
  refine wpAnyH_done (by kernel_rfl) ?_ _
  refine NoPanic.normal ?_
  clear hHeld
  obtain ⟨gc0, gc1, gc2⟩ := GB8.out.c3
  have xb9 := XB8.out
  obtain ⟨jc0, jc1, jc2⟩ := xb9.c3
  have jf0 := xb9.frozen 0
  have jf1 := xb9.frozen 1
  have jf2 := xb9.frozen 2
  have xb10 := xb9.store3 (.slice ap4 m.length cp4) (.slice (some ⟨gr, 0, none⟩) L6 cr4) (.slice ac4 cs.length cc4)
  have d10 := ((D8.out.atBox xb9 (by decide) (by decide) 0 (.slice ap4 m.length cp4)).atBox (xb9.set 0 (.slice ap4 m.length cp4)) (by decide) (by decide) 1 (.slice (some ⟨gr, 0, none⟩) L6 cr4)).atBox ((xb9.set 0 (.slice ap4 m.length cp4)).set 1 (.slice (some ⟨gr, 0, none⟩) L6 cr4)) (by decide) (by decide) 2 (.slice ac4 cs.length cc4)
  have b10 := ((AB8.out.setCell (p := ⟨w.heap.size + 1, 0, none⟩) (by show w.heap.size ≤ w.heap.size + 1; omega) (.slice ap4 m.length cp4)).setCell (p := ⟨w.heap.size + 1, 1, none⟩) (by show w.heap.size ≤ w.heap.size + 1; omega) (.slice (some ⟨gr, 0, none⟩) L6 cr4)).setCell (p := ⟨w.heap.size + 1, 2, none⟩) (by show w.heap.size ≤ w.heap.size + 1; omega) (.slice ac4 cs.length cc4)
  have D10 := hide (d10.wider (lo' := w.heap.size) (hi' := (((w8.setCell ⟨w.heap.size + 1, 0, none⟩ (.slice ap4 m.length cp4)).setCell ⟨w.heap.size + 1, 1, none⟩ (.slice (some ⟨gr, 0, none⟩) L6 cr4)).setCell ⟨w.heap.size + 1, 2, none⟩ (.slice ac4 cs.length cc4)).heap.size) (Nat.le_refl _) (by simp))
  have X10 := hide xb10
  have B10 := hide b10
  clear xb9 xb10 d10 b10
  go_wp2
  exact bodyPost_ret (res_gr3 rfl _ _ (w.heap.size + 1) _ _ _ (0, 0) rfl X10.out) rfl ⟨_, _, _, _, rfl, ⟨_, by rw [EL.out]; exact D10.out⟩, B10.out⟩
end Go.Proofs.Ytakhggnbhjoojaa

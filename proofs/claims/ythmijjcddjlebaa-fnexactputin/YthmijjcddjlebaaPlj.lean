/-
  PutIn by the model. The contract says what it asks.
-/
import Derived.Test.YthmijjcddjlebaaPli
namespace Go.Proofs.Ythmijjcddjlebaa
open Go.RowKit
set_option linter.unusedVariables false

theorem own_ints4 {w : World} {a b c d : Int} : Own (w.alloc (.cells #[.int .i64 a, .int .i64 b, .int .i64 c, .int .i64 d] 3)) w.heap.size (.slice (some ⟨w.heap.size, 0, none⟩) 4 4) [a, b, c, d] := by
  have := own_of_block (w := w.alloc (.cells #[.int .i64 a, .int .i64 b, .int .i64 c, .int .i64 d] 3)) (base := w.heap.size) (g := w.heap.size) (zs := [a, b, c, d]) (BoxAt.new w _ _) (Nat.le_refl _) (by unfold maxLen; simp)
  exact this
theorem own_nil0 {w : World} : Own (w.alloc (.cells #[] 3)) w.heap.size (.slice (some ⟨w.heap.size, 0, none⟩) 0 0) [] := by
  have := own_of_block (w := w.alloc (.cells #[] 3)) (base := w.heap.size) (g := w.heap.size) (zs := []) (BoxAt.new w _ _) (Nat.le_refl _) (by unfold maxLen; simp)
  exact this
theorem own_four {w : World} {lo : Nat} {v : Value} {a b c d : Int} (h : Own w lo v [a, b, c, d]) : ∃ g k, v = .slice (some ⟨g, 0, none⟩) 4 k := by
  obtain ⟨g, k, e, _⟩ := own_put h (n := 0) (by simp)
  exact ⟨g, k, e⟩
/-- A branch in a variable: its box, its row; blocks below B are others'. -/
structure BV (w : World) (B g g1 k1 : Nat) (z : Bool) (L : List Int) : Prop where
  box : BoxAt w g #[.slice (some ⟨g1, 0, none⟩) 4 k1, .bool z] 104
  row : Own w B (.slice (some ⟨g1, 0, none⟩) 4 k1) L
  low : B ≤ g
theorem Chg.ofLow {B : Nat} {w w' : World} (h : Below B w w') : Chg B w.heap.size w w' := ⟨h.os, h.tape, h.output, h.size, fun k hk hd => h.block k (by omega)⟩
section
variable {w w' : World} {B g g1 k1 : Nat} {z : Bool} {L : List Int}
theorem BV.below (h : BV w B g g1 k1 z L) (hb : Below w.heap.size w w') : BV w' B g g1 k1 z L := ⟨h.box.below hb, Own.below h.row hb, h.low⟩
theorem BV.lower {M : Nat} (h : BV w B g g1 k1 z L) (hb : Below M w w') (h1 : g < M) (h2 : g1 < M) : BV w' B g g1 k1 z L :=
  ⟨h.box.chg (Chg.ofLow hb) (.inl h1), ownsRow_chg (hi := M) h.row (fun k hk => (show g1 = k by simpa [Value.ownBlock] using hk) ▸ h2) (Chg.ofLow hb) (.inl (Nat.le_refl _)), h.low⟩
theorem BV.g1lo (h : BV w B g g1 k1 z L) : B ≤ g1 ∧ g1 < w.heap.size := World.ownsRow.lt h.row g1 rfl
/-- A place of the row is written. -/
theorem BV.put {n : Nat} (h : BV w B g g1 k1 z L) (hn : n < L.length) : w.frozen? ⟨g1, n, none⟩ = false ∧ w.cell? ⟨g1, n, none⟩ = some (.int .i64 (L.getD n 0)) ∧ ∀ y : Int, BV (w.setCell ⟨g1, n, none⟩ (.int .i64 y)) B g g1 k1 z (L.set n y) := by
  obtain ⟨c, f, put⟩ := own_putAt h.row hn
  exact ⟨f, c, fun y => ⟨h.box.kept (put y).2 (h.box.offT h.row (by decide)), (put y).1, h.low⟩⟩
end

set_option linter.unusedSimpArgs false in
set_option maxRecDepth 100000 in
set_option maxHeartbeats 12800000 in
theorem sPutIn_calls (p r : Value) (m : List Nd) (vs : List Int) (x k v : Int) (t : Bool) (w : World) (h : RdP w p r m vs) (ht : t = true ↔ puOk m vs x k v) :
    Calls Try.prog 37 #[.agg #[p, r], .int .i64 x, .int .i64 k, .int .i64 v] w fun e' w' => ∃ p' r', e' = .returned (.tuple #[.agg #[p', r'], .bool t]) ∧ TPol p' r' (gX t (puX m vs x.toNat k.toNat v)) (gX t (puY m vs)) w.heap.size w'.heap.size w' ∧ Below w.heap.size w w' := by
  have R := hide h
  obtain ⟨⟨ap, cp, rfl, hq1, hq2, _⟩, ⟨ar, cr, rfl, hr1, hr2, _⟩⟩ := h
  have hrm : vs.length ≤ maxLen := by omega
  have hmm : m.length ≤ maxLen := by omega
  unfold maxLen at hrm hmm
  have A0 := hide (Hand.twoN w #[.slice ap m.length cp, .slice ar vs.length cr] nilP 43 43)
  obtain ⟨g0, hg⟩ := bol_of (thP m vs x)
  obtain ⟨X, hX⟩ : ∃ X, X = gX t (puX m vs x.toNat k.toNat v) := ⟨_, rfl⟩
  obtain ⟨Y, hY⟩ : ∃ Y, Y = gX t (puY m vs) := ⟨_, rfl⟩
  rw [← hX, ← hY]
  have HX := hide hX
  have HY := hide hY
  have HG := hide hg
  have HT := hide ht
  clear hg ht hr1 hr2 hX hY hq1 hq2
  go_enter Try.func37, Try.ntmps37
  go_wp2_with fail
  refine (l11There_calls _ _ m vs x g0 _ (R.out.below A0.out.below) HG.out).mono ?_
  rintro e' w1 ⟨rfl, b0⟩
  have A1 := hide (A0.out.step b0)
  have R1 := hide (R.out.below A1.out.below)
  clear b0 A0
  obtain ⟨p0, p1⟩ := (A1.out.atBox 1 rfl).c2
  cases g0 with
  | false =>
    obtain rfl := bol_no HT.out (fun h => absurd (HG.out.2 h.1) (by simp))
    obtain rfl : X = [] := HX.out
    obtain rfl : Y = [] := HY.out
    have x9 := A1.out.atBox 0 rfl
    obtain ⟨z0, z1⟩ := x9.c2
    have f0 := x9.frozen 0
    have f1 := x9.frozen 1
    have A9 := hide (A1.out.store2 0 rfl nilRow nilRow)
    clear x9 A1
    go_wp2
    exact bodyPost_ret (res_pl2 rfl _ _ (w.heap.size + 1) _ _ (0, 0) rfl (A9.out.atBox 0 rfl)) rfl ⟨_, _, rfl, TPol.nil _ _ _, A9.out.below⟩
  | true =>
    have TH := hide (HG.out.1 rfl)
    clear HG
    go_wp2_with fail
    refine (l11Key_calls k _).mono ?_
    rintro e' w2 ⟨rfl, rfl⟩
    by_cases hk : keyOk k
    case neg =>
      obtain rfl := bol_no HT.out (fun h => hk h.2.1)
      rw [decide_eq_false hk]
      clear hk
      obtain rfl : X = [] := HX.out
      obtain rfl : Y = [] := HY.out
      have x9 := A1.out.atBox 0 rfl
      obtain ⟨z0, z1⟩ := x9.c2
      have f0 := x9.frozen 0
      have f1 := x9.frozen 1
      have A9 := hide (A1.out.store2 0 rfl nilRow nilRow)
      clear x9 A1
      go_wp2
      exact bodyPost_ret (res_pl2 rfl _ _ (w.heap.size + 1) _ _ (0, 0) rfl (A9.out.atBox 0 rfl)) rfl ⟨_, _, rfl, TPol.nil _ _ _, A9.out.below⟩
    rw [decide_eq_true hk]
    have HK := hide hk
    clear hk
    by_cases hvv : vOk v
    case neg =>
      obtain rfl := bol_no HT.out (fun h => hvv h.2.2.1)
      have HVV := hide hvv
      clear hvv
      go_wp2_with fail
      refine (l1In_no v 0 9999 _ (by have := HVV.out; unfold vOk at this; omega)).mono ?_
      rintro e' w2 ⟨rfl, rfl⟩
      obtain rfl : X = [] := HX.out
      obtain rfl : Y = [] := HY.out
      have x9 := A1.out.atBox 0 rfl
      obtain ⟨z0, z1⟩ := x9.c2
      have f0 := x9.frozen 0
      have f1 := x9.frozen 1
      have A9 := hide (A1.out.store2 0 rfl nilRow nilRow)
      clear x9 A1
      go_wp2
      exact bodyPost_ret (res_pl2 rfl _ _ (w.heap.size + 1) _ _ (0, 0) rfl (A9.out.atBox 0 rfl)) rfl ⟨_, _, rfl, TPol.nil _ _ _, A9.out.below⟩
    have HVV := hide hvv
    clear hvv
    go_wp2_with fail
    refine (l1In_yes v 0 9999 _ HVV.out.1 HVV.out.2).mono ?_
    rintro e' w2 ⟨rfl, rfl⟩
    have h200 : m.length ≤ 200 := TH.out.1.1.1
    by_cases hsz : m.length + 2 ≤ 200
    case neg =>
      obtain rfl := bol_no HT.out (fun h => hsz h.2.2.2.1)
      have hsz' : (200 : Int) < (m.length : Int) + 2 := by omega
      clear hsz
      obtain rfl : X = [] := HX.out
      obtain rfl : Y = [] := HY.out
      have x9 := A1.out.atBox 0 rfl
      obtain ⟨z0, z1⟩ := x9.c2
      have f0 := x9.frozen 0
      have f1 := x9.frozen 1
      have A9 := hide (A1.out.store2 0 rfl nilRow nilRow)
      clear x9 A1
      go_wp2
      exact bodyPost_ret (res_pl2 rfl _ _ (w.heap.size + 1) _ _ (0, 0) rfl (A9.out.atBox 0 rfl)) rfl ⟨_, _, rfl, TPol.nil _ _ _, A9.out.below⟩
    have hsz' : ¬ (200 : Int) < (m.length : Int) + 2 := by omega
    by_cases h40 : vs.length = 40
    case pos =>
      obtain rfl := bol_no HT.out (fun h => h.2.2.2.2 h40)
      have h40b : ((vs.length : Int) == 40) = true := by simp; omega
      clear h40
      obtain rfl : X = [] := HX.out
      obtain rfl : Y = [] := HY.out
      have x9 := A1.out.atBox 0 rfl
      obtain ⟨z0, z1⟩ := x9.c2
      have f0 := x9.frozen 0
      have f1 := x9.frozen 1
      have A9 := hide (A1.out.store2 0 rfl nilRow nilRow)
      clear x9 A1
      go_wp2
      exact bodyPost_ret (res_pl2 rfl _ _ (w.heap.size + 1) _ _ (0, 0) rfl (A9.out.atBox 0 rfl)) rfl ⟨_, _, rfl, TPol.nil _ _ _, A9.out.below⟩
    obtain rfl : t = true := HT.out.2 ⟨TH.out, HK.out, HVV.out, hsz, h40⟩
    have h40b : ((vs.length : Int) == 40) = false := by simp; omega
    have th := TH.out
    have hk := HK.out
    obtain ⟨ver, rfl⟩ : ∃ n : Nat, x = (n : Int) := ⟨x.toNat, by have := th.2.1; omega⟩
    obtain ⟨key, rfl⟩ : ∃ n : Nat, k = (n : Int) := ⟨k.toNat, by have := hk.1; omega⟩
    have OK := hide th.1
    have SZ := hide (okP_sz th.1)
    have hv : ver < vs.length := by have := th.2.2; omega
    have hv' : (ver : Int) < (vs.length : Int) := by omega
    have hvs : vs.length ≤ 40 := th.1.1.2
    have hk16 : key < 16 := by have := hk.2; omega
    obtain ⟨hs, a, b, c, d, he, hkb⟩ := gd_stem th.1 ver hv
    obtain ⟨y, hy⟩ : ∃ y, [a, b, c, d].getD (key / 4) 0 = y := ⟨_, rfl⟩
    have hsy := hkb (key / 4) (by omega)
    rw [hy] at hsy
    obtain ⟨e, f, g, h', hl, _⟩ := gd_leaf th.1 y hsy
    have LN : Hid (lfN m vs ver key = y) := by show _ = _; rw [lfN, he, hy]
    have eq4 := quo4 key
    have er4 := rem4 key
    obtain ⟨q4, hq4⟩ : ∃ q, q = key / 4 := ⟨_, rfl⟩
    obtain ⟨q5, hq5⟩ : ∃ q, q = key % 4 := ⟨_, rfl⟩
    obtain ⟨e1, f1, g1, h1, hl1⟩ : ∃ a b c d, [e, f, g, h'].set q5 v = [a, b, c, d] := four_of (by simp)
    obtain ⟨a1, b1, c1, d1, hs1⟩ : ∃ x y z u, [a, b, c, d].set q4 (m.length : Int) = [x, y, z, u] := four_of (by simp)
    have HX2 : Hid (X = m ++ [([e1, f1, g1, h1], true), ([a1, b1, c1, d1], false)]) := by
      show _ = _
      have e1' : leafL m vs ver key v = [e1, f1, g1, h1] := by rw [leafL, lfN, he, hy, hl, ← hq5, hl1]
      have e2' : stemL m vs ver key = [a1, b1, c1, d1] := by rw [stemL, he, ← hq4, hs1]
      have : X = puX m vs ver key v := HX.out
      rw [this, puX, e1', e2']
    have HY2 : Hid (Y = vs ++ [(m.length : Int) + 1]) := HY.out
    rw [← hq4] at eq4
    rw [← hq5] at er4
    have hq43 : (q4 : Int) ≤ 3 := by omega
    have hq53 : (q5 : Int) ≤ 3 := by omega
    have hq44 : (q4 : Int) < 4 := by omega
    have hq54 : (q5 : Int) < 4 := by omega
    have Q4 : Hid (q4 < 4) := by have : q4 < 4 := by omega
                                 exact this
    have Q5 : Hid (q5 < 4) := by have : q5 < 4 := by omega
                                 exact this
    obtain ⟨xv, hxv⟩ : ∃ xv, xv = vs.getD ver 0 := ⟨_, rfl⟩
    rw [← hxv] at hs he
    have HXV := hide hxv
    have HS := hide hs
    have HE := hide he
    have HSY := hide hsy
    have HL := hide hl
    have HL1 := hide hl1
    have HS1 := hide hs1
    have YV : Hid (xv = -1 → y = -1) := by
      intro e0
      rw [e0, stmF, if_pos rfl] at he
      simp only [List.cons.injEq, and_true] at he
      obtain ⟨rfl, rfl, rfl, rfl⟩ := he
      rw [← hy, ← hq4]
      have : q4 < 4 := by omega
      match q4, this with
      | 0, _ => rfl
      | 1, _ => rfl
      | 2, _ => rfl
      | 3, _ => rfl
    clear th hk TH HK HVV HT hs he hkb hy hsy hl hl1 hs1 hq4 hq5 HX HY h40 hxv
    go_wp2_with fail
    refine (l11Own_calls _ _ m vs _ R1.out SZ.out).mono ?_
    rintro e' w4 ⟨p4, r4, rfl, d4, b4⟩
    obtain ⟨ap4, cp4, ar4, cr4, rfl, rfl⟩ := d4.sls
    obtain ⟨us, pv⟩ := PV.start A1.out (i := 1) (j := 0) rfl rfl b4 d4 (by omega)
    obtain ⟨w5, hw5⟩ : ∃ w5, w5 = w4.alloc (.cells #[.slice ap4 m.length cp4, .slice ar4 vs.length cr4] 43) := ⟨_, rfl⟩
    obtain ⟨gO, hgO⟩ : ∃ gO, gO = w4.heap.size := ⟨_, rfl⟩
    rw [← hw5, ← hgO] at pv
    have W5 : Hid (w4.alloc (.cells #[.slice ap4 m.length cp4, .slice ar4 vs.length cr4] 43) = w5) := hw5.symm
    have GO := hide hgO.symm
    have PV5 := hide pv
    clear b4 d4 pv hw5 hgO p0 p1 A1 R1
    go_upto_region 4 with fail
    rw [W5.out, GO.out]
    go_upto_region 5 with fail
    have bv6 : BV ((w5.alloc (.cells #[.int .i64 0, .int .i64 0, .int .i64 0, .int .i64 0] 3)).alloc (.cells #[.slice (some ⟨w5.heap.size, 0, none⟩) 4 4, .bool true] 104)) w5.heap.size (w5.heap.size + 1) w5.heap.size 4 true [0, 0, 0, 0] := by
      refine ⟨?_, Own.below own_ints4 (below_box _ _), by omega⟩
      have := BoxAt.new (w5.alloc (.cells #[.int .i64 0, .int .i64 0, .int .i64 0, .int .i64 0] 3)) #[.slice (some ⟨w5.heap.size, 0, none⟩) 4 4, .bool true] 104
      rwa [World.size_alloc] at this
    have bw6 : Below w5.heap.size w5 ((w5.alloc (.cells #[.int .i64 0, .int .i64 0, .int .i64 0, .int .i64 0] 3)).alloc (.cells #[.slice (some ⟨w5.heap.size, 0, none⟩) 4 4, .bool true] 104)) := (below_box _ _).trans ((below_box _ _).mono (by simp))
    obtain ⟨w6, hw6⟩ : ∃ u, u = ((w5.alloc (.cells #[.int .i64 0, .int .i64 0, .int .i64 0, .int .i64 0] 3)).alloc (.cells #[.slice (some ⟨w5.heap.size, 0, none⟩) 4 4, .bool true] 104)) := ⟨_, rfl⟩
    rw [← hw6] at bv6 bw6 ⊢
    obtain ⟨gL, hgL⟩ : ∃ u, u = w5.heap.size + 1 := ⟨_, rfl⟩
    rw [← hgL] at bv6 ⊢
    have BV6 := hide bv6
    have BW6 := hide bw6
    clear hw6 hgL bv6 bw6
    obtain ⟨p0, p1⟩ := (PV5.out.step BW6.out).arg.c2
    go_wp2_with fail
    refine (l11Leaf_calls _ _ m vs ver key y _ (R.out.below (PV5.out.step BW6.out).low) OK.out hv hk16 LN.out).mono ?_
    rintro e' w7 ⟨rfl, b7⟩
    have BV7 := hide (BV6.out.below b7)
    have BW7 := hide (BW6.out.trans (b7.mono BW6.out.size))
    clear b7 p0 p1 BV6 BW6
    obtain ⟨p0, p1⟩ := (PV5.out.step BW7.out).arg.c2
    by_cases hy0 : 0 ≤ y
    case neg =>
      obtain rfl : y = -1 := HSY.out.resolve_right (fun h => by have := h.1; omega)
      obtain ⟨rfl, rfl, rfl, rfl⟩ : 0 = e ∧ 0 = f ∧ 0 = g ∧ 0 = h' := by simpa [lfF] using HL.out
      go_upto_region 8 with fail
      obtain ⟨sf, sc, sput⟩ := BV7.out.put (n := q5) (by simpa using Q5.out)
      have bvb := sput v
      rw [HL1.out] at bvb
      obtain ⟨lx0, lx1⟩ := BV7.out.box.c2
      have bwb := BW7.out.setCell (p := ⟨w5.heap.size, q5, none⟩) (by exact BV7.out.g1lo.1) (.int .i64 v)
      have BVB := hide bvb
      have BWB := hide bwb
      clear sput bvb bwb
      go_upto_region 9 with fail
      obtain ⟨wB, hwB⟩ : ∃ u, u = w7.setCell ⟨w5.heap.size, q5, none⟩ (.int .i64 v) := ⟨_, rfl⟩
      have bvb := BVB.out
      have bwb := BWB.out
      rw [← hwB] at bvb bwb ⊢
      have BV8 := hide bvb
      have BW8 := hide bwb
      clear hwB bvb bwb BVB BWB BV7 BW7 sf sc lx0 lx1
      go_upto_region 10 with fail
      have bt : BV ((wB.alloc (.cells #[.int .i64 (-1), .int .i64 (-1), .int .i64 (-1), .int .i64 (-1)] 3)).alloc (.cells #[.slice (some ⟨wB.heap.size, 0, none⟩) 4 4, .bool false] 104)) wB.heap.size (wB.heap.size + 1) wB.heap.size 4 false [-1, -1, -1, -1] := by
        refine ⟨?_, Own.below own_ints4 (below_box _ _), by omega⟩
        have := BoxAt.new (wB.alloc (.cells #[.int .i64 (-1), .int .i64 (-1), .int .i64 (-1), .int .i64 (-1)] 3)) #[.slice (some ⟨wB.heap.size, 0, none⟩) 4 4, .bool false] 104
        rwa [World.size_alloc] at this
      have bw : Below wB.heap.size wB ((wB.alloc (.cells #[.int .i64 (-1), .int .i64 (-1), .int .i64 (-1), .int .i64 (-1)] 3)).alloc (.cells #[.slice (some ⟨wB.heap.size, 0, none⟩) 4 4, .bool false] 104)) := (below_box _ _).trans ((below_box _ _).mono (by simp))
      obtain ⟨wC, hwC⟩ : ∃ u, u = ((wB.alloc (.cells #[.int .i64 (-1), .int .i64 (-1), .int .i64 (-1), .int .i64 (-1)] 3)).alloc (.cells #[.slice (some ⟨wB.heap.size, 0, none⟩) 4 4, .bool false] 104)) := ⟨_, rfl⟩
      rw [← hwC] at bt bw ⊢
      obtain ⟨gT, hgT⟩ : ∃ u, u = wB.heap.size + 1 := ⟨_, rfl⟩
      rw [← hgT] at bt ⊢
      have BT9 := hide bt
      have BM9 := hide bw
      clear hwC hgT bt bw
      have PVC := hide (PV5.out.step (BW8.out.trans (BM9.out.mono BW8.out.size)))
      obtain ⟨p0, p1⟩ := PVC.out.arg.c2
      obtain ⟨bv, ov, ear, cv⟩ := (R.out.below PVC.out.low).2.cellP ver hv
      subst ear
      rw [← HXV.out] at cv
      by_cases hx0 : 0 ≤ xv
      case neg =>
        obtain rfl : xv = -1 := HS.out.resolve_right (fun h => by have := h.1; omega)
        obtain ⟨rfl, rfl, rfl, rfl⟩ : -1 = a ∧ -1 = b ∧ -1 = c ∧ -1 = d := by simpa [stmF] using HE.out
        go_upto_region 13 with fail
        have BTA := hide BT9.out
        have BMA := hide BM9.out
        obtain ⟨wD, rfl⟩ : ∃ u, u = wC := ⟨_, rfl⟩
        obtain ⟨sf, sc, sput⟩ := BTA.out.put (n := q4) (by simpa using Q4.out)
        have btb := sput (m.length : Int)
        rw [HS1.out] at btb
        obtain ⟨tx0, tx1⟩ := BTA.out.box.c2
        have bmb := BMA.out.setCell (p := ⟨wB.heap.size, q4, none⟩) (by exact BTA.out.g1lo.1) (.int .i64 (m.length : Int))
        have BTB := hide btb
        have BMB := hide bmb
        obtain ⟨o0, o1⟩ := (PV5.out.step (BW8.out.trans (BMA.out.mono BW8.out.size))).out.c2
        clear sput btb bmb
        go_upto_region 14 with fail
        obtain ⟨wE, hwE⟩ : ∃ u, u = wD.setCell ⟨wB.heap.size, q4, none⟩ (.int .i64 (m.length : Int)) := ⟨_, rfl⟩
        have btb := BTB.out
        have bmb := BMB.out
        rw [← hwE] at btb bmb ⊢
        have BTE := hide btb
        have BME := hide bmb
        clear hwE btb bmb BTB BMB BTA BMA sf sc tx0 tx1 o0 o1
        have glt : gL < wB.heap.size := BV8.out.box.lt
        have grt := BV8.out.g1lo.2
        have BVE := hide (BV8.out.lower BME.out glt grt)
        have PVE := hide (PV5.out.step (BW8.out.trans (BME.out.mono BW8.out.size)))
        obtain ⟨o0, o1⟩ := PVE.out.out.c2
        obtain ⟨lx0, lx1⟩ := BVE.out.box.c2
        obtain ⟨tx0, tx1⟩ := BTE.out.box.c2
        obtain ⟨wF, hwF⟩ : ∃ u, u = wE.alloc (.cells #[.slice (some ⟨w5.heap.size, 0, none⟩) 4 4, .bool true, .slice (some ⟨wB.heap.size, 0, none⟩) 4 4, .bool false] 104) := ⟨_, rfl⟩
        have bF : Below wE.heap.size wE wF := by rw [hwF]; exact below_box _ _
        have xF : BoxAt wF wE.heap.size #[.slice (some ⟨w5.heap.size, 0, none⟩) 4 4, .bool true, .slice (some ⟨wB.heap.size, 0, none⟩) 4 4, .bool false] 104 := by rw [hwF]; exact BoxAt.new _ _ _
        have WF : Hid (wE.alloc (.cells #[.slice (some ⟨w5.heap.size, 0, none⟩) 4 4, .bool true, .slice (some ⟨wB.heap.size, 0, none⟩) 4 4, .bool false] 104) = wF) := hwF.symm
        have BF := hide (BW8.out.trans ((BME.out.trans (bF.mono BME.out.size)).mono BW8.out.size))
        have XF := hide xF
        have S1 := hide (Own.below BVE.out.row bF)
        have S2 := hide (Own.below BTE.out.row bF)
        have MF : Hid (wB.heap.size ≤ wF.heap.size) := Nat.le_trans BME.out.size bF.size
        have GR := hide grt
        clear bF xF hwF glt grt
        go_wp2_with (refine wpList_app_br2 rfl _ _ rfl w.heap.size w5.heap.size wB.heap.size (.slice ap4 m.length cp4) rfl _ us _ m (by rw [WF.out]; exact PV5.out.br.below BF.out) wE.heap.size rfl (some ⟨w5.heap.size, 0, none⟩) (some ⟨wB.heap.size, 0, none⟩) 4 4 4 4 ([e1, f1, g1, h1], true) ([a1, b1, c1, d1], false) (by rw [WF.out]; exact XF.out) (by rw [WF.out]; exact ownsRow_mono S1.out PV5.out.low.size) (by rw [WF.out]; exact ownsRow_mono S2.out (Nat.le_trans PV5.out.low.size BW8.out.size)) (fun b hb => (show w5.heap.size = b by simpa [Value.ownBlock] using hb) ▸ ⟨GR.out, BV8.out.g1lo.1⟩) (fun b hb => (show wB.heap.size = b by simpa [Value.ownBlock] using hb) ▸ BTE.out.g1lo.1) BW8.out.size (by rw [WF.out]; exact MF.out) (by omega) (by rw [WF.out]; exact Nat.le_trans PV5.out.low.size BF.out.size) ?_)
        rw [WF.out]
        intro v6 w6 n6 g6
        have PVF := PV5.out.step BF.out
        obtain ⟨bo, pv8⟩ := PVF.appB n6 g6
        obtain ⟨va6, vc6, hv6⟩ := n6.slice
        obtain ⟨L6, hL6⟩ : ∃ L, L = (m ++ [([e1, f1, g1, h1], true), ([a1, b1, c1, d1], false)]).length := ⟨_, rfl⟩
        rw [← hL6] at hv6
        subst hv6
        have L6e : (L6 : Int) - 1 = (m.length : Int) + 1 := by rw [hL6]; simp; omega
        have L6b : L6 ≤ 300 := by rw [hL6]; simp; omega
        obtain ⟨q0, q1⟩ := bo.c2
        have qf := bo.frozen 0
        have PV8 := hide pv8
        clear n6 g6 bo pv8 hL6 PVF PVE PVC S1 S2 XF BVE BTE o0 o1 lx0 lx1 tx0 tx1 p0 p1 cv
        go_upto_region 15 with fail
        obtain ⟨w9, hw9⟩ : ∃ u, u = w6.setCell ⟨gO, 0, none⟩ (.slice va6 L6 vc6) := ⟨_, rfl⟩
        have pv8 := PV8.out
        rw [← hw9] at pv8 ⊢
        clear hw9 PV8 q0 q1 qf
        obtain ⟨o0, o1⟩ := pv8.out.c2
        have PV9 := hide (pv8.step (below_box w9 (.cells #[.int .i64 ((m.length : Int) + 1)] 3)))
        have RX : Hid (Rd (w9.alloc (.cells #[.int .i64 ((m.length : Int) + 1)] 3)) (.slice (some ⟨w9.heap.size, 0, none⟩) 1 1) [(m.length : Int) + 1]) := rd_singleR
        clear pv8
        go_wp2_with (refine wpList_app_int rfl _ _ rfl w.heap.size (.slice ar4 vs.length cr4) rfl vs (PV9.out.br.rowE 0 (by simp)) (.slice (some ⟨w9.heap.size, 0, none⟩) 1 1) rfl [(m.length : Int) + 1] RX.out (by simp only [List.length_singleton]; omega) PV9.out.low.size ?_)
        intro v7 w7 o7 g7 at7
        obtain ⟨bo, pv7⟩ := PV9.out.appR o7 g7 (by rw [World.size_alloc]; exact at7)
        obtain ⟨q0, q1⟩ := bo.c2
        have qf := bo.frozen 1
        obtain ⟨a7, k7, hv7⟩ := row_slice o7
        obtain ⟨L7, hL7⟩ : ∃ L, L = (vs ++ [(m.length : Int) + 1]).length := ⟨_, rfl⟩
        rw [← hL7] at hv7
        subst hv7
        obtain ⟨s0, s1⟩ := pv7.out.c2
        obtain ⟨r0, r1⟩ := pv7.res.c2
        have rf0 := pv7.res.frozen 0
        have rf1 := pv7.res.frozen 1
        have fin := pv7.fin
        rw [← HX2.out, ← HY2.out] at fin
        have FIN := hide fin
        clear o7 g7 at7 bo pv7 PV9 RX o0 o1 hL7 fin
        go_wp2
        exact bodyPost_ret (res_pl2 rfl _ _ (w.heap.size + 1) _ _ (0, 0) rfl FIN.out.1) rfl ⟨_, _, rfl, FIN.out.2.1, FIN.out.2.2⟩
      obtain ⟨nx, rfl⟩ : ∃ n : Nat, xv = (n : Int) := ⟨xv.toNat, by omega⟩
      have hxnm : nx < m.length := by have := (HS.out.resolve_left (by omega)).2.1; omega
      obtain ⟨b3, o3, u3, ks3, z3, ea3, hkk3, hu3, c30, c31⟩ := (R.out.below PVC.out.low).1.at nx hxnm
      subst ea3
      have hxnm9 : (nx : Int) < (m.length : Int) := by omega
      obtain rfl : ks3 = [a, b, c, d] := by
        rw [← HE.out]
        unfold stmF
        rw [if_neg (by omega), Int.toNat_natCast, hkk3]
      obtain ⟨ua3, uc3, rfl⟩ : ∃ ua uc, u3 = .slice ua 4 uc := by
        obtain ⟨ua, uc, rfl, _, _⟩ := hu3.slc
        exact ⟨ua, uc, rfl⟩
      obtain ⟨wc8, hwc8⟩ : ∃ u, u = wC.alloc (.cells #[] 3) := ⟨_, rfl⟩
      have bc8 : Below wC.heap.size wC wc8 := by rw [hwc8]; exact below_box _ _
      have oc8 : Own wc8 wC.heap.size (.slice (some ⟨wC.heap.size, 0, none⟩) 0 0) [] := by rw [hwc8]; exact own_nil0
      have UC8 := hide (hu3.below bc8)
      have p38 := cell_below p0 (below_box wC (.cells #[] 3))
      have c38 := cell_below c30 (below_box wC (.cells #[] 3))
      have OC8 := hide oc8
      have WC8 : Hid (wC.alloc (.cells #[] 3) = wc8) := hwc8.symm
      have BC8 := hide bc8
      clear hu3 hkk3 oc8 bc8 hwc8
      go_wp2_with (refine wpList_app_int rfl _ _ rfl wC.heap.size (.slice (some ⟨wC.heap.size, 0, none⟩) 0 0) rfl [] (by rw [WC8.out]; exact OC8.out) (.slice ua3 4 uc3) rfl [a, b, c, d] (by rw [WC8.out]; exact UC8.out) (by simp) (by rw [WC8.out]; exact BC8.out.size) ?_)
      rw [WC8.out]
      intro v9 wc9 o9 g9 at9
      have o9' : Own wc9 wC.heap.size v9 [a, b, c, d] := o9
      obtain ⟨gU, kU, rfl⟩ := own_four o9'
      have b9 : Below wC.heap.size wC wc9 := BC8.out.grown g9 BC8.out.size (fun j hj => own_at1 (Nat.le_refl _) hj)
      have x9 := BT9.out.box.below b9
      obtain ⟨xl0, xl1⟩ := x9.c2
      have xf0 := x9.frozen 0
      have bm9 := BM9.out.trans (b9.mono BM9.out.size)
      have btA : BV (wc9.setCell ⟨gT, 0, none⟩ (.slice (some ⟨gU, 0, none⟩) 4 kU)) wB.heap.size gT gU kU false [a, b, c, d] :=
        ⟨by simpa using x9.set 0 (.slice (some ⟨gU, 0, none⟩) 4 kU), ownsRow_mono (World.ownsRow.kept o9' (grown_setCell wc9 gT 0 (.slice (some ⟨gU, 0, none⟩) 4 kU)) (.inr (x9.offT o9' (by decide)))) BM9.out.size, BT9.out.low⟩
      have BMX := hide (bm9.setCell (p := ⟨gT, 0, none⟩) (by exact BT9.out.low) (.slice (some ⟨gU, 0, none⟩) 4 kU))
      have BTX := hide btA
      clear o9 o9' g9 at9 b9 x9 bm9 btA c30 c31 OC8 UC8 BC8 p38 c38
      go_upto_region 13 with fail
      obtain ⟨wD, hwD⟩ : ∃ u, u = wc9.setCell ⟨gT, 0, none⟩ (.slice (some ⟨gU, 0, none⟩) 4 kU) := ⟨_, rfl⟩
      have bta := BTX.out
      have bma := BMX.out
      rw [← hwD] at bta bma ⊢
      have BTA := hide bta
      have BMA := hide bma
      clear hwD bta bma BTX BMX xl0 xl1 xf0
      obtain ⟨sf, sc, sput⟩ := BTA.out.put (n := q4) (by simpa using Q4.out)
      have btb := sput (m.length : Int)
      rw [HS1.out] at btb
      obtain ⟨tx0, tx1⟩ := BTA.out.box.c2
      have bmb := BMA.out.setCell (p := ⟨gU, q4, none⟩) (by exact BTA.out.g1lo.1) (.int .i64 (m.length : Int))
      have BTB := hide btb
      have BMB := hide bmb
      obtain ⟨o0, o1⟩ := (PV5.out.step (BW8.out.trans (BMA.out.mono BW8.out.size))).out.c2
      clear sput btb bmb
      go_upto_region 14 with fail
      obtain ⟨wE, hwE⟩ : ∃ u, u = wD.setCell ⟨gU, q4, none⟩ (.int .i64 (m.length : Int)) := ⟨_, rfl⟩
      have btb := BTB.out
      have bmb := BMB.out
      rw [← hwE] at btb bmb ⊢
      have BTE := hide btb
      have BME := hide bmb
      clear hwE btb bmb BTB BMB BTA BMA sf sc tx0 tx1 o0 o1
      have glt : gL < wB.heap.size := BV8.out.box.lt
      have grt := BV8.out.g1lo.2
      have BVE := hide (BV8.out.lower BME.out glt grt)
      have PVE := hide (PV5.out.step (BW8.out.trans (BME.out.mono BW8.out.size)))
      obtain ⟨o0, o1⟩ := PVE.out.out.c2
      obtain ⟨lx0, lx1⟩ := BVE.out.box.c2
      obtain ⟨tx0, tx1⟩ := BTE.out.box.c2
      obtain ⟨wF, hwF⟩ : ∃ u, u = wE.alloc (.cells #[.slice (some ⟨w5.heap.size, 0, none⟩) 4 4, .bool true, .slice (some ⟨gU, 0, none⟩) 4 kU, .bool false] 104) := ⟨_, rfl⟩
      have bF : Below wE.heap.size wE wF := by rw [hwF]; exact below_box _ _
      have xF : BoxAt wF wE.heap.size #[.slice (some ⟨w5.heap.size, 0, none⟩) 4 4, .bool true, .slice (some ⟨gU, 0, none⟩) 4 kU, .bool false] 104 := by rw [hwF]; exact BoxAt.new _ _ _
      have WF : Hid (wE.alloc (.cells #[.slice (some ⟨w5.heap.size, 0, none⟩) 4 4, .bool true, .slice (some ⟨gU, 0, none⟩) 4 kU, .bool false] 104) = wF) := hwF.symm
      have BF := hide (BW8.out.trans ((BME.out.trans (bF.mono BME.out.size)).mono BW8.out.size))
      have XF := hide xF
      have S1 := hide (Own.below BVE.out.row bF)
      have S2 := hide (Own.below BTE.out.row bF)
      have MF : Hid (wB.heap.size ≤ wF.heap.size) := Nat.le_trans BME.out.size bF.size
      have GR := hide grt
      clear bF xF hwF glt grt
      go_wp2_with (refine wpList_app_br2 rfl _ _ rfl w.heap.size w5.heap.size wB.heap.size (.slice ap4 m.length cp4) rfl _ us _ m (by rw [WF.out]; exact PV5.out.br.below BF.out) wE.heap.size rfl (some ⟨w5.heap.size, 0, none⟩) (some ⟨gU, 0, none⟩) 4 4 4 kU ([e1, f1, g1, h1], true) ([a1, b1, c1, d1], false) (by rw [WF.out]; exact XF.out) (by rw [WF.out]; exact ownsRow_mono S1.out PV5.out.low.size) (by rw [WF.out]; exact ownsRow_mono S2.out (Nat.le_trans PV5.out.low.size BW8.out.size)) (fun b hb => (show w5.heap.size = b by simpa [Value.ownBlock] using hb) ▸ ⟨GR.out, BV8.out.g1lo.1⟩) (fun b hb => (show gU = b by simpa [Value.ownBlock] using hb) ▸ BTE.out.g1lo.1) BW8.out.size (by rw [WF.out]; exact MF.out) (by omega) (by rw [WF.out]; exact Nat.le_trans PV5.out.low.size BF.out.size) ?_)
      rw [WF.out]
      intro v6 w6 n6 g6
      have PVF := PV5.out.step BF.out
      obtain ⟨bo, pv8⟩ := PVF.appB n6 g6
      obtain ⟨va6, vc6, hv6⟩ := n6.slice
      obtain ⟨L6, hL6⟩ : ∃ L, L = (m ++ [([e1, f1, g1, h1], true), ([a1, b1, c1, d1], false)]).length := ⟨_, rfl⟩
      rw [← hL6] at hv6
      subst hv6
      have L6e : (L6 : Int) - 1 = (m.length : Int) + 1 := by rw [hL6]; simp; omega
      have L6b : L6 ≤ 300 := by rw [hL6]; simp; omega
      obtain ⟨q0, q1⟩ := bo.c2
      have qf := bo.frozen 0
      have PV8 := hide pv8
      clear n6 g6 bo pv8 hL6 PVF PVE PVC S1 S2 XF BVE BTE o0 o1 lx0 lx1 tx0 tx1 p0 p1 cv
      go_upto_region 15 with fail
      obtain ⟨w9, hw9⟩ : ∃ u, u = w6.setCell ⟨gO, 0, none⟩ (.slice va6 L6 vc6) := ⟨_, rfl⟩
      have pv8 := PV8.out
      rw [← hw9] at pv8 ⊢
      clear hw9 PV8 q0 q1 qf
      obtain ⟨o0, o1⟩ := pv8.out.c2
      have PV9 := hide (pv8.step (below_box w9 (.cells #[.int .i64 ((m.length : Int) + 1)] 3)))
      have RX : Hid (Rd (w9.alloc (.cells #[.int .i64 ((m.length : Int) + 1)] 3)) (.slice (some ⟨w9.heap.size, 0, none⟩) 1 1) [(m.length : Int) + 1]) := rd_singleR
      clear pv8
      go_wp2_with (refine wpList_app_int rfl _ _ rfl w.heap.size (.slice ar4 vs.length cr4) rfl vs (PV9.out.br.rowE 0 (by simp)) (.slice (some ⟨w9.heap.size, 0, none⟩) 1 1) rfl [(m.length : Int) + 1] RX.out (by simp only [List.length_singleton]; omega) PV9.out.low.size ?_)
      intro v7 w7 o7 g7 at7
      obtain ⟨bo, pv7⟩ := PV9.out.appR o7 g7 (by rw [World.size_alloc]; exact at7)
      obtain ⟨q0, q1⟩ := bo.c2
      have qf := bo.frozen 1
      obtain ⟨a7, k7, hv7⟩ := row_slice o7
      obtain ⟨L7, hL7⟩ : ∃ L, L = (vs ++ [(m.length : Int) + 1]).length := ⟨_, rfl⟩
      rw [← hL7] at hv7
      subst hv7
      obtain ⟨s0, s1⟩ := pv7.out.c2
      obtain ⟨r0, r1⟩ := pv7.res.c2
      have rf0 := pv7.res.frozen 0
      have rf1 := pv7.res.frozen 1
      have fin := pv7.fin
      rw [← HX2.out, ← HY2.out] at fin
      have FIN := hide fin
      clear o7 g7 at7 bo pv7 PV9 RX o0 o1 hL7 fin
      go_wp2
      exact bodyPost_ret (res_pl2 rfl _ _ (w.heap.size + 1) _ _ (0, 0) rfl FIN.out.1) rfl ⟨_, _, rfl, FIN.out.2.1, FIN.out.2.2⟩
    obtain ⟨n, rfl⟩ : ∃ n : Nat, y = (n : Int) := ⟨y.toNat, by omega⟩
    have hnm : n < m.length := by have := (HSY.out.resolve_left (by omega)).2.1; omega
    obtain ⟨b2, o2, u, ks, z, rfl, hkk, hu, c0, c1⟩ := (R.out.below (PV5.out.step BW7.out).low).1.at n hnm
    have hnm' : (n : Int) < (m.length : Int) := by omega
    obtain rfl : ks = [e, f, g, h'] := by
      rw [← HL.out]
      unfold lfF
      rw [if_neg (by omega), Int.toNat_natCast, hkk]
    obtain ⟨ua, uc, rfl⟩ : ∃ ua uc, u = .slice ua 4 uc := by
      obtain ⟨ua, uc, rfl, _, _⟩ := hu.slc
      exact ⟨ua, uc, rfl⟩
    obtain ⟨w8, hw8⟩ : ∃ u, u = w7.alloc (.cells #[] 3) := ⟨_, rfl⟩
    have b8 : Below w7.heap.size w7 w8 := by rw [hw8]; exact below_box _ _
    have o8 : Own w8 w7.heap.size (.slice (some ⟨w7.heap.size, 0, none⟩) 0 0) [] := by rw [hw8]; exact own_nil0
    have U8 := hide (hu.below b8)
    have p08 := cell_below p0 (below_box w7 (.cells #[] 3))
    have c08 := cell_below c0 (below_box w7 (.cells #[] 3))
    have O8 := hide o8
    have W8 : Hid (w7.alloc (.cells #[] 3) = w8) := hw8.symm
    have B8 := hide b8
    clear hu hkk o8 b8 hw8
    go_wp2_with (refine wpList_app_int rfl _ _ rfl w7.heap.size (.slice (some ⟨w7.heap.size, 0, none⟩) 0 0) rfl [] (by rw [W8.out]; exact O8.out) (.slice ua 4 uc) rfl [e, f, g, h'] (by rw [W8.out]; exact U8.out) (by simp) (by rw [W8.out]; exact B8.out.size) ?_)
    rw [W8.out]
    intro v9 w9 o9 g9 at9
    have o9' : Own w9 w7.heap.size v9 [e, f, g, h'] := o9
    obtain ⟨gr, kr, rfl⟩ := own_four o9'
    have b9 : Below w7.heap.size w7 w9 := B8.out.grown g9 B8.out.size (fun j hj => own_at1 (Nat.le_refl _) hj)
    have x9 := BV7.out.box.below b9
    obtain ⟨xl0, xl1⟩ := x9.c2
    have xf0 := x9.frozen 0
    have bw9 := BW7.out.trans (b9.mono BW7.out.size)
    have bvA : BV (w9.setCell ⟨gL, 0, none⟩ (.slice (some ⟨gr, 0, none⟩) 4 kr)) w5.heap.size gL gr kr true [e, f, g, h'] :=
      ⟨by simpa using x9.set 0 (.slice (some ⟨gr, 0, none⟩) 4 kr), ownsRow_mono (World.ownsRow.kept o9' (grown_setCell w9 gL 0 (.slice (some ⟨gr, 0, none⟩) 4 kr)) (.inr (x9.offT o9' (by decide)))) BW7.out.size, BV7.out.low⟩
    have BWA := hide (bw9.setCell (p := ⟨gL, 0, none⟩) (by exact BV7.out.low) (.slice (some ⟨gr, 0, none⟩) 4 kr))
    have BVA := hide bvA
    clear o9 o9' g9 at9 b9 x9 bw9 bvA p0 p1 c0 c1 O8 U8 B8 p08 c08
    go_upto_region 8 with fail
    obtain ⟨wA, hwA⟩ : ∃ u, u = w9.setCell ⟨gL, 0, none⟩ (.slice (some ⟨gr, 0, none⟩) 4 kr) := ⟨_, rfl⟩
    have bva := BVA.out
    have bwa := BWA.out
    rw [← hwA] at bva bwa ⊢
    have BV7 := hide bva
    have BW7 := hide bwa
    clear hwA bva bwa BVA BWA xl0 xl1 xf0
    have hxm : xv ≠ -1 := fun e0 => by have := YV.out e0; omega
    obtain ⟨sf, sc, sput⟩ := BV7.out.put (n := q5) (by simpa using Q5.out)
    have bvb := sput v
    rw [HL1.out] at bvb
    obtain ⟨lx0, lx1⟩ := BV7.out.box.c2
    have bwb := BW7.out.setCell (p := ⟨gr, q5, none⟩) (by exact BV7.out.g1lo.1) (.int .i64 v)
    have BVB := hide bvb
    have BWB := hide bwb
    clear sput bvb bwb
    go_upto_region 9 with fail
    obtain ⟨wB, hwB⟩ : ∃ u, u = wA.setCell ⟨gr, q5, none⟩ (.int .i64 v) := ⟨_, rfl⟩
    have bvb := BVB.out
    have bwb := BWB.out
    rw [← hwB] at bvb bwb ⊢
    have BV8 := hide bvb
    have BW8 := hide bwb
    clear hwB bvb bwb BVB BWB BV7 BW7 sf sc lx0 lx1
    go_upto_region 10 with fail
    have bt : BV ((wB.alloc (.cells #[.int .i64 (-1), .int .i64 (-1), .int .i64 (-1), .int .i64 (-1)] 3)).alloc (.cells #[.slice (some ⟨wB.heap.size, 0, none⟩) 4 4, .bool false] 104)) wB.heap.size (wB.heap.size + 1) wB.heap.size 4 false [-1, -1, -1, -1] := by
      refine ⟨?_, Own.below own_ints4 (below_box _ _), by omega⟩
      have := BoxAt.new (wB.alloc (.cells #[.int .i64 (-1), .int .i64 (-1), .int .i64 (-1), .int .i64 (-1)] 3)) #[.slice (some ⟨wB.heap.size, 0, none⟩) 4 4, .bool false] 104
      rwa [World.size_alloc] at this
    have bw : Below wB.heap.size wB ((wB.alloc (.cells #[.int .i64 (-1), .int .i64 (-1), .int .i64 (-1), .int .i64 (-1)] 3)).alloc (.cells #[.slice (some ⟨wB.heap.size, 0, none⟩) 4 4, .bool false] 104)) := (below_box _ _).trans ((below_box _ _).mono (by simp))
    obtain ⟨wC, hwC⟩ : ∃ u, u = ((wB.alloc (.cells #[.int .i64 (-1), .int .i64 (-1), .int .i64 (-1), .int .i64 (-1)] 3)).alloc (.cells #[.slice (some ⟨wB.heap.size, 0, none⟩) 4 4, .bool false] 104)) := ⟨_, rfl⟩
    rw [← hwC] at bt bw ⊢
    obtain ⟨gT, hgT⟩ : ∃ u, u = wB.heap.size + 1 := ⟨_, rfl⟩
    rw [← hgT] at bt ⊢
    have BT9 := hide bt
    have BM9 := hide bw
    clear hwC hgT bt bw
    have PVC := hide (PV5.out.step (BW8.out.trans (BM9.out.mono BW8.out.size)))
    obtain ⟨p0, p1⟩ := PVC.out.arg.c2
    obtain ⟨bv, ov, ear, cv⟩ := (R.out.below PVC.out.low).2.cellP ver hv
    subst ear
    rw [← HXV.out] at cv
    have hx0 : 0 ≤ xv := by have := (HS.out.resolve_left hxm).1; omega
    obtain ⟨nx, rfl⟩ : ∃ n : Nat, xv = (n : Int) := ⟨xv.toNat, by omega⟩
    have hxnm : nx < m.length := by have := (HS.out.resolve_left (by omega)).2.1; omega
    obtain ⟨b3, o3, u3, ks3, z3, ea3, hkk3, hu3, c30, c31⟩ := (R.out.below PVC.out.low).1.at nx hxnm
    obtain ⟨rfl, rfl⟩ : b2 = b3 ∧ o2 = o3 := by simpa using ea3
    have hxnm9 : (nx : Int) < (m.length : Int) := by omega
    obtain rfl : ks3 = [a, b, c, d] := by
      rw [← HE.out]
      unfold stmF
      rw [if_neg (by omega), Int.toNat_natCast, hkk3]
    obtain ⟨ua3, uc3, rfl⟩ : ∃ ua uc, u3 = .slice ua 4 uc := by
      obtain ⟨ua, uc, rfl, _, _⟩ := hu3.slc
      exact ⟨ua, uc, rfl⟩
    obtain ⟨wc8, hwc8⟩ : ∃ u, u = wC.alloc (.cells #[] 3) := ⟨_, rfl⟩
    have bc8 : Below wC.heap.size wC wc8 := by rw [hwc8]; exact below_box _ _
    have oc8 : Own wc8 wC.heap.size (.slice (some ⟨wC.heap.size, 0, none⟩) 0 0) [] := by rw [hwc8]; exact own_nil0
    have UC8 := hide (hu3.below bc8)
    have p38 := cell_below p0 (below_box wC (.cells #[] 3))
    have c38 := cell_below c30 (below_box wC (.cells #[] 3))
    have OC8 := hide oc8
    have WC8 : Hid (wC.alloc (.cells #[] 3) = wc8) := hwc8.symm
    have BC8 := hide bc8
    clear hu3 hkk3 oc8 bc8 hwc8
    go_wp2_with (refine wpList_app_int rfl _ _ rfl wC.heap.size (.slice (some ⟨wC.heap.size, 0, none⟩) 0 0) rfl [] (by rw [WC8.out]; exact OC8.out) (.slice ua3 4 uc3) rfl [a, b, c, d] (by rw [WC8.out]; exact UC8.out) (by simp) (by rw [WC8.out]; exact BC8.out.size) ?_)
    rw [WC8.out]
    intro v9 wc9 o9 g9 at9
    have o9' : Own wc9 wC.heap.size v9 [a, b, c, d] := o9
    obtain ⟨gU, kU, rfl⟩ := own_four o9'
    have b9 : Below wC.heap.size wC wc9 := BC8.out.grown g9 BC8.out.size (fun j hj => own_at1 (Nat.le_refl _) hj)
    have x9 := BT9.out.box.below b9
    obtain ⟨xl0, xl1⟩ := x9.c2
    have xf0 := x9.frozen 0
    have bm9 := BM9.out.trans (b9.mono BM9.out.size)
    have btA : BV (wc9.setCell ⟨gT, 0, none⟩ (.slice (some ⟨gU, 0, none⟩) 4 kU)) wB.heap.size gT gU kU false [a, b, c, d] :=
      ⟨by simpa using x9.set 0 (.slice (some ⟨gU, 0, none⟩) 4 kU), ownsRow_mono (World.ownsRow.kept o9' (grown_setCell wc9 gT 0 (.slice (some ⟨gU, 0, none⟩) 4 kU)) (.inr (x9.offT o9' (by decide)))) BM9.out.size, BT9.out.low⟩
    have BMX := hide (bm9.setCell (p := ⟨gT, 0, none⟩) (by exact BT9.out.low) (.slice (some ⟨gU, 0, none⟩) 4 kU))
    have BTX := hide btA
    clear o9 o9' g9 at9 b9 x9 bm9 btA c30 c31 OC8 UC8 BC8 p38 c38
    go_upto_region 13 with fail
    obtain ⟨wD, hwD⟩ : ∃ u, u = wc9.setCell ⟨gT, 0, none⟩ (.slice (some ⟨gU, 0, none⟩) 4 kU) := ⟨_, rfl⟩
    have bta := BTX.out
    have bma := BMX.out
    rw [← hwD] at bta bma ⊢
    have BTA := hide bta
    have BMA := hide bma
    clear hwD bta bma BTX BMX xl0 xl1 xf0
    obtain ⟨sf, sc, sput⟩ := BTA.out.put (n := q4) (by simpa using Q4.out)
    have btb := sput (m.length : Int)
    rw [HS1.out] at btb
    obtain ⟨tx0, tx1⟩ := BTA.out.box.c2
    have bmb := BMA.out.setCell (p := ⟨gU, q4, none⟩) (by exact BTA.out.g1lo.1) (.int .i64 (m.length : Int))
    have BTB := hide btb
    have BMB := hide bmb
    obtain ⟨o0, o1⟩ := (PV5.out.step (BW8.out.trans (BMA.out.mono BW8.out.size))).out.c2
    clear sput btb bmb
    go_upto_region 14 with fail
    obtain ⟨wE, hwE⟩ : ∃ u, u = wD.setCell ⟨gU, q4, none⟩ (.int .i64 (m.length : Int)) := ⟨_, rfl⟩
    have btb := BTB.out
    have bmb := BMB.out
    rw [← hwE] at btb bmb ⊢
    have BTE := hide btb
    have BME := hide bmb
    clear hwE btb bmb BTB BMB BTA BMA sf sc tx0 tx1 o0 o1
    have glt : gL < wB.heap.size := BV8.out.box.lt
    have grt := BV8.out.g1lo.2
    have BVE := hide (BV8.out.lower BME.out glt grt)
    have PVE := hide (PV5.out.step (BW8.out.trans (BME.out.mono BW8.out.size)))
    obtain ⟨o0, o1⟩ := PVE.out.out.c2
    obtain ⟨lx0, lx1⟩ := BVE.out.box.c2
    obtain ⟨tx0, tx1⟩ := BTE.out.box.c2
    obtain ⟨wF, hwF⟩ : ∃ u, u = wE.alloc (.cells #[.slice (some ⟨gr, 0, none⟩) 4 kr, .bool true, .slice (some ⟨gU, 0, none⟩) 4 kU, .bool false] 104) := ⟨_, rfl⟩
    have bF : Below wE.heap.size wE wF := by rw [hwF]; exact below_box _ _
    have xF : BoxAt wF wE.heap.size #[.slice (some ⟨gr, 0, none⟩) 4 kr, .bool true, .slice (some ⟨gU, 0, none⟩) 4 kU, .bool false] 104 := by rw [hwF]; exact BoxAt.new _ _ _
    have WF : Hid (wE.alloc (.cells #[.slice (some ⟨gr, 0, none⟩) 4 kr, .bool true, .slice (some ⟨gU, 0, none⟩) 4 kU, .bool false] 104) = wF) := hwF.symm
    have BF := hide (BW8.out.trans ((BME.out.trans (bF.mono BME.out.size)).mono BW8.out.size))
    have XF := hide xF
    have S1 := hide (Own.below BVE.out.row bF)
    have S2 := hide (Own.below BTE.out.row bF)
    have MF : Hid (wB.heap.size ≤ wF.heap.size) := Nat.le_trans BME.out.size bF.size
    have GR := hide grt
    clear bF xF hwF glt grt
    go_wp2_with (refine wpList_app_br2 rfl _ _ rfl w.heap.size w5.heap.size wB.heap.size (.slice ap4 m.length cp4) rfl _ us _ m (by rw [WF.out]; exact PV5.out.br.below BF.out) wE.heap.size rfl (some ⟨gr, 0, none⟩) (some ⟨gU, 0, none⟩) 4 kr 4 kU ([e1, f1, g1, h1], true) ([a1, b1, c1, d1], false) (by rw [WF.out]; exact XF.out) (by rw [WF.out]; exact ownsRow_mono S1.out PV5.out.low.size) (by rw [WF.out]; exact ownsRow_mono S2.out (Nat.le_trans PV5.out.low.size BW8.out.size)) (fun b hb => (show gr = b by simpa [Value.ownBlock] using hb) ▸ ⟨GR.out, BV8.out.g1lo.1⟩) (fun b hb => (show gU = b by simpa [Value.ownBlock] using hb) ▸ BTE.out.g1lo.1) BW8.out.size (by rw [WF.out]; exact MF.out) (by omega) (by rw [WF.out]; exact Nat.le_trans PV5.out.low.size BF.out.size) ?_)
    rw [WF.out]
    intro v6 w6 n6 g6
    have PVF := PV5.out.step BF.out
    obtain ⟨bo, pv8⟩ := PVF.appB n6 g6
    obtain ⟨va6, vc6, hv6⟩ := n6.slice
    obtain ⟨L6, hL6⟩ : ∃ L, L = (m ++ [([e1, f1, g1, h1], true), ([a1, b1, c1, d1], false)]).length := ⟨_, rfl⟩
    rw [← hL6] at hv6
    subst hv6
    have L6e : (L6 : Int) - 1 = (m.length : Int) + 1 := by rw [hL6]; simp; omega
    have L6b : L6 ≤ 300 := by rw [hL6]; simp; omega
    obtain ⟨q0, q1⟩ := bo.c2
    have qf := bo.frozen 0
    have PV8 := hide pv8
    clear n6 g6 bo pv8 hL6 PVF PVE PVC S1 S2 XF BVE BTE o0 o1 lx0 lx1 tx0 tx1 p0 p1 cv
    go_upto_region 15 with fail
    obtain ⟨w9, hw9⟩ : ∃ u, u = w6.setCell ⟨gO, 0, none⟩ (.slice va6 L6 vc6) := ⟨_, rfl⟩
    have pv8 := PV8.out
    rw [← hw9] at pv8 ⊢
    clear hw9 PV8 q0 q1 qf
    obtain ⟨o0, o1⟩ := pv8.out.c2
    have PV9 := hide (pv8.step (below_box w9 (.cells #[.int .i64 ((m.length : Int) + 1)] 3)))
    have RX : Hid (Rd (w9.alloc (.cells #[.int .i64 ((m.length : Int) + 1)] 3)) (.slice (some ⟨w9.heap.size, 0, none⟩) 1 1) [(m.length : Int) + 1]) := rd_singleR
    clear pv8
    go_wp2_with (refine wpList_app_int rfl _ _ rfl w.heap.size (.slice ar4 vs.length cr4) rfl vs (PV9.out.br.rowE 0 (by simp)) (.slice (some ⟨w9.heap.size, 0, none⟩) 1 1) rfl [(m.length : Int) + 1] RX.out (by simp only [List.length_singleton]; omega) PV9.out.low.size ?_)
    intro v7 w7 o7 g7 at7
    obtain ⟨bo, pv7⟩ := PV9.out.appR o7 g7 (by rw [World.size_alloc]; exact at7)
    obtain ⟨q0, q1⟩ := bo.c2
    have qf := bo.frozen 1
    obtain ⟨a7, k7, hv7⟩ := row_slice o7
    obtain ⟨L7, hL7⟩ : ∃ L, L = (vs ++ [(m.length : Int) + 1]).length := ⟨_, rfl⟩
    rw [← hL7] at hv7
    subst hv7
    obtain ⟨s0, s1⟩ := pv7.out.c2
    obtain ⟨r0, r1⟩ := pv7.res.c2
    have rf0 := pv7.res.frozen 0
    have rf1 := pv7.res.frozen 1
    have fin := pv7.fin
    rw [← HX2.out, ← HY2.out] at fin
    have FIN := hide fin
    clear o7 g7 at7 bo pv7 PV9 RX o0 o1 hL7 fin
    go_wp2
    exact bodyPost_ret (res_pl2 rfl _ _ (w.heap.size + 1) _ _ (0, 0) rfl FIN.out.1) rfl ⟨_, _, rfl, FIN.out.2.1, FIN.out.2.2⟩
end Go.Proofs.Ythmijjcddjlebaa

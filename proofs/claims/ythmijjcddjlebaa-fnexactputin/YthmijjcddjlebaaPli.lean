/-
  PutIn by the program. The contract says what it asks.
-/
import Derived.Test.YthmijjcddjlebaaPlh
namespace Go.Proofs.Ythmijjcddjlebaa
open Go.RowKit
set_option linter.unusedVariables false

/-- A value can be put; the leaf, the branch, the pool and the versions behind it. -/
abbrev puOk (m : List Nd) (vs : List Int) (x k v : Int) : Prop := thP m vs x ∧ keyOk k ∧ vOk v ∧ m.length + 2 ≤ 200 ∧ vs.length ≠ 40
def leafL (m : List Nd) (vs : List Int) (ver key : Nat) (v : Int) : List Int := (lfF m (lfN m vs ver key)).set (key % 4) v
def stemL (m : List Nd) (vs : List Int) (ver key : Nat) : List Int := (stmF m (vs.getD ver 0)).set (key / 4) (m.length : Int)
def puX (m : List Nd) (vs : List Int) (ver key : Nat) (v : Int) : List Nd := m ++ [(leafL m vs ver key v, true), (stemL m vs ver key, false)]
def puY (m : List Nd) (vs : List Int) : List Int := vs ++ [(m.length : Int) + 1]

set_option linter.unusedSimpArgs false in
set_option maxRecDepth 100000 in
set_option maxHeartbeats 6400000 in
theorem putIn_calls (p r : Value) (m : List Nd) (vs : List Int) (x k v : Int) (t : Bool) (w : World) (h : RdP w p r m vs) (ht : t = true ↔ puOk m vs x k v) :
    Calls Try.prog 38 #[.agg #[p, r], .int .i64 x, .int .i64 k, .int .i64 v] w fun e' w' => ∃ p' r', e' = .returned (.tuple #[.agg #[p', r'], .bool t]) ∧ TPol p' r' (gX t (puX m vs x.toNat k.toNat v)) (gX t (puY m vs)) w.heap.size w'.heap.size w' ∧ Below w.heap.size w w' := by
  have R := hide h
  obtain ⟨⟨ap, cp, rfl, hq1, hq2, _⟩, ⟨ar, cr, rfl, hr1, hr2, _⟩⟩ := h
  have hrm : vs.length ≤ maxLen := by omega
  have hqm : m.length ≤ 17179869184 * 1024 ∨ 17179869184 * 1024 < m.length := by omega
  have hmm : m.length ≤ maxLen := by omega
  unfold maxLen at hrm hmm
  have A0 := hide (Hand.twoN w #[.slice ap m.length cp, .slice ar vs.length cr] nilP 43 43)
  obtain ⟨g0, hg⟩ := bol_of (thP m vs x)
  obtain ⟨X, hX⟩ : ∃ X, X = gX t (puX m vs x.toNat k.toNat v) := ⟨_, rfl⟩
  obtain ⟨Y, hY⟩ : ∃ Y, Y = gX t (puY m vs) := ⟨_, rfl⟩
  rw [← hX, ← hY]
  have HX := hide hX
  have HY := hide hY
  have HG := hide hg
  have HT := hide ht
  clear hg ht hr1 hr2 hX hY hq1 hq2 hqm
  go_enter Try.func38, Try.ntmps38
  go_wp2_with fail
  refine (hasVersion_calls _ _ m vs x g0 _ (R.out.below A0.out.below) HG.out).mono ?_
  rintro e' w1 ⟨rfl, b0⟩
  have A1 := hide (A0.out.step b0)
  have R1 := hide (R.out.below A1.out.below)
  clear b0 A0
  obtain ⟨p0, p1⟩ := (A1.out.atBox 1 rfl).c2
  cases g0 with
  | false =>
    obtain rfl := bol_no HT.out (fun h => absurd (HG.out.2 h.1) (by simp))
    obtain rfl : X = [] := HX.out
    obtain rfl : Y = [] := HY.out
    have x9 := A1.out.atBox 0 rfl
    obtain ⟨z0, z1⟩ := x9.c2
    have f0 := x9.frozen 0
    have f1 := x9.frozen 1
    have A9 := hide (A1.out.store2 0 rfl nilRow nilRow)
    clear x9 A1
    go_wp2
    exact bodyPost_ret (res_pl2 rfl _ _ (w.heap.size + 1) _ _ (0, 0) rfl (A9.out.atBox 0 rfl)) rfl ⟨_, _, rfl, TPol.nil _ _ _, A9.out.below⟩
  | true =>
    have TH := hide (HG.out.1 rfl)
    clear HG
    go_wp2_with fail
    refine (isMapKey_calls k _).mono ?_
    rintro e' w2 ⟨rfl, rfl⟩
    by_cases hk : keyOk k
    case neg =>
      obtain rfl := bol_no HT.out (fun h => hk h.2.1)
      rw [decide_eq_false hk]
      clear hk
      obtain rfl : X = [] := HX.out
      obtain rfl : Y = [] := HY.out
      have x9 := A1.out.atBox 0 rfl
      obtain ⟨z0, z1⟩ := x9.c2
      have f0 := x9.frozen 0
      have f1 := x9.frozen 1
      have A9 := hide (A1.out.store2 0 rfl nilRow nilRow)
      clear x9 A1
      go_wp2
      exact bodyPost_ret (res_pl2 rfl _ _ (w.heap.size + 1) _ _ (0, 0) rfl (A9.out.atBox 0 rfl)) rfl ⟨_, _, rfl, TPol.nil _ _ _, A9.out.below⟩
    rw [decide_eq_true hk]
    have HK := hide hk
    clear hk
    go_wp2_with fail
    refine (isMapValue_calls v _).mono ?_
    rintro e' w2 ⟨rfl, rfl⟩
    by_cases hvv : vOk v
    case neg =>
      obtain rfl := bol_no HT.out (fun h => hvv h.2.2.1)
      rw [decide_eq_false hvv]
      clear hvv
      obtain rfl : X = [] := HX.out
      obtain rfl : Y = [] := HY.out
      have x9 := A1.out.atBox 0 rfl
      obtain ⟨z0, z1⟩ := x9.c2
      have f0 := x9.frozen 0
      have f1 := x9.frozen 1
      have A9 := hide (A1.out.store2 0 rfl nilRow nilRow)
      clear x9 A1
      go_wp2
      exact bodyPost_ret (res_pl2 rfl _ _ (w.heap.size + 1) _ _ (0, 0) rfl (A9.out.atBox 0 rfl)) rfl ⟨_, _, rfl, TPol.nil _ _ _, A9.out.below⟩
    rw [decide_eq_true hvv]
    have HVV := hide hvv
    clear hvv
    have h200 : m.length ≤ 200 := TH.out.1.1.1
    by_cases hsz : m.length + 2 ≤ 200
    case neg =>
      obtain rfl := bol_no HT.out (fun h => hsz h.2.2.2.1)
      have hsz' : (200 : Int) < (m.length : Int) + 2 := by omega
      clear hsz
      obtain rfl : X = [] := HX.out
      obtain rfl : Y = [] := HY.out
      have x9 := A1.out.atBox 0 rfl
      obtain ⟨z0, z1⟩ := x9.c2
      have f0 := x9.frozen 0
      have f1 := x9.frozen 1
      have A9 := hide (A1.out.store2 0 rfl nilRow nilRow)
      clear x9 A1
      go_wp2
      exact bodyPost_ret (res_pl2 rfl _ _ (w.heap.size + 1) _ _ (0, 0) rfl (A9.out.atBox 0 rfl)) rfl ⟨_, _, rfl, TPol.nil _ _ _, A9.out.below⟩
    have hsz' : ¬ (200 : Int) < (m.length : Int) + 2 := by omega
    by_cases h40 : vs.length = 40
    case pos =>
      obtain rfl := bol_no HT.out (fun h => h.2.2.2.2 h40)
      have h40b : ((vs.length : Int) == 40) = true := by simp; omega
      clear h40
      obtain rfl : X = [] := HX.out
      obtain rfl : Y = [] := HY.out
      have x9 := A1.out.atBox 0 rfl
      obtain ⟨z0, z1⟩ := x9.c2
      have f0 := x9.frozen 0
      have f1 := x9.frozen 1
      have A9 := hide (A1.out.store2 0 rfl nilRow nilRow)
      clear x9 A1
      go_wp2
      exact bodyPost_ret (res_pl2 rfl _ _ (w.heap.size + 1) _ _ (0, 0) rfl (A9.out.atBox 0 rfl)) rfl ⟨_, _, rfl, TPol.nil _ _ _, A9.out.below⟩
    obtain rfl : t = true := HT.out.2 ⟨TH.out, HK.out, HVV.out, hsz, h40⟩
    have h40b : ((vs.length : Int) == 40) = false := by simp; omega
    have th := TH.out
    have hk := HK.out
    obtain ⟨ver, rfl⟩ : ∃ n : Nat, x = (n : Int) := ⟨x.toNat, by have := th.2.1; omega⟩
    obtain ⟨key, rfl⟩ : ∃ n : Nat, k = (n : Int) := ⟨k.toNat, by have := hk.1; omega⟩
    have OK := hide th.1
    have SZ := hide (okP_sz th.1)
    have hv : ver < vs.length := by have := th.2.2; omega
    have hvs : vs.length ≤ 40 := th.1.1.2
    have hk16 : key < 16 := by have := hk.2; omega
    obtain ⟨hs, a, b, c, d, he, hkb⟩ := gd_stem th.1 ver hv
    obtain ⟨y, hy⟩ : ∃ y, [a, b, c, d].getD (key / 4) 0 = y := ⟨_, rfl⟩
    have hsy := hkb (key / 4) (by omega)
    rw [hy] at hsy
    obtain ⟨e, f, g, h', hl, _⟩ := gd_leaf th.1 y hsy
    have eq4 := quo4 key
    have er4 := rem4 key
    obtain ⟨q4, hq4⟩ : ∃ q, q = key / 4 := ⟨_, rfl⟩
    obtain ⟨q5, hq5⟩ : ∃ q, q = key % 4 := ⟨_, rfl⟩
    obtain ⟨e1, f1, g1, h1, hl1⟩ : ∃ a b c d, [e, f, g, h'].set q5 v = [a, b, c, d] := four_of (by simp)
    obtain ⟨a1, b1, c1, d1, hs1⟩ : ∃ x y z u, [a, b, c, d].set q4 (m.length : Int) = [x, y, z, u] := four_of (by simp)
    have HX2 : Hid (X = m ++ [([e1, f1, g1, h1], true), ([a1, b1, c1, d1], false)]) := by
      show _ = _
      have e1' : leafL m vs ver key v = [e1, f1, g1, h1] := by rw [leafL, lfN, he, hy, hl, ← hq5, hl1]
      have e2' : stemL m vs ver key = [a1, b1, c1, d1] := by rw [stemL, he, ← hq4, hs1]
      have : X = puX m vs ver key v := HX.out
      rw [this, puX, e1', e2']
    have HY2 : Hid (Y = vs ++ [(m.length : Int) + 1]) := HY.out
    rw [← hq4] at eq4
    rw [← hq5] at er4
    have Q4 : Hid ((q4 : Int) = 0 ∨ (q4 : Int) = 1 ∨ (q4 : Int) = 2 ∨ (q4 : Int) = 3) := by
      have : (q4 : Int) = 0 ∨ (q4 : Int) = 1 ∨ (q4 : Int) = 2 ∨ (q4 : Int) = 3 := by omega
      exact this
    have Q5 : Hid ((q5 : Int) = 0 ∨ (q5 : Int) = 1 ∨ (q5 : Int) = 2 ∨ (q5 : Int) = 3) := by
      have : (q5 : Int) = 0 ∨ (q5 : Int) = 1 ∨ (q5 : Int) = 2 ∨ (q5 : Int) = 3 := by omega
      exact this
    have hq43 : (q4 : Int) ≤ 3 := by omega
    have hq53 : (q5 : Int) ≤ 3 := by omega
    have HS := hide hs
    have HE := hide he
    have HYY := hide hy
    have HSY := hide hsy
    have HL := hide hl
    have HL1 := hide hl1
    have HS1 := hide hs1
    clear th hk TH HK HVV HT hs he hkb hy hsy hl hl1 hs1 hq4 hq5 HX HY h40
    go_wp2_with fail
    refine (stemOf_calls _ _ m vs ver a b c d _ R1.out hv HS.out HE.out).mono ?_
    rintro e' w2 ⟨rfl, q⟩
    have a9 := (A1.out.step q).box #[.int .i64 a, .int .i64 b, .int .i64 c, .int .i64 d] 118
    obtain ⟨w3, hw3⟩ : ∃ u, u = w2.alloc (.cells #[.int .i64 a, .int .i64 b, .int .i64 c, .int .i64 d] 118) := ⟨_, rfl⟩
    obtain ⟨gB2, hgB⟩ : ∃ u, u = w2.heap.size := ⟨_, rfl⟩
    rw [← hw3, ← hgB] at a9
    have W3 : Hid (w2.alloc (.cells #[.int .i64 a, .int .i64 b, .int .i64 c, .int .i64 d] 118) = w3) := hw3.symm
    have GB2 := hide hgB.symm
    have A3 := hide a9
    clear a9 hw3 hgB q A1
    go_upto_region 7 with fail
    rw [W3.out, GB2.out]
    obtain ⟨p0, p1⟩ := (A3.out.atBox 2 rfl).c2
    obtain ⟨s0, s1, s2, s3⟩ := (A3.out.atBox 0 rfl).c4
    go_wp2_with fail
    refine (leafUnder_calls _ _ m vs a b c d y key e f g h' _ (R.out.below A3.out.below) hk16 HYY.out HSY.out HL.out).mono ?_
    rintro e' w4 ⟨rfl, q⟩
    clear p0 p1 s0 s1 s2 s3
    have a9 := (A3.out.step q).box #[.int .i64 e, .int .i64 f, .int .i64 g, .int .i64 h'] 120
    obtain ⟨w5, hw5⟩ : ∃ u, u = w4.alloc (.cells #[.int .i64 e, .int .i64 f, .int .i64 g, .int .i64 h'] 120) := ⟨_, rfl⟩
    obtain ⟨gB4, hgB⟩ : ∃ u, u = w4.heap.size := ⟨_, rfl⟩
    rw [← hw5, ← hgB] at a9
    have W5 : Hid (w4.alloc (.cells #[.int .i64 e, .int .i64 f, .int .i64 g, .int .i64 h'] 120) = w5) := hw5.symm
    have GB4 := hide hgB.symm
    have A5 := hide a9
    clear a9 hw5 hgB q A3
    go_upto_region 8 with fail
    rw [W5.out, GB4.out]
    obtain ⟨s0, s1, s2, s3⟩ := (A5.out.atBox 0 rfl).c4
    go_wp2_with fail
    refine (with_calls e f g h' _ v e1 f1 g1 h1 _ Q5.out (by rw [Int.toNat_natCast]; exact HL1.out)).mono ?_
    rintro e' w6 ⟨rfl, q⟩
    clear s0 s1 s2 s3
    have a9 := (A5.out.step q).box #[.int .i64 e1, .int .i64 f1, .int .i64 g1, .int .i64 h1] 120
    obtain ⟨w7, hw7⟩ : ∃ u, u = w6.alloc (.cells #[.int .i64 e1, .int .i64 f1, .int .i64 g1, .int .i64 h1] 120) := ⟨_, rfl⟩
    obtain ⟨gB6, hgB⟩ : ∃ u, u = w6.heap.size := ⟨_, rfl⟩
    rw [← hw7, ← hgB] at a9
    have W7 : Hid (w6.alloc (.cells #[.int .i64 e1, .int .i64 f1, .int .i64 g1, .int .i64 h1] 120) = w7) := hw7.symm
    have GB6 := hide hgB.symm
    have A7 := hide a9
    clear a9 hw7 hgB q A5
    go_upto_region 9 with fail
    rw [W7.out, GB6.out]
    obtain ⟨s0, s1, s2, s3⟩ := (A7.out.atBox 2 rfl).c4
    go_wp2_with fail
    refine (with_calls a b c d _ (m.length : Int) a1 b1 c1 d1 _ Q4.out (by rw [Int.toNat_natCast]; exact HS1.out)).mono ?_
    rintro e' w8 ⟨rfl, q⟩
    clear s0 s1 s2 s3
    have a9 := (A7.out.step q).box #[.int .i64 a1, .int .i64 b1, .int .i64 c1, .int .i64 d1] 118
    obtain ⟨w9, hw9⟩ : ∃ u, u = w8.alloc (.cells #[.int .i64 a1, .int .i64 b1, .int .i64 c1, .int .i64 d1] 118) := ⟨_, rfl⟩
    obtain ⟨gB8, hgB⟩ : ∃ u, u = w8.heap.size := ⟨_, rfl⟩
    rw [← hw9, ← hgB] at a9
    have W9 : Hid (w8.alloc (.cells #[.int .i64 a1, .int .i64 b1, .int .i64 c1, .int .i64 d1] 118) = w9) := hw9.symm
    have GB8 := hide hgB.symm
    have A9 := hide a9
    clear a9 hw9 hgB q A7
    go_upto_region 10 with fail
    rw [W9.out, GB8.out]
    obtain ⟨p0, p1⟩ := (A9.out.atBox 5 rfl).c2
    go_wp2_with fail
    refine (copyPool_calls _ _ m vs _ (R.out.below A9.out.below) SZ.out).mono ?_
    rintro e' w10 ⟨p4, r4, rfl, d4, b4⟩
    obtain ⟨ap4, cp4, ar4, cr4, rfl, rfl⟩ := d4.sls
    obtain ⟨us, pv⟩ := PV.start A9.out (i := 5) (j := 4) rfl rfl b4 d4 (by omega)
    have x13 := ((A9.out.atBox 1 rfl).below b4).below (below_box w10 (.cells #[.slice ap4 m.length cp4, .slice ar4 vs.length cr4] 43))
    have x14 := ((A9.out.atBox 0 rfl).below b4).below (below_box w10 (.cells #[.slice ap4 m.length cp4, .slice ar4 vs.length cr4] 43))
    have n13 : gB6 ≠ w10.heap.size := by have := (A9.out.atBox 1 rfl).lt; have := b4.size; omega
    have n14 : gB8 ≠ w10.heap.size := by have := (A9.out.atBox 0 rfl).lt; have := b4.size; omega
    obtain ⟨w11, hw11⟩ : ∃ w5, w5 = w10.alloc (.cells #[.slice ap4 m.length cp4, .slice ar4 vs.length cr4] 43) := ⟨_, rfl⟩
    obtain ⟨gO, hgO⟩ : ∃ gO, gO = w10.heap.size := ⟨_, rfl⟩
    rw [← hw11, ← hgO] at pv
    rw [← hw11] at x13 x14
    rw [← hgO] at n13 n14
    have W11 : Hid (w10.alloc (.cells #[.slice ap4 m.length cp4, .slice ar4 vs.length cr4] 43) = w11) := hw11.symm
    have GO := hide hgO.symm
    have PV5 := hide pv
    have X13 := hide x13
    have X14 := hide x14
    have N13 := hide n13
    have N14 := hide n14
    clear b4 d4 pv hw11 hgO p0 p1 A9 x13 x14 n13 n14
    go_upto_region 11 with fail
    rw [W11.out, GO.out]
    refine wp_region_noPanic ?_
    refine wp_region_held_drew (S := fun w' => (w'.cell? ⟨gB6, 0, none⟩ = some (.int .i64 e1) ∧ w'.cell? ⟨gB6, 1, none⟩ = some (.int .i64 f1) ∧ w'.cell? ⟨gB6, 2, none⟩ = some (.int .i64 g1) ∧ w'.cell? ⟨gB6, 3, none⟩ = some (.int .i64 h1)) ∧ (w'.cell? ⟨gB8, 0, none⟩ = some (.int .i64 a1) ∧ w'.cell? ⟨gB8, 1, none⟩ = some (.int .i64 b1) ∧ w'.cell? ⟨gB8, 2, none⟩ = some (.int .i64 c1) ∧ w'.cell? ⟨gB8, 3, none⟩ = some (.int .i64 d1))) (by kernel_rfl) (⟨(X13.out.below (Below.refl _ _).drew).c4, (X14.out.below (Below.refl _ _).drew).c4⟩) (fun hHeld => ?_)
    have PV6 := hide (PV5.out.step (Below.refl _ _).drew)
    have Y13 := hide (X13.out.below (Below.refl _ _).drew)
    have Y14 := hide (X14.out.below (Below.refl _ _).drew)
    clear PV5 X13 X14
    generalize World.drew _ = V0 at *
    have B0 : Hid (Below V0.heap.size V0 V0) := Below.refl _ _
    refine wpAnyH_take (i := 0) (v := ?v1) rfl (by kernel_rfl) (by kernel_rfl) (by kernel_rfl) (fun _ _ _ h => h) (Or.inl ⟨by rfl, ?hy1⟩) (by assumption) ?rest1
    case hy1 => (intro w' hSw; dsimp only [List.getElem_toArray, List.getElem_cons_zero, List.getElem_cons_succ] at hSw ⊢; go_simp; try (with_reducible rfl))
    try simp only [Act.put, List.getElem_toArray, List.getElem_cons_zero, List.getElem_cons_succ, List.setIfInBounds_toArray, List.set_cons_zero, List.set_cons_succ]
    refine wpAnyH_take (i := 2) (v := ?v2) rfl (by kernel_rfl) (by kernel_rfl) (by kernel_rfl) (fun _ _ _ h => h) (Or.inl ⟨by rfl, ?hy2⟩) (by assumption) ?rest2
    case hy2 => (intro w' hSw; dsimp only [List.getElem_toArray, List.getElem_cons_zero, List.getElem_cons_succ] at hSw ⊢; go_simp; try (with_reducible rfl))
    try simp only [Act.put, List.getElem_toArray, List.getElem_cons_zero, List.getElem_cons_succ, List.setIfInBounds_toArray, List.set_cons_zero, List.set_cons_succ]
    refine wpAnyH_take (i := 4) (v := ?v3) rfl (by kernel_rfl) (by kernel_rfl) (by kernel_rfl) (fun _ _ _ h => h) (Or.inl ⟨by rfl, ?hy3⟩) (by assumption) ?rest3
    case hy3 => (intro w' hSw; dsimp only [List.getElem_toArray, List.getElem_cons_zero, List.getElem_cons_succ] at hSw ⊢; go_simp; try (with_reducible rfl))
    try simp only [Act.put, List.getElem_toArray, List.getElem_cons_zero, List.getElem_cons_succ, List.setIfInBounds_toArray, List.set_cons_zero, List.set_cons_succ]
    refine wpAnyH_ready (rs := [1, 3]) (by kernel_rfl) (by simp) ?_
    refine (AllReadyH.cons rfl (fun K hK => ?_) (AllReadyH.cons rfl (fun K hK => ?_) AllReadyH.nil))
    · obtain ⟨o0, o1⟩ := (PV6.out.out.below B0.out).c2
      dsimp only [List.getElem_toArray, List.getElem_cons_zero, List.getElem_cons_succ]
      go_simp
      clear o0 o1 hHeld
      refine hK.out _ _ (⟨(Y13.out.below B0.out).c4, (Y14.out.below B0.out).c4⟩) (fun hHeld => ?_)
      clear hK K
      try simp only [Act.put, List.getElem_toArray, List.getElem_cons_zero, List.getElem_cons_succ, List.setIfInBounds_toArray, List.set_cons_zero, List.set_cons_succ]
      refine wpAnyH_ready (rs := [3]) (by kernel_rfl) (by simp) ?_
      refine (AllReadyH.cons rfl (fun K hK => ?_) AllReadyH.nil)
      dsimp only [List.getElem_toArray, List.getElem_cons_zero, List.getElem_cons_succ]
      go_simp
      refine (leafBranch_calls e1 f1 g1 h1 _).mono ?_
      rintro e' uA ⟨ra1, rk1, rfl, o1, q⟩
      have O1 := hide o1
      have T1 := hide (row_top o1)
      have BA := hide (B0.out.trans q)
      clear o1 q hHeld
      refine hK.out _ _ (⟨(Y13.out.below BA.out).c4, (Y14.out.below BA.out).c4⟩) (fun hHeld => ?_)
      clear hK K
      try simp only [Act.put, List.getElem_toArray, List.getElem_cons_zero, List.getElem_cons_succ, List.setIfInBounds_toArray, List.set_cons_zero, List.set_cons_succ]
      refine wpAnyH_ready (rs := [5]) (by kernel_rfl) (by simp) ?_
      refine (AllReadyH.cons rfl (fun K hK => ?_) AllReadyH.nil)
      dsimp only [List.getElem_toArray, List.getElem_cons_zero, List.getElem_cons_succ]
      go_simp
      refine (stemBranch_calls a1 b1 c1 d1 _).mono ?_
      rintro e' uB ⟨ra2, rk2, rfl, o2, q⟩
      have O2 := hide o2
      have P1 := hide (Own.below O1.out q)
      have AB : Hid (uA.heap.size ≤ uB.heap.size) := q.size
      have BB := hide (BA.out.trans (q.mono BA.out.size))
      clear o2 q hHeld O1
      refine hK.out _ _ (⟨(Y13.out.below BB.out).c4, (Y14.out.below BB.out).c4⟩) (fun hHeld => ?_)
      clear hK K
      try simp only [Act.put, List.getElem_toArray, List.getElem_cons_zero, List.getElem_cons_succ, List.setIfInBounds_toArray, List.set_cons_zero, List.set_cons_succ]
      refine wpAnyH_ready (rs := [6]) (by kernel_rfl) (by simp) ?_
      refine (AllReadyH.cons rfl (fun K hK => ?_) AllReadyH.nil)
      dsimp only [List.getElem_toArray, List.getElem_cons_zero, List.getElem_cons_succ]
      go_simp
      have bb := below_box uB (.cells #[.slice ra1 4 rk1, .bool true, .slice ra2 4 rk2, .bool false] 104)
      have xx := BoxAt.new uB #[.slice ra1 4 rk1, .bool true, .slice ra2 4 rk2, .bool false] 104
      obtain ⟨gx, hgx⟩ : ∃ gx, gx = uB.heap.size := ⟨_, rfl⟩
      rw [← hgx] at xx ⊢
      generalize uB.alloc (.cells #[.slice ra1 4 rk1, .bool true, .slice ra2 4 rk2, .bool false] 104) = uC at bb xx ⊢
      have XX := hide xx
      have S1 := hide (Own.below P1.out bb)
      have S2 := hide (Own.below O2.out bb)
      have BC := hide (BB.out.trans (bb.mono BB.out.size))
      have MC : Hid (uB.heap.size ≤ uC.heap.size) := bb.size
      clear bb xx hgx hHeld P1 O2
      refine hK.out _ _ (⟨(Y13.out.below BC.out).c4, (Y14.out.below BC.out).c4⟩) (fun hHeld => ?_)
      clear hK K
      try simp only [Act.put, List.getElem_toArray, List.getElem_cons_zero, List.getElem_cons_succ, List.setIfInBounds_toArray, List.set_cons_zero, List.set_cons_succ]
      refine wpAnyH_ready (rs := [7]) (by kernel_rfl) (by simp) ?_
      refine (AllReadyH.cons rfl (fun K hK => ?_) AllReadyH.nil)
      refine step_app_br2 (by rfl) (.tmp 68) (.tmp 73) (by rfl) w.heap.size V0.heap.size uA.heap.size (.slice ap4 m.length cp4) (by rfl) _ us _ m (PV6.out.br.below BC.out) gx (by rfl) ra1 ra2 4 rk1 4 rk2 ([e1, f1, g1, h1], true) ([a1, b1, c1, d1], false) XX.out (ownsRow_mono S1.out (Nat.le_trans PV6.out.low.size (Nat.le_refl _))) (ownsRow_mono S2.out (Nat.le_trans PV6.out.low.size BA.out.size)) (fun b hb => ⟨T1.out b hb, (World.ownsRow.lt S1.out b hb).1⟩) (fun b hb => (World.ownsRow.lt S2.out b hb).1) BA.out.size (Nat.le_trans AB.out MC.out) (by omega) (Nat.le_trans PV6.out.low.size BC.out.size) ?_
      intro v6 w6 n6 g6
      have PVC := PV6.out.step BC.out
      obtain ⟨bo, pv8⟩ := PVC.appB n6 g6
      obtain ⟨va6, vc6, hv6⟩ := n6.slice
      obtain ⟨L6, hL6⟩ : ∃ L, L = (m ++ [([e1, f1, g1, h1], true), ([a1, b1, c1, d1], false)]).length := ⟨_, rfl⟩
      rw [← hL6] at hv6
      subst hv6
      have y13 := (Y13.out.below BC.out).kept g6 ((Y13.out.below BC.out).offT PVC.br.head (by decide))
      have y14 := (Y14.out.below BC.out).kept g6 ((Y14.out.below BC.out).offT PVC.br.head (by decide))
      have PV8 := hide pv8
      have BO := hide bo
      have Z13 := hide y13
      have Z14 := hide y14
      clear n6 g6 bo pv8 y13 y14 hL6 hHeld PVC Y13 Y14 S1 S2 XX T1
      refine hK.out _ _ (⟨Z13.out.c4, Z14.out.c4⟩) (fun hHeld => ?_)
      clear hK K
      try simp only [Act.put, List.getElem_toArray, List.getElem_cons_zero, List.getElem_cons_succ, List.setIfInBounds_toArray, List.set_cons_zero, List.set_cons_succ]
      refine wpAnyH_take (i := 8) (v := ?v4) rfl (by kernel_rfl) (by kernel_rfl) (by kernel_rfl) (fun _ _ _ h => h) (Or.inl ⟨by rfl, ?hy4⟩) (by assumption) ?rest4
      case hy4 => (intro w' hSw; dsimp only [List.getElem_toArray, List.getElem_cons_zero, List.getElem_cons_succ] at hSw ⊢; go_simp; try (with_reducible rfl))
      try simp only [Act.put, List.getElem_toArray, List.getElem_cons_zero, List.getElem_cons_succ, List.setIfInBounds_toArray, List.set_cons_zero, List.set_cons_succ]
      refine wpAnyH_ready (rs := [9]) (by kernel_rfl) (by simp) ?_
      refine (AllReadyH.cons rfl (fun K hK => ?_) AllReadyH.nil)
      obtain ⟨q0, q1⟩ := BO.out.c2
      have qf := BO.out.frozen 0
      dsimp only [List.getElem_toArray, List.getElem_cons_zero, List.getElem_cons_succ]
      go_simp
      clear q0 q1 qf hHeld
      refine hK.out _ _ (⟨(Z13.out.other N13.out).c4, (Z14.out.other N14.out).c4⟩) (fun hHeld => ?_)
      clear hK K
      try simp only [Act.put, List.getElem_toArray, List.getElem_cons_zero, List.getElem_cons_succ, List.setIfInBounds_toArray, List.set_cons_zero, List.set_cons_succ]
      refine wpAnyH_done (by kernel_rfl) ?_ _
      refine NoPanic.normal ?_
      clear hHeld Z13 Z14 BO
      obtain ⟨w9, hw9⟩ : ∃ u, u = w6.setCell ⟨gO, 0, none⟩ (.slice va6 L6 vc6) := ⟨_, rfl⟩
      have pv8 := PV8.out
      rw [← hw9] at pv8 ⊢
      clear hw9 PV8
      obtain ⟨o0, o1⟩ := pv8.out.c2
      have PV9 := hide (pv8.step (below_box w9 (.cells #[.int .i64 ((m.length : Int) + 1)] 3)))
      have RX : Hid (Rd (w9.alloc (.cells #[.int .i64 ((m.length : Int) + 1)] 3)) (.slice (some ⟨w9.heap.size, 0, none⟩) 1 1) [(m.length : Int) + 1]) := rd_singleR
      clear pv8
      go_wp2_with (refine wpList_app_int rfl _ _ rfl w.heap.size (.slice ar4 vs.length cr4) rfl vs (PV9.out.br.rowE 0 (by simp)) (.slice (some ⟨w9.heap.size, 0, none⟩) 1 1) rfl [(m.length : Int) + 1] RX.out (by simp only [List.length_singleton]; omega) PV9.out.low.size ?_)
      intro v7 w7 o7 g7 at7
      obtain ⟨bo, pv7⟩ := PV9.out.appR o7 g7 (by rw [World.size_alloc]; exact at7)
      obtain ⟨q0, q1⟩ := bo.c2
      have qf := bo.frozen 1
      obtain ⟨a7, k7, hv7⟩ := row_slice o7
      obtain ⟨L7, hL7⟩ : ∃ L, L = (vs ++ [(m.length : Int) + 1]).length := ⟨_, rfl⟩
      rw [← hL7] at hv7
      subst hv7
      obtain ⟨s0, s1⟩ := pv7.out.c2
      obtain ⟨r0, r1⟩ := pv7.res.c2
      have rf0 := pv7.res.frozen 0
      have rf1 := pv7.res.frozen 1
      have fin := pv7.fin
      rw [← HX2.out, ← HY2.out] at fin
      have FIN := hide fin
      clear o7 g7 at7 bo pv7 PV9 RX o0 o1 hL7 fin
      go_wp2
      exact bodyPost_ret (res_pl2 rfl _ _ (w.heap.size + 1) _ _ (0, 0) rfl FIN.out.1) rfl ⟨_, _, rfl, FIN.out.2.1, FIN.out.2.2⟩
    · dsimp only [List.getElem_toArray, List.getElem_cons_zero, List.getElem_cons_succ]
      go_simp
      refine (leafBranch_calls e1 f1 g1 h1 _).mono ?_
      rintro e' uA ⟨ra1, rk1, rfl, o1, q⟩
      have O1 := hide o1
      have T1 := hide (row_top o1)
      have BA := hide (B0.out.trans q)
      clear o1 q hHeld
      refine hK.out _ _ (⟨(Y13.out.below BA.out).c4, (Y14.out.below BA.out).c4⟩) (fun hHeld => ?_)
      clear hK K
      try simp only [Act.put, List.getElem_toArray, List.getElem_cons_zero, List.getElem_cons_succ, List.setIfInBounds_toArray, List.set_cons_zero, List.set_cons_succ]
      refine wpAnyH_ready (rs := [1, 5]) (by kernel_rfl) (by simp) ?_
      refine (AllReadyH.cons rfl (fun K hK => ?_) (AllReadyH.cons rfl (fun K hK => ?_) AllReadyH.nil))
      · obtain ⟨o0, o1⟩ := (PV6.out.out.below BA.out).c2
        dsimp only [List.getElem_toArray, List.getElem_cons_zero, List.getElem_cons_succ]
        go_simp
        clear o0 o1 hHeld
        refine hK.out _ _ (⟨(Y13.out.below BA.out).c4, (Y14.out.below BA.out).c4⟩) (fun hHeld => ?_)
        clear hK K
        try simp only [Act.put, List.getElem_toArray, List.getElem_cons_zero, List.getElem_cons_succ, List.setIfInBounds_toArray, List.set_cons_zero, List.set_cons_succ]
        refine wpAnyH_ready (rs := [5]) (by kernel_rfl) (by simp) ?_
        refine (AllReadyH.cons rfl (fun K hK => ?_) AllReadyH.nil)
        dsimp only [List.getElem_toArray, List.getElem_cons_zero, List.getElem_cons_succ]
        go_simp
        refine (stemBranch_calls a1 b1 c1 d1 _).mono ?_
        rintro e' uB ⟨ra2, rk2, rfl, o2, q⟩
        have O2 := hide o2
        have P1 := hide (Own.below O1.out q)
        have AB : Hid (uA.heap.size ≤ uB.heap.size) := q.size
        have BB := hide (BA.out.trans (q.mono BA.out.size))
        clear o2 q hHeld O1
        refine hK.out _ _ (⟨(Y13.out.below BB.out).c4, (Y14.out.below BB.out).c4⟩) (fun hHeld => ?_)
        clear hK K
        try simp only [Act.put, List.getElem_toArray, List.getElem_cons_zero, List.getElem_cons_succ, List.setIfInBounds_toArray, List.set_cons_zero, List.set_cons_succ]
        refine wpAnyH_ready (rs := [6]) (by kernel_rfl) (by simp) ?_
        refine (AllReadyH.cons rfl (fun K hK => ?_) AllReadyH.nil)
        dsimp only [List.getElem_toArray, List.getElem_cons_zero, List.getElem_cons_succ]
        go_simp
        have bb := below_box uB (.cells #[.slice ra1 4 rk1, .bool true, .slice ra2 4 rk2, .bool false] 104)
        have xx := BoxAt.new uB #[.slice ra1 4 rk1, .bool true, .slice ra2 4 rk2, .bool false] 104
        obtain ⟨gx, hgx⟩ : ∃ gx, gx = uB.heap.size := ⟨_, rfl⟩
        rw [← hgx] at xx ⊢
        generalize uB.alloc (.cells #[.slice ra1 4 rk1, .bool true, .slice ra2 4 rk2, .bool false] 104) = uC at bb xx ⊢
        have XX := hide xx
        have S1 := hide (Own.below P1.out bb)
        have S2 := hide (Own.below O2.out bb)
        have BC := hide (BB.out.trans (bb.mono BB.out.size))
        have MC : Hid (uB.heap.size ≤ uC.heap.size) := bb.size
        clear bb xx hgx hHeld P1 O2
        refine hK.out _ _ (⟨(Y13.out.below BC.out).c4, (Y14.out.below BC.out).c4⟩) (fun hHeld => ?_)
        clear hK K
        try simp only [Act.put, List.getElem_toArray, List.getElem_cons_zero, List.getElem_cons_succ, List.setIfInBounds_toArray, List.set_cons_zero, List.set_cons_succ]
        refine wpAnyH_ready (rs := [7]) (by kernel_rfl) (by simp) ?_
        refine (AllReadyH.cons rfl (fun K hK => ?_) AllReadyH.nil)
        refine step_app_br2 (by rfl) (.tmp 68) (.tmp 73) (by rfl) w.heap.size V0.heap.size uA.heap.size (.slice ap4 m.length cp4) (by rfl) _ us _ m (PV6.out.br.below BC.out) gx (by rfl) ra1 ra2 4 rk1 4 rk2 ([e1, f1, g1, h1], true) ([a1, b1, c1, d1], false) XX.out (ownsRow_mono S1.out (Nat.le_trans PV6.out.low.size (Nat.le_refl _))) (ownsRow_mono S2.out (Nat.le_trans PV6.out.low.size BA.out.size)) (fun b hb => ⟨T1.out b hb, (World.ownsRow.lt S1.out b hb).1⟩) (fun b hb => (World.ownsRow.lt S2.out b hb).1) BA.out.size (Nat.le_trans AB.out MC.out) (by omega) (Nat.le_trans PV6.out.low.size BC.out.size) ?_
        intro v6 w6 n6 g6
        have PVC := PV6.out.step BC.out
        obtain ⟨bo, pv8⟩ := PVC.appB n6 g6
        obtain ⟨va6, vc6, hv6⟩ := n6.slice
        obtain ⟨L6, hL6⟩ : ∃ L, L = (m ++ [([e1, f1, g1, h1], true), ([a1, b1, c1, d1], false)]).length := ⟨_, rfl⟩
        rw [← hL6] at hv6
        subst hv6
        have y13 := (Y13.out.below BC.out).kept g6 ((Y13.out.below BC.out).offT PVC.br.head (by decide))
        have y14 := (Y14.out.below BC.out).kept g6 ((Y14.out.below BC.out).offT PVC.br.head (by decide))
        have PV8 := hide pv8
        have BO := hide bo
        have Z13 := hide y13
        have Z14 := hide y14
        clear n6 g6 bo pv8 y13 y14 hL6 hHeld PVC Y13 Y14 S1 S2 XX T1
        refine hK.out _ _ (⟨Z13.out.c4, Z14.out.c4⟩) (fun hHeld => ?_)
        clear hK K
        try simp only [Act.put, List.getElem_toArray, List.getElem_cons_zero, List.getElem_cons_succ, List.setIfInBounds_toArray, List.set_cons_zero, List.set_cons_succ]
        refine wpAnyH_take (i := 8) (v := ?v5) rfl (by kernel_rfl) (by kernel_rfl) (by kernel_rfl) (fun _ _ _ h => h) (Or.inl ⟨by rfl, ?hy5⟩) (by assumption) ?rest5
        case hy5 => (intro w' hSw; dsimp only [List.getElem_toArray, List.getElem_cons_zero, List.getElem_cons_succ] at hSw ⊢; go_simp; try (with_reducible rfl))
        try simp only [Act.put, List.getElem_toArray, List.getElem_cons_zero, List.getElem_cons_succ, List.setIfInBounds_toArray, List.set_cons_zero, List.set_cons_succ]
        refine wpAnyH_ready (rs := [9]) (by kernel_rfl) (by simp) ?_
        refine (AllReadyH.cons rfl (fun K hK => ?_) AllReadyH.nil)
        obtain ⟨q0, q1⟩ := BO.out.c2
        have qf := BO.out.frozen 0
        dsimp only [List.getElem_toArray, List.getElem_cons_zero, List.getElem_cons_succ]
        go_simp
        clear q0 q1 qf hHeld
        refine hK.out _ _ (⟨(Z13.out.other N13.out).c4, (Z14.out.other N14.out).c4⟩) (fun hHeld => ?_)
        clear hK K
        try simp only [Act.put, List.getElem_toArray, List.getElem_cons_zero, List.getElem_cons_succ, List.setIfInBounds_toArray, List.set_cons_zero, List.set_cons_succ]
        refine wpAnyH_done (by kernel_rfl) ?_ _
        refine NoPanic.normal ?_
        clear hHeld Z13 Z14 BO
        obtain ⟨w9, hw9⟩ : ∃ u, u = w6.setCell ⟨gO, 0, none⟩ (.slice va6 L6 vc6) := ⟨_, rfl⟩
        have pv8 := PV8.out
        rw [← hw9] at pv8 ⊢
        clear hw9 PV8
        obtain ⟨o0, o1⟩ := pv8.out.c2
        have PV9 := hide (pv8.step (below_box w9 (.cells #[.int .i64 ((m.length : Int) + 1)] 3)))
        have RX : Hid (Rd (w9.alloc (.cells #[.int .i64 ((m.length : Int) + 1)] 3)) (.slice (some ⟨w9.heap.size, 0, none⟩) 1 1) [(m.length : Int) + 1]) := rd_singleR
        clear pv8
        go_wp2_with (refine wpList_app_int rfl _ _ rfl w.heap.size (.slice ar4 vs.length cr4) rfl vs (PV9.out.br.rowE 0 (by simp)) (.slice (some ⟨w9.heap.size, 0, none⟩) 1 1) rfl [(m.length : Int) + 1] RX.out (by simp only [List.length_singleton]; omega) PV9.out.low.size ?_)
        intro v7 w7 o7 g7 at7
        obtain ⟨bo, pv7⟩ := PV9.out.appR o7 g7 (by rw [World.size_alloc]; exact at7)
        obtain ⟨q0, q1⟩ := bo.c2
        have qf := bo.frozen 1
        obtain ⟨a7, k7, hv7⟩ := row_slice o7
        obtain ⟨L7, hL7⟩ : ∃ L, L = (vs ++ [(m.length : Int) + 1]).length := ⟨_, rfl⟩
        rw [← hL7] at hv7
        subst hv7
        obtain ⟨s0, s1⟩ := pv7.out.c2
        obtain ⟨r0, r1⟩ := pv7.res.c2
        have rf0 := pv7.res.frozen 0
        have rf1 := pv7.res.frozen 1
        have fin := pv7.fin
        rw [← HX2.out, ← HY2.out] at fin
        have FIN := hide fin
        clear o7 g7 at7 bo pv7 PV9 RX o0 o1 hL7 fin
        go_wp2
        exact bodyPost_ret (res_pl2 rfl _ _ (w.heap.size + 1) _ _ (0, 0) rfl FIN.out.1) rfl ⟨_, _, rfl, FIN.out.2.1, FIN.out.2.2⟩
      · dsimp only [List.getElem_toArray, List.getElem_cons_zero, List.getElem_cons_succ]
        go_simp
        refine (stemBranch_calls a1 b1 c1 d1 _).mono ?_
        rintro e' uB ⟨ra2, rk2, rfl, o2, q⟩
        have O2 := hide o2
        have P1 := hide (Own.below O1.out q)
        have AB : Hid (uA.heap.size ≤ uB.heap.size) := q.size
        have BB := hide (BA.out.trans (q.mono BA.out.size))
        clear o2 q hHeld O1
        refine hK.out _ _ (⟨(Y13.out.below BB.out).c4, (Y14.out.below BB.out).c4⟩) (fun hHeld => ?_)
        clear hK K
        try simp only [Act.put, List.getElem_toArray, List.getElem_cons_zero, List.getElem_cons_succ, List.setIfInBounds_toArray, List.set_cons_zero, List.set_cons_succ]
        refine wpAnyH_ready (rs := [1, 6]) (by kernel_rfl) (by simp) ?_
        refine (AllReadyH.cons rfl (fun K hK => ?_) (AllReadyH.cons rfl (fun K hK => ?_) AllReadyH.nil))
        · obtain ⟨o0, o1⟩ := (PV6.out.out.below BB.out).c2
          dsimp only [List.getElem_toArray, List.getElem_cons_zero, List.getElem_cons_succ]
          go_simp
          clear o0 o1 hHeld
          refine hK.out _ _ (⟨(Y13.out.below BB.out).c4, (Y14.out.below BB.out).c4⟩) (fun hHeld => ?_)
          clear hK K
          try simp only [Act.put, List.getElem_toArray, List.getElem_cons_zero, List.getElem_cons_succ, List.setIfInBounds_toArray, List.set_cons_zero, List.set_cons_succ]
          refine wpAnyH_ready (rs := [6]) (by kernel_rfl) (by simp) ?_
          refine (AllReadyH.cons rfl (fun K hK => ?_) AllReadyH.nil)
          dsimp only [List.getElem_toArray, List.getElem_cons_zero, List.getElem_cons_succ]
          go_simp
          have bb := below_box uB (.cells #[.slice ra1 4 rk1, .bool true, .slice ra2 4 rk2, .bool false] 104)
          have xx := BoxAt.new uB #[.slice ra1 4 rk1, .bool true, .slice ra2 4 rk2, .bool false] 104
          obtain ⟨gx, hgx⟩ : ∃ gx, gx = uB.heap.size := ⟨_, rfl⟩
          rw [← hgx] at xx ⊢
          generalize uB.alloc (.cells #[.slice ra1 4 rk1, .bool true, .slice ra2 4 rk2, .bool false] 104) = uC at bb xx ⊢
          have XX := hide xx
          have S1 := hide (Own.below P1.out bb)
          have S2 := hide (Own.below O2.out bb)
          have BC := hide (BB.out.trans (bb.mono BB.out.size))
          have MC : Hid (uB.heap.size ≤ uC.heap.size) := bb.size
          clear bb xx hgx hHeld P1 O2
          refine hK.out _ _ (⟨(Y13.out.below BC.out).c4, (Y14.out.below BC.out).c4⟩) (fun hHeld => ?_)
          clear hK K
          try simp only [Act.put, List.getElem_toArray, List.getElem_cons_zero, List.getElem_cons_succ, List.setIfInBounds_toArray, List.set_cons_zero, List.set_cons_succ]
          refine wpAnyH_ready (rs := [7]) (by kernel_rfl) (by simp) ?_
          refine (AllReadyH.cons rfl (fun K hK => ?_) AllReadyH.nil)
          refine step_app_br2 (by rfl) (.tmp 68) (.tmp 73) (by rfl) w.heap.size V0.heap.size uA.heap.size (.slice ap4 m.length cp4) (by rfl) _ us _ m (PV6.out.br.below BC.out) gx (by rfl) ra1 ra2 4 rk1 4 rk2 ([e1, f1, g1, h1], true) ([a1, b1, c1, d1], false) XX.out (ownsRow_mono S1.out (Nat.le_trans PV6.out.low.size (Nat.le_refl _))) (ownsRow_mono S2.out (Nat.le_trans PV6.out.low.size BA.out.size)) (fun b hb => ⟨T1.out b hb, (World.ownsRow.lt S1.out b hb).1⟩) (fun b hb => (World.ownsRow.lt S2.out b hb).1) BA.out.size (Nat.le_trans AB.out MC.out) (by omega) (Nat.le_trans PV6.out.low.size BC.out.size) ?_
          intro v6 w6 n6 g6
          have PVC := PV6.out.step BC.out
          obtain ⟨bo, pv8⟩ := PVC.appB n6 g6
          obtain ⟨va6, vc6, hv6⟩ := n6.slice
          obtain ⟨L6, hL6⟩ : ∃ L, L = (m ++ [([e1, f1, g1, h1], true), ([a1, b1, c1, d1], false)]).length := ⟨_, rfl⟩
          rw [← hL6] at hv6
          subst hv6
          have y13 := (Y13.out.below BC.out).kept g6 ((Y13.out.below BC.out).offT PVC.br.head (by decide))
          have y14 := (Y14.out.below BC.out).kept g6 ((Y14.out.below BC.out).offT PVC.br.head (by decide))
          have PV8 := hide pv8
          have BO := hide bo
          have Z13 := hide y13
          have Z14 := hide y14
          clear n6 g6 bo pv8 y13 y14 hL6 hHeld PVC Y13 Y14 S1 S2 XX T1
          refine hK.out _ _ (⟨Z13.out.c4, Z14.out.c4⟩) (fun hHeld => ?_)
          clear hK K
          try simp only [Act.put, List.getElem_toArray, List.getElem_cons_zero, List.getElem_cons_succ, List.setIfInBounds_toArray, List.set_cons_zero, List.set_cons_succ]
          refine wpAnyH_take (i := 8) (v := ?v6) rfl (by kernel_rfl) (by kernel_rfl) (by kernel_rfl) (fun _ _ _ h => h) (Or.inl ⟨by rfl, ?hy6⟩) (by assumption) ?rest6
          case hy6 => (intro w' hSw; dsimp only [List.getElem_toArray, List.getElem_cons_zero, List.getElem_cons_succ] at hSw ⊢; go_simp; try (with_reducible rfl))
          try simp only [Act.put, List.getElem_toArray, List.getElem_cons_zero, List.getElem_cons_succ, List.setIfInBounds_toArray, List.set_cons_zero, List.set_cons_succ]
          refine wpAnyH_ready (rs := [9]) (by kernel_rfl) (by simp) ?_
          refine (AllReadyH.cons rfl (fun K hK => ?_) AllReadyH.nil)
          obtain ⟨q0, q1⟩ := BO.out.c2
          have qf := BO.out.frozen 0
          dsimp only [List.getElem_toArray, List.getElem_cons_zero, List.getElem_cons_succ]
          go_simp
          clear q0 q1 qf hHeld
          refine hK.out _ _ (⟨(Z13.out.other N13.out).c4, (Z14.out.other N14.out).c4⟩) (fun hHeld => ?_)
          clear hK K
          try simp only [Act.put, List.getElem_toArray, List.getElem_cons_zero, List.getElem_cons_succ, List.setIfInBounds_toArray, List.set_cons_zero, List.set_cons_succ]
          refine wpAnyH_done (by kernel_rfl) ?_ _
          refine NoPanic.normal ?_
          clear hHeld Z13 Z14 BO
          obtain ⟨w9, hw9⟩ : ∃ u, u = w6.setCell ⟨gO, 0, none⟩ (.slice va6 L6 vc6) := ⟨_, rfl⟩
          have pv8 := PV8.out
          rw [← hw9] at pv8 ⊢
          clear hw9 PV8
          obtain ⟨o0, o1⟩ := pv8.out.c2
          have PV9 := hide (pv8.step (below_box w9 (.cells #[.int .i64 ((m.length : Int) + 1)] 3)))
          have RX : Hid (Rd (w9.alloc (.cells #[.int .i64 ((m.length : Int) + 1)] 3)) (.slice (some ⟨w9.heap.size, 0, none⟩) 1 1) [(m.length : Int) + 1]) := rd_singleR
          clear pv8
          go_wp2_with (refine wpList_app_int rfl _ _ rfl w.heap.size (.slice ar4 vs.length cr4) rfl vs (PV9.out.br.rowE 0 (by simp)) (.slice (some ⟨w9.heap.size, 0, none⟩) 1 1) rfl [(m.length : Int) + 1] RX.out (by simp only [List.length_singleton]; omega) PV9.out.low.size ?_)
          intro v7 w7 o7 g7 at7
          obtain ⟨bo, pv7⟩ := PV9.out.appR o7 g7 (by rw [World.size_alloc]; exact at7)
          obtain ⟨q0, q1⟩ := bo.c2
          have qf := bo.frozen 1
          obtain ⟨a7, k7, hv7⟩ := row_slice o7
          obtain ⟨L7, hL7⟩ : ∃ L, L = (vs ++ [(m.length : Int) + 1]).length := ⟨_, rfl⟩
          rw [← hL7] at hv7
          subst hv7
          obtain ⟨s0, s1⟩ := pv7.out.c2
          obtain ⟨r0, r1⟩ := pv7.res.c2
          have rf0 := pv7.res.frozen 0
          have rf1 := pv7.res.frozen 1
          have fin := pv7.fin
          rw [← HX2.out, ← HY2.out] at fin
          have FIN := hide fin
          clear o7 g7 at7 bo pv7 PV9 RX o0 o1 hL7 fin
          go_wp2
          exact bodyPost_ret (res_pl2 rfl _ _ (w.heap.size + 1) _ _ (0, 0) rfl FIN.out.1) rfl ⟨_, _, rfl, FIN.out.2.1, FIN.out.2.2⟩
        · dsimp only [List.getElem_toArray, List.getElem_cons_zero, List.getElem_cons_succ]
          go_simp
          have bb := below_box uB (.cells #[.slice ra1 4 rk1, .bool true, .slice ra2 4 rk2, .bool false] 104)
          have xx := BoxAt.new uB #[.slice ra1 4 rk1, .bool true, .slice ra2 4 rk2, .bool false] 104
          obtain ⟨gx, hgx⟩ : ∃ gx, gx = uB.heap.size := ⟨_, rfl⟩
          rw [← hgx] at xx ⊢
          generalize uB.alloc (.cells #[.slice ra1 4 rk1, .bool true, .slice ra2 4 rk2, .bool false] 104) = uC at bb xx ⊢
          have XX := hide xx
          have S1 := hide (Own.below P1.out bb)
          have S2 := hide (Own.below O2.out bb)
          have BC := hide (BB.out.trans (bb.mono BB.out.size))
          have MC : Hid (uB.heap.size ≤ uC.heap.size) := bb.size
          clear bb xx hgx hHeld P1 O2
          refine hK.out _ _ (⟨(Y13.out.below BC.out).c4, (Y14.out.below BC.out).c4⟩) (fun hHeld => ?_)
          clear hK K
          try simp only [Act.put, List.getElem_toArray, List.getElem_cons_zero, List.getElem_cons_succ, List.setIfInBounds_toArray, List.set_cons_zero, List.set_cons_succ]
          refine wpAnyH_ready (rs := [1]) (by kernel_rfl) (by simp) ?_
          refine (AllReadyH.cons rfl (fun K hK => ?_) AllReadyH.nil)
          obtain ⟨o0, o1⟩ := (PV6.out.out.below BC.out).c2
          dsimp only [List.getElem_toArray, List.getElem_cons_zero, List.getElem_cons_succ]
          go_simp
          clear o0 o1 hHeld
          refine hK.out _ _ (⟨(Y13.out.below BC.out).c4, (Y14.out.below BC.out).c4⟩) (fun hHeld => ?_)
          clear hK K
          try simp only [Act.put, List.getElem_toArray, List.getElem_cons_zero, List.getElem_cons_succ, List.setIfInBounds_toArray, List.set_cons_zero, List.set_cons_succ]
          refine wpAnyH_ready (rs := [7]) (by kernel_rfl) (by simp) ?_
          refine (AllReadyH.cons rfl (fun K hK => ?_) AllReadyH.nil)
          refine step_app_br2 (by rfl) (.tmp 68) (.tmp 73) (by rfl) w.heap.size V0.heap.size uA.heap.size (.slice ap4 m.length cp4) (by rfl) _ us _ m (PV6.out.br.below BC.out) gx (by rfl) ra1 ra2 4 rk1 4 rk2 ([e1, f1, g1, h1], true) ([a1, b1, c1, d1], false) XX.out (ownsRow_mono S1.out (Nat.le_trans PV6.out.low.size (Nat.le_refl _))) (ownsRow_mono S2.out (Nat.le_trans PV6.out.low.size BA.out.size)) (fun b hb => ⟨T1.out b hb, (World.ownsRow.lt S1.out b hb).1⟩) (fun b hb => (World.ownsRow.lt S2.out b hb).1) BA.out.size (Nat.le_trans AB.out MC.out) (by omega) (Nat.le_trans PV6.out.low.size BC.out.size) ?_
          intro v6 w6 n6 g6
          have PVC := PV6.out.step BC.out
          obtain ⟨bo, pv8⟩ := PVC.appB n6 g6
          obtain ⟨va6, vc6, hv6⟩ := n6.slice
          obtain ⟨L6, hL6⟩ : ∃ L, L = (m ++ [([e1, f1, g1, h1], true), ([a1, b1, c1, d1], false)]).length := ⟨_, rfl⟩
          rw [← hL6] at hv6
          subst hv6
          have y13 := (Y13.out.below BC.out).kept g6 ((Y13.out.below BC.out).offT PVC.br.head (by decide))
          have y14 := (Y14.out.below BC.out).kept g6 ((Y14.out.below BC.out).offT PVC.br.head (by decide))
          have PV8 := hide pv8
          have BO := hide bo
          have Z13 := hide y13
          have Z14 := hide y14
          clear n6 g6 bo pv8 y13 y14 hL6 hHeld PVC Y13 Y14 S1 S2 XX T1
          refine hK.out _ _ (⟨Z13.out.c4, Z14.out.c4⟩) (fun hHeld => ?_)
          clear hK K
          try simp only [Act.put, List.getElem_toArray, List.getElem_cons_zero, List.getElem_cons_succ, List.setIfInBounds_toArray, List.set_cons_zero, List.set_cons_succ]
          refine wpAnyH_take (i := 8) (v := ?v7) rfl (by kernel_rfl) (by kernel_rfl) (by kernel_rfl) (fun _ _ _ h => h) (Or.inl ⟨by rfl, ?hy7⟩) (by assumption) ?rest7
          case hy7 => (intro w' hSw; dsimp only [List.getElem_toArray, List.getElem_cons_zero, List.getElem_cons_succ] at hSw ⊢; go_simp; try (with_reducible rfl))
          try simp only [Act.put, List.getElem_toArray, List.getElem_cons_zero, List.getElem_cons_succ, List.setIfInBounds_toArray, List.set_cons_zero, List.set_cons_succ]
          refine wpAnyH_ready (rs := [9]) (by kernel_rfl) (by simp) ?_
          refine (AllReadyH.cons rfl (fun K hK => ?_) AllReadyH.nil)
          obtain ⟨q0, q1⟩ := BO.out.c2
          have qf := BO.out.frozen 0
          dsimp only [List.getElem_toArray, List.getElem_cons_zero, List.getElem_cons_succ]
          go_simp
          clear q0 q1 qf hHeld
          refine hK.out _ _ (⟨(Z13.out.other N13.out).c4, (Z14.out.other N14.out).c4⟩) (fun hHeld => ?_)
          clear hK K
          try simp only [Act.put, List.getElem_toArray, List.getElem_cons_zero, List.getElem_cons_succ, List.setIfInBounds_toArray, List.set_cons_zero, List.set_cons_succ]
          refine wpAnyH_done (by kernel_rfl) ?_ _
          refine NoPanic.normal ?_
          clear hHeld Z13 Z14 BO
          obtain ⟨w9, hw9⟩ : ∃ u, u = w6.setCell ⟨gO, 0, none⟩ (.slice va6 L6 vc6) := ⟨_, rfl⟩
          have pv8 := PV8.out
          rw [← hw9] at pv8 ⊢
          clear hw9 PV8
          obtain ⟨o0, o1⟩ := pv8.out.c2
          have PV9 := hide (pv8.step (below_box w9 (.cells #[.int .i64 ((m.length : Int) + 1)] 3)))
          have RX : Hid (Rd (w9.alloc (.cells #[.int .i64 ((m.length : Int) + 1)] 3)) (.slice (some ⟨w9.heap.size, 0, none⟩) 1 1) [(m.length : Int) + 1]) := rd_singleR
          clear pv8
          go_wp2_with (refine wpList_app_int rfl _ _ rfl w.heap.size (.slice ar4 vs.length cr4) rfl vs (PV9.out.br.rowE 0 (by simp)) (.slice (some ⟨w9.heap.size, 0, none⟩) 1 1) rfl [(m.length : Int) + 1] RX.out (by simp only [List.length_singleton]; omega) PV9.out.low.size ?_)
          intro v7 w7 o7 g7 at7
          obtain ⟨bo, pv7⟩ := PV9.out.appR o7 g7 (by rw [World.size_alloc]; exact at7)
          obtain ⟨q0, q1⟩ := bo.c2
          have qf := bo.frozen 1
          obtain ⟨a7, k7, hv7⟩ := row_slice o7
          obtain ⟨L7, hL7⟩ : ∃ L, L = (vs ++ [(m.length : Int) + 1]).length := ⟨_, rfl⟩
          rw [← hL7] at hv7
          subst hv7
          obtain ⟨s0, s1⟩ := pv7.out.c2
          obtain ⟨r0, r1⟩ := pv7.res.c2
          have rf0 := pv7.res.frozen 0
          have rf1 := pv7.res.frozen 1
          have fin := pv7.fin
          rw [← HX2.out, ← HY2.out] at fin
          have FIN := hide fin
          clear o7 g7 at7 bo pv7 PV9 RX o0 o1 hL7 fin
          go_wp2
          exact bodyPost_ret (res_pl2 rfl _ _ (w.heap.size + 1) _ _ (0, 0) rfl FIN.out.1) rfl ⟨_, _, rfl, FIN.out.2.1, FIN.out.2.2⟩
end Go.Proofs.Ythmijjcddjlebaa

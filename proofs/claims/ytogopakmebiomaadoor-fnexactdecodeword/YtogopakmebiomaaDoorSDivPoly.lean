/-
  The model's division of two polynomials at every argument that can be read, call by call; with the program's, at every argument. The program's table of rests must hold its seven numbers where the program's own function is called.
-/
import Derived.Test.YtogopakmebiomaaDoorDivPoly
namespace Go.Proofs.YtogopakmebiomaaDoor
open Go.RowKit
namespace Gf

set_option maxRecDepth 100000 in
set_option maxHeartbeats 1600000 in
theorem sDivPoly_no (pv qv : Value) (xs ys : List Int) (w : World) (hp : Rd w pv xs) (hq : Rd w qv ys) (h : ¬ (goodP xs = true ∧ goodP ys = true ∧ ys.length ≠ 0)) :
    Calls Tryd.prog 70 #[pv, qv] w fun e w' => e = .returned (.tuple #[.slice none 0 0, .slice none 0 0, .bool false]) ∧ w = w' := by
  have P := hide hp
  have Q := hide hq
  clear hp hq
  cases hgx : goodP xs with
  | false =>
    have G := hide hgx
    clear hgx h
    go_enter Tryd.func70, Tryd.ntmps70
    go_wp2_with (go_at_call 126; refine (l1Poly_calls pv xs _ P.out).mono ?_; rw [G.out]; rintro e w' ⟨rfl, rfl⟩)
    go_ret3
    exact ⟨rfl, rfl⟩
  | true =>
    have G := hide hgx
    cases hgy : goodP ys with
    | false =>
      have G2 := hide hgy
      clear hgx hgy h
      go_enter Tryd.func70, Tryd.ntmps70
      go_wp2_with fail
      refine (l1Poly_calls pv xs _ P.out).mono ?_
      rw [G.out]
      rintro e w' ⟨rfl, rfl⟩
      go_wp2_with fail
      refine (l1Poly_calls qv ys _ Q.out).mono ?_
      rw [G2.out]
      rintro e w' ⟨rfl, rfl⟩
      go_wp2
      go_ret3
      exact ⟨rfl, rfl⟩
    | true =>
      have G2 := hide hgy
      have h0 : ys.length = 0 := by
        by_cases e : ys.length = 0
        · exact e
        · exact absurd ⟨hgx, hgy, e⟩ h
      obtain ⟨qa, qcap, rfl, _, _, _⟩ := Q.out
      have t1 : ((ys.length : Int) == 0) = true := by simp [List.eq_nil_of_length_eq_zero h0]
      clear hgx hgy h h0
      go_enter Tryd.func70, Tryd.ntmps70
      go_wp2_with fail
      refine (l1Poly_calls pv xs _ P.out).mono ?_
      rw [G.out]
      rintro e w' ⟨rfl, rfl⟩
      go_wp2_with fail
      refine (l1Poly_calls _ ys _ Q.out).mono ?_
      rw [G2.out]
      rintro e w' ⟨rfl, rfl⟩
      go_wp2
      go_ret3
      exact ⟨rfl, rfl⟩

/-- How far the model's division goes: no step where the first is shorter. -/
def steps (xs ys : List Int) : Nat := if xs.length < ys.length then 0 else xs.length - ys.length + 1

set_option maxRecDepth 100000 in
set_option maxHeartbeats 3200000 in
theorem sDivPoly_yes (pv qv : Value) (xs ys : List Int) (w : World) (hp : Rd w pv xs) (hq : Rd w qv ys) (hx : goodP xs = true) (hy : goodP ys = true) (h0 : ys.length ≠ 0) :
    Calls Tryd.prog 70 #[pv, qv] w fun e w' => ∃ v1 v2, e = .returned (.tuple #[v1, v2, .bool true]) ∧
      Two w w' v1 v2 (cutL (ci (dv (nat xs) (nat ys) (xs.length - ys.length) xs.length (steps xs ys)).2)) (cutL (ci (dv (nat xs) (nat ys) (xs.length - ys.length) xs.length (steps xs ys)).1)) := by
  have P := hide hp
  have Q := hide hq
  have G := hide hx
  have G2 := hide hy
  have lx := goodP_len hx
  have ly := goodP_len hy
  have GX := hide (goodP_mem hx)
  have GY := hide (goodP_mem hy)
  have AY := hide (goodP_all hy)
  have hlast := goodP_all hy (ys.length - 1) (by omega)
  obtain ⟨m, hm⟩ : ∃ m, m = xs.length - ys.length := ⟨_, rfl⟩
  obtain ⟨st, hst⟩ : ∃ st, st = steps xs ys := ⟨_, rfl⟩
  rw [← hm, ← hst]
  have hstep : (xs.length : Int) - (ys.length : Int) < 0 ∧ st = 0 ∨ (xs.length : Int) - (ys.length : Int) = (m : Int) ∧ st = m + 1 ∧ xs.length = m + ys.length := by
    unfold steps at hst
    split at hst <;> omega
  clear hm hst
  obtain ⟨pa, pcap, rfl, _, _, _⟩ := P.out
  have hq' := hq
  obtain ⟨qa, qcap, rfl, _, _, h3⟩ := hq'
  clear hp hq hx hy
  rcases h3 with h3 | ⟨qb, qoff, rfl, hqs, hqc⟩
  · subst h3; simp at h0
  have hqc1 := hqc (ys.length - 1) (by omega)
  have QC := hide hqc
  clear hqc
  obtain ⟨t, ht⟩ : ∃ t, t = (nat ys).getD (ys.length - 1) 0 := ⟨_, rfl⟩
  have htx : ys.getD (ys.length - 1) 0 = (t : Int) := by
    have := ci_getD (nat ys) (ys.length - 1)
    rw [ci_natp GY.out] at this
    rw [this, ht]
  have ht256 : t < 256 := by omega
  rw [htx] at hqc1
  have HTop := hide ht
  clear ht htx hlast
  have t1 : ((ys.length : Int) == 0) = false := by simp; intro e; simp [e] at h0
  have hly : 0 < ys.length := by omega
  have f1 : ((ys.length : Int) - 1).toNat = ys.length - 1 := by omega
  have f2 : (0 : Int) ≤ (ys.length : Int) - 1 := by omega
  have f3 : (ys.length : Int) - 1 < (ys.length : Int) := by omega
  have HS := hide hstep
  clear h0 hstep
  have OO : Hid (Own (w.alloc (.cells #[] 3)) w.heap.size (.slice (some ⟨w.heap.size, 0, none⟩) 0 0) []) :=
    World.ownsRow_lit w #[] 0 (Nat.le_refl _) (Nat.zero_le _) (by rfl)
  have RR := hide (P.out.below ((Below.refl w.heap.size w).alloc (Nat.le_refl _) (.cells #[] 3)))
  go_enter Tryd.func70, Tryd.ntmps70
  go_wp2_with fail
  refine (l1Poly_calls _ xs _ P.out).mono ?_
  rw [G.out]
  rintro e w' ⟨rfl, rfl⟩
  go_wp2_with fail
  refine (l1Poly_calls _ ys _ Q.out).mono ?_
  rw [G2.out]
  rintro e w' ⟨rfl, rfl⟩
  go_wp2_with (first
    | (at_builtin; refine wpList_append_rd rfl _ _ rfl w.heap.size _ 0 [] xs rfl OO.out _ rfl RR.out (by omega) (by simp) ?_; intro vr w1 hown1 hg1; have hb1 : Below w.heap.size w w1 := ((Below.refl _ _).alloc (Nat.le_refl _) _).grown hg1 (by simp) (fun k hk => (OO.out.lt k hk).1))
    | (at_make; refine wpList_make_ints rfl _ _ rfl w1.heap.size _ _ xs.length rfl rfl (by omega) (by omega) (by omega) (Nat.le_refl _) ?_; intro w2 hown2 hgrow2; have hqc2 : w2.cell? ⟨qb, qoff + (ys.length - 1), none⟩ = some (.int .i64 (t : Nat)) := ((hb1.grown hgrow2 hb1.size (fun k h => by cases h)).cell (p := ⟨qb, qoff + (ys.length - 1), none⟩) hqs).trans hqc1))
  have B2 := hide (hb1.grown hgrow2 hb1.size (fun k h => by cases h))
  have OQ : Hid (w2.ownsRow w1.heap.size 3 1 (.slice (some ⟨w1.heap.size, 0, none⟩) xs.length xs.length) xs.length ((ci (dv (nat xs) (nat ys) m xs.length 0).2).map (Value.int .i64))) := by
    have h := hown2
    unfold Own at h
    rw [List.length_replicate] at h
    have e : (ci (dv (nat xs) (nat ys) m xs.length 0).2).map (Value.int .i64) = (List.replicate xs.length (0 : Int)).map (Value.int .i64) := by simp [dv, ci]
    rw [e]
    exact h
  have OR : Hid (Own w2 w.heap.size vr (ci (dv (nat xs) (nat ys) m xs.length 0).1)) := by
    have h : Own w2 w.heap.size vr xs := World.ownsRow.kept hown1 hgrow2 (by cases hv : vr.ownBlock <;> simp)
    show Own w2 w.heap.size vr (ci (nat xs))
    rw [ci_natp GX.out]
    exact h
  have hvlt : ∀ k, vr.ownBlock = some k → w.heap.size ≤ k ∧ k < w1.heap.size := fun k hk => hown1.lt k hk
  have HV := hide hvlt
  have hlt1 := hb1.size
  clear hown1 hg1 hb1 hown2 hgrow2 hvlt hqc1
  rcases HS.out with ⟨hneg, hst⟩ | ⟨hpos, hst, hlen⟩
  · subst hst
    have HL : Hid (Own w2 w1.heap.size (.slice (some ⟨w1.heap.size, 0, none⟩) xs.length xs.length) (ci (dv (nat xs) (nat ys) m xs.length 0).2)) := by
      show World.ownsRow _ _ _ _ _ (ci _).length _
      rw [ci_length, dv_len2]
      exact OQ.out
    clear OQ HS
    go_wp2
    refine wp_loop_rounds 1 ?_
    rw [rounds_succ]
    go_wp2_with fail
    refine (l1Cut_calls _ _ _ HL.out.rd (by rw [ci_length, dv_len2]; omega)).mono ?_
    rintro e w3 ⟨v1, rfl, ho3, hb3⟩
    have O3 := hide ho3
    have B3 := hide hb3
    have R3 := hide (Own.below OR.out hb3)
    clear ho3 hb3
    go_wp2_with fail
    refine (l1Cut_calls _ _ _ R3.out.rd (by rw [ci_length, dv_len1, nat_length]; omega)).mono ?_
    rintro e w4 ⟨v2, rfl, ho4, hb4⟩
    have R : Hid (Two w w4 v1 v2 (cutL (ci (dv (nat xs) (nat ys) m xs.length 0).2)) (cutL (ci (dv (nat xs) (nat ys) m xs.length 0).1))) := by
      refine ⟨Own.mono (Own.below O3.out hb4) B2.out.size, Own.mono ho4 (Nat.le_trans B2.out.size B3.out.size), ?_, (B2.out.trans (B3.out.mono B2.out.size)).trans (hb4.mono (Nat.le_trans B2.out.size B3.out.size))⟩
      cases hv : v1.ownBlock with
      | none => exact .inl rfl
      | some k =>
        right
        intro e
        have h1 := (O3.out.lt k hv).2
        have h2 := (ho4.lt k e.symm).1
        omega
    clear ho4 hb4
    go_wp2
    go_ret3
    exact ⟨_, _, rfl, R.out⟩
  · subst hst
    have EM := hide hlen
    have hmx : m + 1 ≤ xs.length := by omega
    clear hlen
    have OR' : Hid (w2.ownsRow w.heap.size 3 1 vr xs.length ((ci (dv (nat xs) (nat ys) m xs.length 0).1).map (Value.int .i64))) := by
      have h := OR.out
      unfold Own at h
      rw [ci_length, dv_len1, nat_length] at h
      exact h
    obtain ⟨g, cap, hv, _⟩ := Own.open OR.out (by rw [ci_length, dv_len1, nat_length]; omega)
    rw [ci_length, dv_len1, nat_length] at hv
    subst hv
    have hg1 : w.heap.size ≤ g := (HV.out g rfl).1
    have hg2 : g < w1.heap.size := (HV.out g rfl).2
    clear OR HS HV
    rw [hpos]
    clear hpos
    go_wp2
    go_loopw [10] (fun vk wr => ∃ j : Nat, j ≤ m + 1 ∧ vk = .int .i64 ((m : Int) - (j : Int)) ∧
        wr.ownsRow w.heap.size 3 1 (.slice (some ⟨g, 0, none⟩) xs.length cap) xs.length ((ci (dv (nat xs) (nat ys) m xs.length j).1).map (Value.int .i64)) ∧
        wr.ownsRow w1.heap.size 3 1 (.slice (some ⟨w1.heap.size, 0, none⟩) xs.length xs.length) xs.length ((ci (dv (nat xs) (nat ys) m xs.length j).2).map (Value.int .i64)) ∧ Below w.heap.size w wr) (fun vk _ => (intOf vk + 1).toNat)
    case atStart => exact ⟨0, Nat.zero_le _, by go_num, OR'.out, OQ.out, B2.out⟩
    case round =>
      obtain ⟨j, hj, rfl, hol, hoq, hb⟩ := hrel
      have L := hide hol
      have Qo := hide hoq
      have B := hide hb
      clear hol hoq hb
      by_cases hjm : j ≤ m
      · obtain ⟨k, hk⟩ : ∃ k, m = j + k := ⟨m - j, by omega⟩
        have hkm : m - j = k := by omega
        have e0 : (m : Int) - (j : Int) = (k : Int) := by omega
        rw [e0]
        have hkx : k + ys.length ≤ xs.length := by have := EM.out; omega
        have HK := hide hkm
        have HM := hide hk
        clear hk hkm e0
        obtain ⟨y, hy⟩ : ∃ y, y = (dv (nat xs) (nat ys) m xs.length j).1.getD (k + ys.length - 1) 0 := ⟨_, rfl⟩
        have hy256 : y < 256 := by rw [hy]; exact dv_lt1 (nat_ltp GX.out) j _
        have hc1 := own_cell L.out (k + ys.length - 1) (by rw [dv_len1, nat_length]; omega)
        rw [← hy] at hc1
        have hc2 := Qo.out.frozenAt k
        have hc3 := own_cell Qo.out k (by rw [dv_len2]; omega)
        obtain ⟨old, hold⟩ : ∃ old : Int, old = ((dv (nat xs) (nat ys) m xs.length j).2.getD k 0 : Nat) := ⟨_, rfl⟩
        rw [← hold] at hc3
        have hd : Hid (mul y (inv t) = dq (dv (nat xs) (nat ys) m xs.length j).1 (nat ys) k) := by
          show mul y (inv t) = _
          unfold dq
          rw [nat_length, ← hy, HTop.out]
        have hd256 : mul y (inv t) < 256 := mul_lt hy256
        clear hy hold
        have g1 : ((k : Int) + (ys.length : Int) - 1).toNat = k + ys.length - 1 := by omega
        have g2 : (0 : Int) ≤ (k : Int) + (ys.length : Int) - 1 := by omega
        have g3 : (k : Int) + (ys.length : Int) - 1 < (xs.length : Int) := by omega
        have g4 : (k : Int) < (xs.length : Int) := by omega
        obtain ⟨d, hdd⟩ : ∃ d, d = mul y (inv t) := ⟨_, rfl⟩
        have hdl : d < 256 := by rw [hdd]; exact hd256
        have HD := hide hdd
        clear hdd hd256
        go_wp2_with fail
        refine (l1Div_calls _ _ _ (by omega) (by omega) (by omega) (by omega)).mono ?_
        simp only [Int.toNat_natCast]
        rw [← HD.out]
        rintro e w4 ⟨rfl, rfl⟩
        have hne : (Value.slice (some ⟨g, 0, none⟩) xs.length cap).ownBlock ≠ some w1.heap.size := by simp [Value.ownBlock]; omega
        have L1 := hide (ownsRow_setCell_other L.out (a := ⟨w1.heap.size, k, none⟩) hne (.int .i64 (d : Nat)))
        have Q1 : Hid ((wr.setCell ⟨w1.heap.size, k, none⟩ (.int .i64 (d : Nat))).ownsRow w1.heap.size 3 1 (.slice (some ⟨w1.heap.size, 0, none⟩) xs.length xs.length) xs.length ((ci (dv (nat xs) (nat ys) m xs.length (j + 1)).2).map (Value.int .i64))) := by
          have h := (Qo.out.stored k (.int .i64 (d : Nat))).1
          rw [← List.map_set, ci_set] at h
          have e : (dv (nat xs) (nat ys) m xs.length (j + 1)).2 = (dv (nat xs) (nat ys) m xs.length j).2.set k d := by
            simp only [dv]
            rw [HK.out, HD.out, hd.out]
          rw [e]
          exact h
        have B1 : Hid (Below w.heap.size w (wr.setCell ⟨w1.heap.size, k, none⟩ (.int .i64 (d : Nat)))) := B.out.setCell (by exact hlt1) _
        have E1 : Hid ((dv (nat xs) (nat ys) m xs.length (j + 1)).1 = amTo (dv (nat xs) (nat ys) m xs.length j).1 (nat ys) d k ys.length) := by
          show _ = _
          simp only [dv]
          rw [HK.out, HD.out, hd.out, nat_length]
        go_wp2
        go_loopw [64] (fun vi wi => ∃ i : Nat, i ≤ ys.length ∧ vi = .int .i64 i ∧
            wi.ownsRow w.heap.size 3 1 (.slice (some ⟨g, 0, none⟩) xs.length cap) xs.length ((ci (amTo (dv (nat xs) (nat ys) m xs.length j).1 (nat ys) d k i)).map (Value.int .i64)) ∧
            wi.ownsRow w1.heap.size 3 1 (.slice (some ⟨w1.heap.size, 0, none⟩) xs.length xs.length) xs.length ((ci (dv (nat xs) (nat ys) m xs.length (j + 1)).2).map (Value.int .i64)) ∧ Below w.heap.size w wi) (fun vi _ => ys.length - (intOf vi).toNat)
        case atStart => exact ⟨0, Nat.zero_le _, rfl, L1.out, Q1.out, B1.out⟩
        case round =>
          obtain ⟨i, hi, rfl, hol, hoq, hb⟩ := hrel
          by_cases hli : i < ys.length
          · have hcq := (hb.cell (p := ⟨qb, qoff + i, none⟩) hqs).trans (QC.out i hli)
            obtain ⟨Z, hZ⟩ : ∃ Z, Z = (nat ys).getD i 0 := ⟨_, rfl⟩
            have hZy : ys.getD i 0 = (Z : Int) := by
              have := ci_getD (nat ys) i
              rw [ci_natp GY.out] at this
              rw [this, hZ]
            have hZ256 : Z < 256 := by have := AY.out i hli; omega
            rw [hZy] at hcq
            have HZ := hide hZ
            clear hZ hZy
            have hki : k + i < xs.length := by omega
            have hcf := hol.frozenAt (k + i)
            obtain ⟨u, hu⟩ : ∃ u, u = (amTo (dv (nat xs) (nat ys) m xs.length j).1 (nat ys) d k i).getD (k + i) 0 := ⟨_, rfl⟩
            have hu256 : u < 256 := by
              rw [hu]
              exact amTo_lt (dv_lt1 (nat_ltp GX.out) j) hdl i _
            have hcu := own_cell hol (k + i) (by rw [amTo_length, dv_len1, nat_length]; exact hki)
            rw [← hu] at hcu
            have HU := hide hu
            clear hu
            have O2 := hide hol
            have Q2 := hide hoq
            have B3 := hide hb
            clear hol hoq hb
            have k1 : ((k : Int) + (i : Int)).toNat = k + i := by omega
            have k2 : (0 : Int) ≤ (k : Int) + (i : Int) := by omega
            have k3 : (k : Int) + (i : Int) < (xs.length : Int) := by omega
            have k4 : (i : Int) < (ys.length : Int) := by omega
            have k5 : IntKind.i64.wrap ((k : Int) + (i : Int)) = (k : Int) + (i : Int) := by rw [wrap_i64]; omega
            go_wp2
            go_region_with (go_at_call 128; refine (l1Mul_calls _ _ _ (by omega) (by omega) (by omega) (by omega)).mono ?_; rintro e w' ⟨rfl, rfl⟩)
            all_goals
              go_wp2
              go_roundw
              case rel =>
                refine ⟨i + 1, by omega, by go_num, ?_, ?_, ?_⟩
                · have h := (O2.out.stored (k + i) (.int .i64 (u ^^^ mul d Z : Nat))).1
                  rw [← List.map_set, ci_set, HU.out, HZ.out] at h
                  rw [i64_xor _ _ (by omega) (by have := mul_lt (a := d) (b := Z) (by omega); omega), HU.out, HZ.out]
                  exact h.drew
                · exact (ownsRow_setCell_other Q2.out (a := ⟨g, k + i, none⟩) (by simp [Value.ownBlock]; omega) _).drew
                · exact (B3.out.setCell (by exact hg1) _).drew
              case measure => simp [intOf]; omega
          · obtain rfl : i = ys.length := by omega
            have O2 := hide (And.intro hol (And.intro hoq hb))
            clear hol hoq hb
            go_wp2
            go_roundw
            case rel =>
              refine ⟨j + 1, by omega, int_eq (by have := HM.out; omega), ?_, O2.out.2.1, O2.out.2.2⟩
              rw [E1.out]
              exact O2.out.1
            case measure => simp [intOf]
      · obtain rfl : j = m + 1 := by omega
        have e0 : (m : Int) - ((m + 1 : Nat) : Int) = -1 := by omega
        rw [e0]
        have HL : Hid (Own wr w.heap.size (.slice (some ⟨g, 0, none⟩) xs.length cap) (ci (dv (nat xs) (nat ys) m xs.length (m + 1)).1)) := by
          show World.ownsRow _ _ _ _ _ (ci _).length _
          rw [ci_length, dv_len1, nat_length]
          exact L.out
        have HQ : Hid (Own wr w1.heap.size (.slice (some ⟨w1.heap.size, 0, none⟩) xs.length xs.length) (ci (dv (nat xs) (nat ys) m xs.length (m + 1)).2)) := by
          show World.ownsRow _ _ _ _ _ (ci _).length _
          rw [ci_length, dv_len2]
          exact Qo.out
        go_wp2_with fail
        refine (l1Cut_calls _ _ _ HQ.out.rd (by rw [ci_length, dv_len2]; omega)).mono ?_
        rintro e w3 ⟨v1, rfl, ho3, hb3⟩
        have O3 := hide ho3
        have B3 := hide hb3
        have R3 := hide (Own.below HL.out hb3)
        clear ho3 hb3
        go_wp2_with fail
        refine (l1Cut_calls _ _ _ R3.out.rd (by rw [ci_length, dv_len1, nat_length]; omega)).mono ?_
        rintro e w4 ⟨v2, rfl, ho4, hb4⟩
        have R : Hid (Two w w4 v1 v2 (cutL (ci (dv (nat xs) (nat ys) m xs.length (m + 1)).2)) (cutL (ci (dv (nat xs) (nat ys) m xs.length (m + 1)).1))) := by
          refine ⟨Own.mono (Own.below O3.out hb4) B.out.size, Own.mono ho4 (Nat.le_trans B.out.size B3.out.size), ?_, (B.out.trans (B3.out.mono B.out.size)).trans (hb4.mono (Nat.le_trans B.out.size B3.out.size))⟩
          cases hv : v1.ownBlock with
          | none => exact .inl rfl
          | some k =>
            right
            intro e
            have h1 := (O3.out.lt k hv).2
            have h2 := (ho4.lt k e.symm).1
            omega
        clear ho4 hb4
        go_wp2
        go_ret3
        exact ⟨_, _, rfl, R.out⟩
end Gf
end Go.Proofs.YtogopakmebiomaaDoor

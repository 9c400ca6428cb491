/-
  The model's division of two polynomials at every argument that can be read, call by call; with the program's, at every argument. The program's table of rests must hold its seven numbers where the program's own function is called. The division of two polynomials at every argument that can be read: the program's and its model's, call by call. The program's table of rests must hold its seven numbers where the program's own function is called. The places that a rule tells: the program's rootPlaces and its model's l4Places, call by call. The program's table of rests must hold its seven numbers where the program's own function is called. The places that a rule tells, by division: the program's rootPlaces, call by call. The program's table of rests must hold its seven numbers. The places where two lists are unlike: the program's function and its model's, call by call. No condition. A word put right: the program's DecodeWord and its model's, call by call. The program's table of rests must hold its seven numbers where the program's own function is called. A word put right: the program's DecodeWord, call by call. The program's table of rests must hold its seven numbers.
-/
import Derived.Test.YtogopakmebiomaaDoorDecodeWordB12
import Derived.Test.YtogopakmebiomaaDoorDecodeWordB5
import Derived.Deep.LoopGhost
import Derived.WalkMore
import Derived.Test.YtogopakmebiomaaDoorDecodeWordB6
import Derived.Test.YtogopakmebiomaaDoorDecodeWordB11
namespace Go.Proofs.YtogopakmebiomaaDoor
open Go.RowKit
namespace Gf

set_option maxRecDepth 100000 in
set_option maxHeartbeats 1600000 in
theorem sDivPoly_no (pv qv : Value) (xs ys : List Int) (w : World) (hp : Rd w pv xs) (hq : Rd w qv ys) (h : ¬ (goodP xs = true ∧ goodP ys = true ∧ ys.length ≠ 0)) :
    Calls Tryd.prog 70 #[pv, qv] w fun e w' => e = .returned (.tuple #[.slice none 0 0, .slice none 0 0, .bool false]) ∧ w = w' := by
  have P := hide hp
  have Q := hide hq
  clear hp hq
  cases hgx : goodP xs with
  | false =>
    have G := hide hgx
    clear hgx h
    go_enter Tryd.func70, Tryd.ntmps70
    go_wp2_with (go_at_call 126; refine (l1Poly_calls pv xs _ P.out).mono ?_; rw [G.out]; rintro e w' ⟨rfl, rfl⟩)
    go_ret3
    exact ⟨rfl, rfl⟩
  | true =>
    have G := hide hgx
    cases hgy : goodP ys with
    | false =>
      have G2 := hide hgy
      clear hgx hgy h
      go_enter Tryd.func70, Tryd.ntmps70
      go_wp2_with fail
      refine (l1Poly_calls pv xs _ P.out).mono ?_
      rw [G.out]
      rintro e w' ⟨rfl, rfl⟩
      go_wp2_with fail
      refine (l1Poly_calls qv ys _ Q.out).mono ?_
      rw [G2.out]
      rintro e w' ⟨rfl, rfl⟩
      go_wp2
      go_ret3
      exact ⟨rfl, rfl⟩
    | true =>
      have G2 := hide hgy
      have h0 : ys.length = 0 := by
        by_cases e : ys.length = 0
        · exact e
        · exact absurd ⟨hgx, hgy, e⟩ h
      obtain ⟨qa, qcap, rfl, _, _, _⟩ := Q.out
      have t1 : ((ys.length : Int) == 0) = true := by simp [List.eq_nil_of_length_eq_zero h0]
      clear hgx hgy h h0
      go_enter Tryd.func70, Tryd.ntmps70
      go_wp2_with fail
      refine (l1Poly_calls pv xs _ P.out).mono ?_
      rw [G.out]
      rintro e w' ⟨rfl, rfl⟩
      go_wp2_with fail
      refine (l1Poly_calls _ ys _ Q.out).mono ?_
      rw [G2.out]
      rintro e w' ⟨rfl, rfl⟩
      go_wp2
      go_ret3
      exact ⟨rfl, rfl⟩

/-- How far the model's division goes: no step where the first is shorter. -/
def steps (xs ys : List Int) : Nat := if xs.length < ys.length then 0 else xs.length - ys.length + 1

set_option maxRecDepth 100000 in
set_option maxHeartbeats 3200000 in
theorem sDivPoly_yes (pv qv : Value) (xs ys : List Int) (w : World) (hp : Rd w pv xs) (hq : Rd w qv ys) (hx : goodP xs = true) (hy : goodP ys = true) (h0 : ys.length ≠ 0) :
    Calls Tryd.prog 70 #[pv, qv] w fun e w' => ∃ v1 v2, e = .returned (.tuple #[v1, v2, .bool true]) ∧
      Two w w' v1 v2 (cutL (ci (dv (nat xs) (nat ys) (xs.length - ys.length) xs.length (steps xs ys)).2)) (cutL (ci (dv (nat xs) (nat ys) (xs.length - ys.length) xs.length (steps xs ys)).1)) := by
  have P := hide hp
  have Q := hide hq
  have G := hide hx
  have G2 := hide hy
  have lx := goodP_len hx
  have ly := goodP_len hy
  have GX := hide (goodP_mem hx)
  have GY := hide (goodP_mem hy)
  have AY := hide (goodP_all hy)
  have hlast := goodP_all hy (ys.length - 1) (by omega)
  obtain ⟨m, hm⟩ : ∃ m, m = xs.length - ys.length := ⟨_, rfl⟩
  obtain ⟨st, hst⟩ : ∃ st, st = steps xs ys := ⟨_, rfl⟩
  rw [← hm, ← hst]
  have hstep : (xs.length : Int) - (ys.length : Int) < 0 ∧ st = 0 ∨ (xs.length : Int) - (ys.length : Int) = (m : Int) ∧ st = m + 1 ∧ xs.length = m + ys.length := by
    unfold steps at hst
    split at hst <;> omega
  clear hm hst
  obtain ⟨pa, pcap, rfl, _, _, _⟩ := P.out
  have hq' := hq
  obtain ⟨qa, qcap, rfl, _, _, h3⟩ := hq'
  clear hp hq hx hy
  rcases h3 with h3 | ⟨qb, qoff, rfl, hqs, hqc⟩
  · subst h3; simp at h0
  have hqc1 := hqc (ys.length - 1) (by omega)
  have QC := hide hqc
  clear hqc
  obtain ⟨t, ht⟩ : ∃ t, t = (nat ys).getD (ys.length - 1) 0 := ⟨_, rfl⟩
  have htx : ys.getD (ys.length - 1) 0 = (t : Int) := by
    have := ci_getD (nat ys) (ys.length - 1)
    rw [ci_natp GY.out] at this
    rw [this, ht]
  have ht256 : t < 256 := by omega
  rw [htx] at hqc1
  have HTop := hide ht
  clear ht htx hlast
  have t1 : ((ys.length : Int) == 0) = false := by simp; intro e; simp [e] at h0
  have hly : 0 < ys.length := by omega
  have f1 : ((ys.length : Int) - 1).toNat = ys.length - 1 := by omega
  have f2 : (0 : Int) ≤ (ys.length : Int) - 1 := by omega
  have f3 : (ys.length : Int) - 1 < (ys.length : Int) := by omega
  have HS := hide hstep
  clear h0 hstep
  have OO : Hid (Own (w.alloc (.cells #[] 3)) w.heap.size (.slice (some ⟨w.heap.size, 0, none⟩) 0 0) []) :=
    World.ownsRow_lit w #[] 0 (Nat.le_refl _) (Nat.zero_le _) (by rfl)
  have RR := hide (P.out.below ((Below.refl w.heap.size w).alloc (Nat.le_refl _) (.cells #[] 3)))
  go_enter Tryd.func70, Tryd.ntmps70
  go_wp2_with fail
  refine (l1Poly_calls _ xs _ P.out).mono ?_
  rw [G.out]
  rintro e w' ⟨rfl, rfl⟩
  go_wp2_with fail
  refine (l1Poly_calls _ ys _ Q.out).mono ?_
  rw [G2.out]
  rintro e w' ⟨rfl, rfl⟩
  go_wp2_with (first
    | (at_builtin; refine wpList_append_rd rfl _ _ rfl w.heap.size _ 0 [] xs rfl OO.out _ rfl RR.out (by omega) (by simp) ?_; intro vr w1 hown1 hg1; have hb1 : Below w.heap.size w w1 := ((Below.refl _ _).alloc (Nat.le_refl _) _).grown hg1 (by simp) (fun k hk => (OO.out.lt k hk).1))
    | (at_make; refine wpList_make_ints rfl _ _ rfl w1.heap.size _ _ xs.length rfl rfl (by omega) (by omega) (by omega) (Nat.le_refl _) ?_; intro w2 hown2 hgrow2; have hqc2 : w2.cell? ⟨qb, qoff + (ys.length - 1), none⟩ = some (.int .i64 (t : Nat)) := ((hb1.grown hgrow2 hb1.size (fun k h => by cases h)).cell (p := ⟨qb, qoff + (ys.length - 1), none⟩) hqs).trans hqc1))
  have B2 := hide (hb1.grown hgrow2 hb1.size (fun k h => by cases h))
  have OQ : Hid (w2.ownsRow w1.heap.size 3 1 (.slice (some ⟨w1.heap.size, 0, none⟩) xs.length xs.length) xs.length ((ci (dv (nat xs) (nat ys) m xs.length 0).2).map (Value.int .i64))) := by
    have h := hown2
    unfold Own at h
    rw [List.length_replicate] at h
    have e : (ci (dv (nat xs) (nat ys) m xs.length 0).2).map (Value.int .i64) = (List.replicate xs.length (0 : Int)).map (Value.int .i64) := by simp [dv, ci]
    rw [e]
    exact h
  have OR : Hid (Own w2 w.heap.size vr (ci (dv (nat xs) (nat ys) m xs.length 0).1)) := by
    have h : Own w2 w.heap.size vr xs := World.ownsRow.kept hown1 hgrow2 (by cases hv : vr.ownBlock <;> simp)
    show Own w2 w.heap.size vr (ci (nat xs))
    rw [ci_natp GX.out]
    exact h
  have hvlt : ∀ k, vr.ownBlock = some k → w.heap.size ≤ k ∧ k < w1.heap.size := fun k hk => hown1.lt k hk
  have HV := hide hvlt
  have hlt1 := hb1.size
  clear hown1 hg1 hb1 hown2 hgrow2 hvlt hqc1
  rcases HS.out with ⟨hneg, hst⟩ | ⟨hpos, hst, hlen⟩
  · subst hst
    have HL : Hid (Own w2 w1.heap.size (.slice (some ⟨w1.heap.size, 0, none⟩) xs.length xs.length) (ci (dv (nat xs) (nat ys) m xs.length 0).2)) := by
      show World.ownsRow _ _ _ _ _ (ci _).length _
      rw [ci_length, dv_len2]
      exact OQ.out
    clear OQ HS
    go_wp2
    refine wp_loop_rounds 1 ?_
    rw [rounds_succ]
    go_wp2_with fail
    refine (l1Cut_calls _ _ _ HL.out.rd (by rw [ci_length, dv_len2]; omega)).mono ?_
    rintro e w3 ⟨v1, rfl, ho3, hb3⟩
    have O3 := hide ho3
    have B3 := hide hb3
    have R3 := hide (Own.below OR.out hb3)
    clear ho3 hb3
    go_wp2_with fail
    refine (l1Cut_calls _ _ _ R3.out.rd (by rw [ci_length, dv_len1, nat_length]; omega)).mono ?_
    rintro e w4 ⟨v2, rfl, ho4, hb4⟩
    have R : Hid (Two w w4 v1 v2 (cutL (ci (dv (nat xs) (nat ys) m xs.length 0).2)) (cutL (ci (dv (nat xs) (nat ys) m xs.length 0).1))) := by
      refine ⟨Own.mono (Own.below O3.out hb4) B2.out.size, Own.mono ho4 (Nat.le_trans B2.out.size B3.out.size), ?_, (B2.out.trans (B3.out.mono B2.out.size)).trans (hb4.mono (Nat.le_trans B2.out.size B3.out.size))⟩
      cases hv : v1.ownBlock with
      | none => exact .inl rfl
      | some k =>
        right
        intro e
        have h1 := (O3.out.lt k hv).2
        have h2 := (ho4.lt k e.symm).1
        omega
    clear ho4 hb4
    go_wp2
    go_ret3
    exact ⟨_, _, rfl, R.out⟩
  · subst hst
    have EM := hide hlen
    have hmx : m + 1 ≤ xs.length := by omega
    clear hlen
    have OR' : Hid (w2.ownsRow w.heap.size 3 1 vr xs.length ((ci (dv (nat xs) (nat ys) m xs.length 0).1).map (Value.int .i64))) := by
      have h := OR.out
      unfold Own at h
      rw [ci_length, dv_len1, nat_length] at h
      exact h
    obtain ⟨g, cap, hv, _⟩ := Own.open OR.out (by rw [ci_length, dv_len1, nat_length]; omega)
    rw [ci_length, dv_len1, nat_length] at hv
    subst hv
    have hg1 : w.heap.size ≤ g := (HV.out g rfl).1
    have hg2 : g < w1.heap.size := (HV.out g rfl).2
    clear OR HS HV
    rw [hpos]
    clear hpos
    go_wp2
    go_loopw [10] (fun vk wr => ∃ j : Nat, j ≤ m + 1 ∧ vk = .int .i64 ((m : Int) - (j : Int)) ∧
        wr.ownsRow w.heap.size 3 1 (.slice (some ⟨g, 0, none⟩) xs.length cap) xs.length ((ci (dv (nat xs) (nat ys) m xs.length j).1).map (Value.int .i64)) ∧
        wr.ownsRow w1.heap.size 3 1 (.slice (some ⟨w1.heap.size, 0, none⟩) xs.length xs.length) xs.length ((ci (dv (nat xs) (nat ys) m xs.length j).2).map (Value.int .i64)) ∧ Below w.heap.size w wr) (fun vk _ => (intOf vk + 1).toNat)
    case atStart => exact ⟨0, Nat.zero_le _, by go_num, OR'.out, OQ.out, B2.out⟩
    case round =>
      obtain ⟨j, hj, rfl, hol, hoq, hb⟩ := hrel
      have L := hide hol
      have Qo := hide hoq
      have B := hide hb
      clear hol hoq hb
      by_cases hjm : j ≤ m
      · obtain ⟨k, hk⟩ : ∃ k, m = j + k := ⟨m - j, by omega⟩
        have hkm : m - j = k := by omega
        have e0 : (m : Int) - (j : Int) = (k : Int) := by omega
        rw [e0]
        have hkx : k + ys.length ≤ xs.length := by have := EM.out; omega
        have HK := hide hkm
        have HM := hide hk
        clear hk hkm e0
        obtain ⟨y, hy⟩ : ∃ y, y = (dv (nat xs) (nat ys) m xs.length j).1.getD (k + ys.length - 1) 0 := ⟨_, rfl⟩
        have hy256 : y < 256 := by rw [hy]; exact dv_lt1 (nat_ltp GX.out) j _
        have hc1 := own_cell L.out (k + ys.length - 1) (by rw [dv_len1, nat_length]; omega)
        rw [← hy] at hc1
        have hc2 := Qo.out.frozenAt k
        have hc3 := own_cell Qo.out k (by rw [dv_len2]; omega)
        obtain ⟨old, hold⟩ : ∃ old : Int, old = ((dv (nat xs) (nat ys) m xs.length j).2.getD k 0 : Nat) := ⟨_, rfl⟩
        rw [← hold] at hc3
        have hd : Hid (mul y (inv t) = dq (dv (nat xs) (nat ys) m xs.length j).1 (nat ys) k) := by
          show mul y (inv t) = _
          unfold dq
          rw [nat_length, ← hy, HTop.out]
        have hd256 : mul y (inv t) < 256 := mul_lt hy256
        clear hy hold
        have g1 : ((k : Int) + (ys.length : Int) - 1).toNat = k + ys.length - 1 := by omega
        have g2 : (0 : Int) ≤ (k : Int) + (ys.length : Int) - 1 := by omega
        have g3 : (k : Int) + (ys.length : Int) - 1 < (xs.length : Int) := by omega
        have g4 : (k : Int) < (xs.length : Int) := by omega
        obtain ⟨d, hdd⟩ : ∃ d, d = mul y (inv t) := ⟨_, rfl⟩
        have hdl : d < 256 := by rw [hdd]; exact hd256
        have HD := hide hdd
        clear hdd hd256
        go_wp2_with fail
        refine (l1Div_calls _ _ _ (by omega) (by omega) (by omega) (by omega)).mono ?_
        simp only [Int.toNat_natCast]
        rw [← HD.out]
        rintro e w4 ⟨rfl, rfl⟩
        have hne : (Value.slice (some ⟨g, 0, none⟩) xs.length cap).ownBlock ≠ some w1.heap.size := by simp [Value.ownBlock]; omega
        have L1 := hide (ownsRow_setCell_other L.out (a := ⟨w1.heap.size, k, none⟩) hne (.int .i64 (d : Nat)))
        have Q1 : Hid ((wr.setCell ⟨w1.heap.size, k, none⟩ (.int .i64 (d : Nat))).ownsRow w1.heap.size 3 1 (.slice (some ⟨w1.heap.size, 0, none⟩) xs.length xs.length) xs.length ((ci (dv (nat xs) (nat ys) m xs.length (j + 1)).2).map (Value.int .i64))) := by
          have h := (Qo.out.stored k (.int .i64 (d : Nat))).1
          rw [← List.map_set, ci_set] at h
          have e : (dv (nat xs) (nat ys) m xs.length (j + 1)).2 = (dv (nat xs) (nat ys) m xs.length j).2.set k d := by
            simp only [dv]
            rw [HK.out, HD.out, hd.out]
          rw [e]
          exact h
        have B1 : Hid (Below w.heap.size w (wr.setCell ⟨w1.heap.size, k, none⟩ (.int .i64 (d : Nat)))) := B.out.setCell (by exact hlt1) _
        have E1 : Hid ((dv (nat xs) (nat ys) m xs.length (j + 1)).1 = amTo (dv (nat xs) (nat ys) m xs.length j).1 (nat ys) d k ys.length) := by
          show _ = _
          simp only [dv]
          rw [HK.out, HD.out, hd.out, nat_length]
        go_wp2
        go_loopw [64] (fun vi wi => ∃ i : Nat, i ≤ ys.length ∧ vi = .int .i64 i ∧
            wi.ownsRow w.heap.size 3 1 (.slice (some ⟨g, 0, none⟩) xs.length cap) xs.length ((ci (amTo (dv (nat xs) (nat ys) m xs.length j).1 (nat ys) d k i)).map (Value.int .i64)) ∧
            wi.ownsRow w1.heap.size 3 1 (.slice (some ⟨w1.heap.size, 0, none⟩) xs.length xs.length) xs.length ((ci (dv (nat xs) (nat ys) m xs.length (j + 1)).2).map (Value.int .i64)) ∧ Below w.heap.size w wi) (fun vi _ => ys.length - (intOf vi).toNat)
        case atStart => exact ⟨0, Nat.zero_le _, rfl, L1.out, Q1.out, B1.out⟩
        case round =>
          obtain ⟨i, hi, rfl, hol, hoq, hb⟩ := hrel
          by_cases hli : i < ys.length
          · have hcq := (hb.cell (p := ⟨qb, qoff + i, none⟩) hqs).trans (QC.out i hli)
            obtain ⟨Z, hZ⟩ : ∃ Z, Z = (nat ys).getD i 0 := ⟨_, rfl⟩
            have hZy : ys.getD i 0 = (Z : Int) := by
              have := ci_getD (nat ys) i
              rw [ci_natp GY.out] at this
              rw [this, hZ]
            have hZ256 : Z < 256 := by have := AY.out i hli; omega
            rw [hZy] at hcq
            have HZ := hide hZ
            clear hZ hZy
            have hki : k + i < xs.length := by omega
            have hcf := hol.frozenAt (k + i)
            obtain ⟨u, hu⟩ : ∃ u, u = (amTo (dv (nat xs) (nat ys) m xs.length j).1 (nat ys) d k i).getD (k + i) 0 := ⟨_, rfl⟩
            have hu256 : u < 256 := by
              rw [hu]
              exact amTo_lt (dv_lt1 (nat_ltp GX.out) j) hdl i _
            have hcu := own_cell hol (k + i) (by rw [amTo_length, dv_len1, nat_length]; exact hki)
            rw [← hu] at hcu
            have HU := hide hu
            clear hu
            have O2 := hide hol
            have Q2 := hide hoq
            have B3 := hide hb
            clear hol hoq hb
            have k1 : ((k : Int) + (i : Int)).toNat = k + i := by omega
            have k2 : (0 : Int) ≤ (k : Int) + (i : Int) := by omega
            have k3 : (k : Int) + (i : Int) < (xs.length : Int) := by omega
            have k4 : (i : Int) < (ys.length : Int) := by omega
            have k5 : IntKind.i64.wrap ((k : Int) + (i : Int)) = (k : Int) + (i : Int) := by rw [wrap_i64]; omega
            go_wp2
            go_region_with (go_at_call 128; refine (l1Mul_calls _ _ _ (by omega) (by omega) (by omega) (by omega)).mono ?_; rintro e w' ⟨rfl, rfl⟩)
            all_goals
              go_wp2
              go_roundw
              case rel =>
                refine ⟨i + 1, by omega, by go_num, ?_, ?_, ?_⟩
                · have h := (O2.out.stored (k + i) (.int .i64 (u ^^^ mul d Z : Nat))).1
                  rw [← List.map_set, ci_set, HU.out, HZ.out] at h
                  rw [i64_xor _ _ (by omega) (by have := mul_lt (a := d) (b := Z) (by omega); omega), HU.out, HZ.out]
                  exact h.drew
                · exact (ownsRow_setCell_other Q2.out (a := ⟨g, k + i, none⟩) (by simp [Value.ownBlock]; omega) _).drew
                · exact (B3.out.setCell (by exact hg1) _).drew
              case measure => simp [intOf]; omega
          · obtain rfl : i = ys.length := by omega
            have O2 := hide (And.intro hol (And.intro hoq hb))
            clear hol hoq hb
            go_wp2
            go_roundw
            case rel =>
              refine ⟨j + 1, by omega, int_eq (by have := HM.out; omega), ?_, O2.out.2.1, O2.out.2.2⟩
              rw [E1.out]
              exact O2.out.1
            case measure => simp [intOf]
      · obtain rfl : j = m + 1 := by omega
        have e0 : (m : Int) - ((m + 1 : Nat) : Int) = -1 := by omega
        rw [e0]
        have HL : Hid (Own wr w.heap.size (.slice (some ⟨g, 0, none⟩) xs.length cap) (ci (dv (nat xs) (nat ys) m xs.length (m + 1)).1)) := by
          show World.ownsRow _ _ _ _ _ (ci _).length _
          rw [ci_length, dv_len1, nat_length]
          exact L.out
        have HQ : Hid (Own wr w1.heap.size (.slice (some ⟨w1.heap.size, 0, none⟩) xs.length xs.length) (ci (dv (nat xs) (nat ys) m xs.length (m + 1)).2)) := by
          show World.ownsRow _ _ _ _ _ (ci _).length _
          rw [ci_length, dv_len2]
          exact Qo.out
        go_wp2_with fail
        refine (l1Cut_calls _ _ _ HQ.out.rd (by rw [ci_length, dv_len2]; omega)).mono ?_
        rintro e w3 ⟨v1, rfl, ho3, hb3⟩
        have O3 := hide ho3
        have B3 := hide hb3
        have R3 := hide (Own.below HL.out hb3)
        clear ho3 hb3
        go_wp2_with fail
        refine (l1Cut_calls _ _ _ R3.out.rd (by rw [ci_length, dv_len1, nat_length]; omega)).mono ?_
        rintro e w4 ⟨v2, rfl, ho4, hb4⟩
        have R : Hid (Two w w4 v1 v2 (cutL (ci (dv (nat xs) (nat ys) m xs.length (m + 1)).2)) (cutL (ci (dv (nat xs) (nat ys) m xs.length (m + 1)).1))) := by
          refine ⟨Own.mono (Own.below O3.out hb4) B.out.size, Own.mono ho4 (Nat.le_trans B.out.size B3.out.size), ?_, (B.out.trans (B3.out.mono B.out.size)).trans (hb4.mono (Nat.le_trans B.out.size B3.out.size))⟩
          cases hv : v1.ownBlock with
          | none => exact .inl rfl
          | some k =>
            right
            intro e
            have h1 := (O3.out.lt k hv).2
            have h2 := (ho4.lt k e.symm).1
            omega
        clear ho4 hb4
        go_wp2
        go_ret3
        exact ⟨_, _, rfl, R.out⟩
end Gf
end Go.Proofs.YtogopakmebiomaaDoor

namespace Go.Proofs.YtogopakmebiomaaDoor
open Go.RowKit
namespace Gf

theorem divPoly_calls (pv qv : Value) (xs ys : List Int) (w : World) (hT : Tab w) (hp : Rd w pv xs) (hq : Rd w qv ys) :
    Calls Tryd.prog 74 #[pv, qv] w fun e w' => ∃ v1 v2, e = .returned (.tuple #[v1, v2, .bool (divR xs ys).2.2]) ∧ Two w w' v1 v2 (divR xs ys).1 (divR xs ys).2.1 := by
  by_cases h : goodP xs = true ∧ goodP ys = true ∧ ys.length ≠ 0
  · by_cases hs : xs.length < ys.length
    · rw [divR_short h.1 h.2.1 h.2.2 hs]
      exact (divPoly_short pv qv xs ys w hp hq h.1 h.2.1 h.2.2 hs).mono fun e w' ⟨v2, he, ho, hb⟩ => ⟨_, v2, he, Two.nil1 ho hb⟩
    · rw [divR_yes h.1 h.2.1 h.2.2 hs]
      exact divPoly_yes pv qv xs ys w hT hp hq h.1 h.2.1 h.2.2 hs
  · rw [divR_no h]
    exact (divPoly_no pv qv xs ys w hp hq h).mono fun e w' ⟨he, hw⟩ => ⟨_, _, he, hw ▸ Two.nil1 (own_nil _ _) (Below.refl _ _)⟩
theorem sDivPoly_calls (pv qv : Value) (xs ys : List Int) (w : World) (hp : Rd w pv xs) (hq : Rd w qv ys) :
    Calls Tryd.prog 70 #[pv, qv] w fun e w' => ∃ v1 v2, e = .returned (.tuple #[v1, v2, .bool (divR xs ys).2.2]) ∧ Two w w' v1 v2 (divR xs ys).1 (divR xs ys).2.1 := by
  by_cases h : goodP xs = true ∧ goodP ys = true ∧ ys.length ≠ 0
  · have hy := sDivPoly_yes pv qv xs ys w hp hq h.1 h.2.1 h.2.2
    by_cases hs : xs.length < ys.length
    · rw [divR_short h.1 h.2.1 h.2.2 hs]
      have e : steps xs ys = 0 := by unfold steps; rw [if_pos hs]
      rw [e] at hy
      have e1 : cutL (ci (dv (nat xs) (nat ys) (xs.length - ys.length) xs.length 0).2) = [] := cutL_zeros _
      have e2 : ci (dv (nat xs) (nat ys) (xs.length - ys.length) xs.length 0).1 = xs := ci_natp (goodP_mem h.1)
      rw [e1, e2] at hy
      exact hy
    · rw [divR_yes h.1 h.2.1 h.2.2 hs]
      have h0 : 0 < ys.length := by omega
      have e : steps xs ys = xs.length - ys.length + 1 := by unfold steps; rw [if_neg hs]
      rw [e, cut_dv h.1 h.2.1 h0 (by omega), dv_same1 h0 (by omega)] at hy
      exact hy
  · rw [divR_no h]
    exact (sDivPoly_no pv qv xs ys w hp hq h).mono fun e w' ⟨he, hw⟩ => ⟨_, _, he, hw ▸ Two.nil1 (own_nil _ _) (Below.refl _ _)⟩
end Gf
end Go.Proofs.YtogopakmebiomaaDoor

namespace Go.Proofs.YtogopakmebiomaaDoor
open Go.RowKit
namespace Gf

set_option maxRecDepth 100000 in
set_option maxHeartbeats 3200000 in
theorem l4Places_calls (v : Value) (c : List Int) (L : Nat) (w : World) (h : Rd w v c) (he : ∀ i, i < c.length → 0 ≤ c.getD i 0 ∧ c.getD i 0 ≤ 255) (hL : L ≤ 24) :
    Calls Tryd.prog 87 #[v, .int .i64 L] w fun e w' => ∃ v', e = .returned v' ∧ Own w' w.heap.size v' (plcN c L) ∧ Below w.heap.size w w' := by
  have R := hide h
  have E := hide he
  clear h he
  go_enter Tryd.func87, Tryd.ntmps87
  go_wp2
  go_loopw [5, 6] (fun vo vk wr => ∃ k : Nat, k ≤ L ∧ vk = .int .i64 k ∧ Own wr w.heap.size vo (plcN c k) ∧ Below w.heap.size w wr) (fun _ vk _ => L - (intOf vk).toNat)
  case atStart => exact ⟨0, Nat.zero_le _, rfl, World.ownsRow_nil _ _ _ _, Below.refl _ _⟩
  case round =>
    obtain ⟨k, hk, rfl, ho, hb⟩ := hrel
    have O := hide ho
    have B := hide hb
    clear ho hb
    by_cases hlt : k < L
    · have hlt' : (k : Int) < (L : Int) := by omega
      go_wp2_with fail
      refine (l1Pow_calls 2 k _ (by omega) (by omega) (by omega) (by omega)).mono ?_
      rintro e w' ⟨rfl, rfl⟩
      rw [Int.toNat_natCast]
      obtain ⟨x, hx⟩ : ∃ x, x = pow 2 k := ⟨_, rfl⟩
      rw [show pow (Int.toNat 2) k = x from hx.symm]
      have hx256 : x < 256 := by rw [hx]; exact pow_lt _ _
      obtain ⟨y, hy⟩ : ∃ y, y = ip k := ⟨_, rfl⟩
      have hy256 : y < 256 := by rw [hy]; exact ip_lt k
      have Y : Hid (mul (Int.toNat 1) (inv x) = y) := by
        show mul 1 (inv x) = y
        rw [one_mul _ (inv_lt _), hy, hx]; rfl
      have HY := hide hy
      clear hx hy
      go_wp2_with fail
      refine (l1Div_calls _ _ _ (by omega) (by omega) (by omega) (by omega)).mono ?_
      rintro e w' ⟨rfl, rfl⟩
      rw [Int.toNat_natCast, Y.out]
      go_wp2_with fail
      refine (l1Eval_calls _ c y _ (R.out.below B.out) (by omega) (by omega) E.out).mono ?_
      rw [Int.toNat_natCast]
      rintro e w2 ⟨rfl, hb2⟩
      obtain ⟨z, hz⟩ : ∃ z, z = ev y c := ⟨_, rfl⟩
      rw [← hz]
      have HZ := hide hz
      have B2 := hide (B.out.trans (hb2.mono B.out.size))
      have O2 := hide (O.out.below hb2)
      clear hb2 O B hz
      by_cases hz0 : z = 0
      · have tz : (((z : Nat) : Int) == 0) = true := by simp [hz0]
        have e : plcN c (k + 1) = plcN c k ++ [(k : Int)] := plcN_yes (by rw [← HY.out, ← HZ.out]; exact hz0)
        have hun := plcN_le c k
        obtain ⟨l, hl⟩ : ∃ l, l = plcN c k := ⟨_, rfl⟩
        rw [← hl] at e O2 hun
        have E2 := hide e
        clear e hl hz0
        go_wp2_with (at_builtin; refine wpList_append_rd rfl (.tmp 18) (.tmp 20) rfl w.heap.size _ l.length l [((k : Nat) : Int)] rfl (O2.out.alloc _) _ rfl rd_single2 (by simp; omega) (by have := B2.out.size; simp; omega) ?_)
        intro v' w3 ho3 hg3
        have hb3 : Below w.heap.size w w3 := (B2.out.alloc B2.out.size _).grown hg3 (by have := B2.out.size; simp; omega) (fun i hi => (O2.out.lt i hi).1)
        rw [← E2.out] at ho3
        have O3 := hide ho3
        have B3 := hide hb3
        clear ho3 hg3 hb3
        go_wp2
        go_roundw
        case rel => exact ⟨k + 1, by omega, by go_num, O3.out, B3.out⟩
        case measure => simp [intOf]; omega
      · have tz : (((z : Nat) : Int) == 0) = false := by simp [hz0]
        have e : plcN c (k + 1) = plcN c k := plcN_no (by rw [← HY.out, ← HZ.out]; exact hz0)
        have E2 := hide e
        clear e hz0
        go_wp2
        go_roundw
        case rel => exact ⟨k + 1, by omega, by go_num, by rw [E2.out]; exact O2.out, B2.out⟩
        case measure => simp [intOf]; omega
    · obtain rfl : k = L := by omega
      go_wp2
      go_ret
      exact ⟨_, rfl, O.out, B.out⟩
end Gf
end Go.Proofs.YtogopakmebiomaaDoor

namespace Go.Proofs.YtogopakmebiomaaDoor
open Go.RowKit
namespace Gf

theorem Lft.div {c r : List Int} {p : Nat} (h : Lft c r p) (hp : p < 24) (h2 : 2 ≤ r.length) : ∃ Q S, divR r (dvP p) = (Q, S, true) ∧ Q.length = r.length - 1 ∧
    (S.length = 0 → Lft c Q (p + 1) ∧ plcN c (p + 1) = plcN c p ++ [(p : Int)]) ∧ (S.length ≠ 0 → Lft c r (p + 1) ∧ plcN c (p + 1) = plcN c p) := by
  obtain ⟨d1, d2, d3, d4, d5⟩ := div_root h.good h2 hp
  refine ⟨(divR r (dvP p)).1, (divR r (dvP p)).2.1, ?_, d2, fun h0 => h.take hp h2 h0, fun h0 => h.skip hp (fun e => h0 (d4.2 e))⟩
  rw [← d1]
set_option maxRecDepth 100000 in
set_option maxHeartbeats 6400000 in
theorem rootPlaces_calls (v : Value) (c : List Int) (L : Nat) (w : World) (hT : Tab w) (h : Rd w v c) (hg : goodP c = true) (h1 : 1 ≤ c.length) (hL : L ≤ 24) :
    Calls Tryd.prog 91 #[v, .int .i64 L] w fun e w' => ∃ v', e = .returned (.tuple #[v', .bool (rtR c L).2]) ∧ Own w' w.heap.size v' (rtR c L).1 ∧ Below w.heap.size w w' := by
  have T := hide hT
  have R := hide h
  have ST := hide (Lft.start hg h1)
  have hlc := goodP_len hg
  clear hT h hg
  go_enter Tryd.func91, Tryd.ntmps91
  go_wp2
  go_step3
  go_wp2
  go_step3
  go_wp2
  go_loopg [0, 6, 7] c.length (fun g vr vo vn wr => ∃ (r : List Int) (p : Nat), r.length ≤ g + 1 ∧ p ≤ L ∧ vn = .int .i64 p ∧ Lft c r p ∧ Rd wr vr r ∧ Own wr w.heap.size vo (plcN c p) ∧ Below w.heap.size w wr)
  case atStart =>
    refine ⟨c, 0, by omega, Nat.zero_le _, rfl, ST.out, R.out.below ((Below.refl _ _).alloc (Nat.le_refl _) _), ?_, (Below.refl _ _).alloc (Nat.le_refl _) _⟩
    exact World.ownsRow_lit w #[] 0 (Nat.le_refl _) (by decide) (by rfl)
  case round =>
    obtain ⟨r, p, hgk, hp, rfl, hlf, hr, ho, hb⟩ := hrel
    have LF := hide hlf
    have RR := hide hr
    have O := hide ho
    have B := hide hb
    obtain ⟨ra, rc, rfl, _, _, _⟩ := hr
    have hpos := hlf.pos
    have hsum := hlf.sum
    have hrl : r.length ≤ 40 := by omega
    clear hlf ho hb hsum
    by_cases h2 : 2 ≤ r.length
    · have h2' : (1 : Int) < (r.length : Int) := by omega
      obtain ⟨W1, rfl⟩ : ∃ W1, W1 = wr := ⟨_, rfl⟩
      obtain ⟨g, hgs⟩ : ∃ g, gk = g + 1 := ⟨gk - 1, by omega⟩
      subst hgs
      go_wp2
      obtain ⟨VO, hVO⟩ : ∃ V, V = u6 := ⟨_, rfl⟩
      subst hVO
      go_loopg [0, 6, 7, 8] L (fun g2 vr2 vo2 vn2 vp wr => ∃ q : Nat, vr2 = .slice ra r.length rc ∧ vo2 = VO ∧ vn2 = .int .i64 p ∧ L ≤ q + g2 ∧ p ≤ q ∧ q ≤ L ∧ vp = .int .i64 q ∧ Lft c r q ∧ plcN c q = plcN c p ∧ Below W1.heap.size W1 wr)
      case atStart => exact ⟨p, rfl, rfl, rfl, by omega, Nat.le_refl _, hp, rfl, LF.out, rfl, Below.refl _ _⟩
      case round =>
        obtain ⟨q, rfl, hvo2, rfl, hg2, hpq, hqL, rfl, hlf, hpl, hb⟩ := hrel
        subst hvo2
        have LQ := hide hlf
        have PL := hide hpl
        have BQ := hide hb
        clear hlf hpl hb
        by_cases hlt : q < L
        · have hlt' : (q : Int) < (L : Int) := by omega
          have BW := hide (B.out.trans (BQ.out.mono B.out.size))
          go_wp2_with fail
          refine (powE_calls 2 q _ (T.out.below BW.out) (by omega) (by omega) (by omega) (by omega)).mono ?_
          rintro e w' ⟨rfl, rfl⟩
          rw [Int.toNat_natCast]
          obtain ⟨x, hx⟩ : ∃ x, x = pow 2 q := ⟨_, rfl⟩
          rw [show pow (Int.toNat 2) q = x from hx.symm]
          have HRD : Hid (∀ w2 : World, Rd (w2.alloc (.cells #[.int .i64 1, .int .i64 (x : Int)] 3)) (.slice (some ⟨w2.heap.size, 0, none⟩) 2 2) (dvP q)) := fun w2 => by
            have := rd_two (w := w2) (y := 1) (z := (x : Int))
            rw [hx] at this ⊢
            exact this
          obtain ⟨Q, S, hQS, hQl, hyes, hno⟩ := LQ.out.div (show q < 24 by omega) h2
          have HQS := hide hQS
          have HQL := hide hQl
          have YES := hide hyes
          have NO := hide hno
          clear hx hQS hyes hno hQl
          have DC : Hid (Calls Tryd.prog 74 #[.slice ra r.length rc, .slice (some ⟨wr.heap.size, 0, none⟩) 2 2] (wr.alloc (.cells #[.int .i64 1, .int .i64 (x : Int)] 3)) fun e w' => ∃ v1 v2, e = .returned (.tuple #[v1, v2, .bool true]) ∧ Two (wr.alloc (.cells #[.int .i64 1, .int .i64 (x : Int)] 3)) w' v1 v2 Q S) := by
            have := divPoly_calls _ _ r (dvP q) _ ((T.out.below BW.out).below ((Below.refl _ _).alloc (Nat.le_refl _) _)) ((RR.out.below BQ.out).below ((Below.refl _ _).alloc (Nat.le_refl _) (.cells #[.int .i64 1, .int .i64 (x : Int)] 3))) (HRD.out wr)
            rw [HQS.out] at this
            exact this
          go_wp2_with fail
          refine DC.out.mono ?_
          rintro e w3 ⟨v1, v2, rfl, ho1, ho2, _, hb3⟩
          have B3 : Hid (Below W1.heap.size W1 w3) := (BQ.out.alloc BQ.out.size _).trans (hb3.mono (by have := BQ.out.size; simp; omega))
          have OQ := hide ho1
          have hsW := BQ.out.size
          obtain ⟨a2, c2, hv2, _, _, _⟩ := ho2.rd
          subst hv2
          obtain ⟨a1, c1, hv1, _, _, _⟩ := ho1.rd
          subst hv1
          clear ho1 ho2 hb3
          by_cases h0 : S.length = 0
          · have t0 : ((S.length : Int) == 0) = true := by simp [h0]
            obtain ⟨l1, l2⟩ := YES.out h0
            rw [PL.out] at l2
            have L1 := hide l1
            have hun := plcN_le c p
            obtain ⟨l, hl⟩ : ∃ l, l = plcN c p := ⟨_, rfl⟩
            have O3 := hide (O.out.below B3.out)
            rw [← hl] at l2 O3 hun
            have L2 := hide l2
            have B4 := hide (B.out.trans (B3.out.mono B.out.size))
            clear l1 l2 hl h0
            go_wp2_with (at_builtin; refine wpList_append_rd rfl (.tmp 34) (.tmp 36) rfl w.heap.size _ l.length l [((q : Nat) : Int)] rfl (O3.out.alloc _) _ rfl rd_single2 (by simp; omega) (by have := B4.out.size; simp; omega) ?_)
            intro v' w4 ho4 hg4
            have hb4 : Below w.heap.size w w4 := (B4.out.alloc B4.out.size _).grown hg4 (by have := B4.out.size; simp; omega) (fun i hi => (O3.out.lt i hi).1)
            rw [← L2.out] at ho4
            have O4 := hide ho4
            have B5 := hide hb4
            have R4 : Hid (Rd w4 (.slice a1 Q.length c1) Q) := by
              refine Own.rd (base := (wr.alloc (.cells #[.int .i64 1, .int .i64 (x : Int)] 3)).heap.size) (World.ownsRow.kept (OQ.out.alloc _) hg4 ?_)
              cases hv : (Value.slice a1 Q.length c1).ownBlock with
              | none => exact .inl rfl
              | some j =>
                right
                intro e
                have g1 := (OQ.out.lt j hv).1
                have g2 := (O.out.lt j e.symm).2
                simp at g1
                omega
            clear ho4 hg4 hb4
            have hQl : Q.length ≤ g + 1 := by have := HQL.out; omega
            go_wp2
            go_roundg g
            case measure => omega
            case rel => exact ⟨Q, q + 1, hQl, by omega, by go_num, L1.out, R4.out, O4.out, B5.out⟩
          · have t0 : ((S.length : Int) == 0) = false := by simp; intro e; simp [e] at h0
            obtain ⟨l1, l2⟩ := NO.out h0
            rw [PL.out] at l2
            have L1 := hide l1
            have L2 := hide l2
            clear l1 l2
            go_wp2
            go_roundg (L - (q + 1))
            case measure => omega
            case rel => exact ⟨q + 1, rfl, rfl, rfl, by omega, by omega, by omega, by go_num, L1.out, L2.out, B3.out⟩
        · obtain rfl : q = L := by omega
          have FN := hide (LQ.out.fail h2)
          have B4 := hide (B.out.trans (BQ.out.mono B.out.size))
          go_wp2
          try rw [Exit.noGoto_ret]
          go_ret2
          rw [FN.out]
          exact ⟨_, rfl, own_nil _ _, B4.out⟩
    · have h2' : ¬ (1 : Int) < (r.length : Int) := by omega
      have FN := hide (LF.out.done (L := L) (by omega) hp hL)
      go_wp2
      try rw [Exit.noGoto_ret]
      go_ret2
      rw [FN.out]
      exact ⟨_, rfl, O.out, B.out⟩
end Gf
end Go.Proofs.YtogopakmebiomaaDoor

namespace Go.Proofs.YtogopakmebiomaaDoor
open Go.RowKit

theorem rd_single1 {w : World} {z : Int} : Rd (w.alloc (.cells #[.int .i64 z] 3)) (.slice (some ⟨w.heap.size, 0, none⟩) 1 1) [z] := by
  refine ⟨_, 1, rfl, Nat.le_refl _, ⟨by unfold maxLen; omega, fun h => by cases h⟩, .inr ⟨_, 0, rfl, by simp, fun i hi => ?_⟩⟩
  simp at hi
  subst hi
  exact World.cell?_alloc_at _ _ _ _ (by simp)
/-- The places below k where two lists are unlike. -/
def unpN (xs ys : List Int) : Nat → List Int
  | 0 => []
  | k + 1 => if xs.getD k 0 = ys.getD k 0 then unpN xs ys k else unpN xs ys k ++ [(k : Int)]
theorem unpN_length (xs ys : List Int) (k : Nat) : (unpN xs ys k).length ≤ k := by
  induction k with
  | zero => exact Nat.le_refl _
  | succ k ih =>
    rw [unpN]
    split
    · omega
    · rw [List.length_append]; show _ + 1 ≤ _; omega
theorem unpN_same {xs ys : List Int} {k : Nat} {x y : Int} (hx : xs.getD k 0 = x) (hy : ys.getD k 0 = y) (h : x = y) : unpN xs ys (k + 1) = unpN xs ys k := by rw [unpN, if_pos (by rw [hx, hy, h])]
theorem unpN_other {xs ys : List Int} {k : Nat} {x y : Int} (hx : xs.getD k 0 = x) (hy : ys.getD k 0 = y) (h : ¬ x = y) : unpN xs ys (k + 1) = unpN xs ys k ++ [(k : Int)] := by rw [unpN, if_neg (by rw [hx, hy]; exact h)]
def wrpR (xs ys : List Int) : List Int × Bool := if xs.length = ys.length ∧ xs.length ≤ 24 then (unpN xs ys xs.length, true) else ([], false)
theorem wrpR_len (xs ys : List Int) : (wrpR xs ys).1.length ≤ 1048576 := by
  unfold wrpR
  split
  next h => have := unpN_length xs ys xs.length; show (unpN xs ys xs.length).length ≤ _; omega
  next => show 0 ≤ _; omega

set_option maxRecDepth 100000 in
set_option maxHeartbeats 1600000 in
theorem wrongPlaces_calls (av bv : Value) (xs ys : List Int) (w : World) (ha : Rd w av xs) (hb : Rd w bv ys) :
    Calls Tryd.prog 32 #[av, bv] w fun e w' => ∃ v', e = .returned (.tuple #[v', .bool (wrpR xs ys).2]) ∧ Own w' w.heap.size v' (wrpR xs ys).1 ∧ Below w.heap.size w w' := by
  have RA := hide ha
  have RB := hide hb
  obtain ⟨aa, ac, rfl, _, _, _⟩ := ha
  obtain ⟨ba, bc, rfl, _, _, _⟩ := hb
  by_cases hl : xs.length = ys.length
  case neg =>
    have e : wrpR xs ys = ([], false) := if_neg (fun h => hl h.1)
    have t : ((xs.length : Int) != (ys.length : Int)) = true := by simp; omega
    have hl' : ¬ (xs.length : Int) = (ys.length : Int) := by omega
    rw [e]
    clear e hl
    go_enter Tryd.func32, Tryd.ntmps32
    go_wp2
    go_ret2
    exact ⟨_, rfl, World.ownsRow_nil _ _ _ _, Below.refl _ _⟩
  by_cases hm : xs.length ≤ 24
  case neg =>
    have e : wrpR xs ys = ([], false) := if_neg (fun h => hm h.2)
    have t : ((xs.length : Int) != (ys.length : Int)) = false := by simp; omega
    have hm' : (24 : Int) < (xs.length : Int) := by omega
    rw [e]
    clear e
    have HL := hide hl
    clear hl
    go_enter Tryd.func32, Tryd.ntmps32
    go_wp2
    go_ret2
    exact ⟨_, rfl, World.ownsRow_nil _ _ _ _, Below.refl _ _⟩
  have e : wrpR xs ys = (unpN xs ys xs.length, true) := if_pos ⟨hl, hm⟩
  have t : ((xs.length : Int) != (ys.length : Int)) = false := by simp; omega
  have hm' : ¬ (24 : Int) < (xs.length : Int) := by omega
  rw [e]
  have HL := hide hl
  clear e hl
  go_enter Tryd.func32, Tryd.ntmps32
  go_wp2
  go_loopw [6, 21] (fun vo vk wr => ∃ k : Nat, k ≤ xs.length ∧ vk = .int .i64 k ∧ Own wr w.heap.size vo (unpN xs ys k) ∧ Below w.heap.size w wr) (fun _ vk _ => xs.length - (intOf vk).toNat)
  case atStart =>
    refine ⟨0, Nat.zero_le _, rfl, ?_, (Below.refl _ _).alloc (Nat.le_refl _) _⟩
    exact World.ownsRow_lit w #[] 0 (Nat.le_refl _) (by decide) (by rfl)
  case round =>
    obtain ⟨k, hk, rfl, ho, hb⟩ := hrel
    have O := hide ho
    have B := hide hb
    clear ho hb
    by_cases hlt : k < xs.length
    · have hlt' : (k : Int) < (xs.length : Int) := by omega
      have hlty' : (k : Int) < (ys.length : Int) := by have := HL.out; omega
      have hlty : k < ys.length := by have := HL.out; omega
      obtain ⟨b1, o1, u1, rfl, hc1, hu1⟩ := (RA.out.below B.out).row k hlt
      obtain ⟨b2, o2, u2, rfl, hc2, hu2⟩ := (RB.out.below B.out).row k hlty
      obtain ⟨x, hx⟩ : ∃ x, x = xs.getD k 0 := ⟨_, rfl⟩
      obtain ⟨y, hy⟩ : ∃ y, y = ys.getD k 0 := ⟨_, rfl⟩
      rw [← hx] at hu1
      rw [← hy] at hu2
      subst hu1 hu2
      have X := hide hx
      have Y := hide hy
      clear hx hy
      by_cases hxy : x = y
      · have tt : (x != y) = false := by simp [hxy]
        have e := unpN_same X.out.symm Y.out.symm hxy
        have O1 := hide O.out
        rw [← e] at O1
        clear e
        go_wp2
        go_quiet (fail)
        go_wp2
        go_roundw
        case rel => exact ⟨k + 1, by omega, by go_num, O1.out.below (below_drewN' _), below_drewN B.out _⟩
        case measure => simp [intOf]; omega
      · have tt : (x != y) = true := by simp [hxy]
        have e := unpN_other X.out.symm Y.out.symm hxy
        have hun := unpN_length xs ys k
        obtain ⟨l, hl⟩ : ∃ l, l = unpN xs ys k := ⟨_, rfl⟩
        have O2 := hide O.out
        rw [← hl] at e O2 hun
        have E := hide e
        clear e hl
        go_wp2
        go_quiet (fail)
        go_wp2_with (at_builtin; refine wpList_append_rd rfl _ _ rfl w.heap.size _ l.length l [((k : Nat) : Int)] rfl ((O2.out.below (below_drewN' _)).alloc _) _ rfl rd_single1 (by simp; omega) (by have := B.out.size; simp; omega) ?_)
        intro v' w3 ho3 hg3
        have hb3 : Below w.heap.size w w3 := ((below_drewN B.out _).alloc (by have := B.out.size; simp; omega) _).grown hg3 (by have := B.out.size; simp; omega) (fun i hi => (O.out.lt i hi).1)
        rw [← E.out] at ho3
        have O3 := hide ho3
        have B3 := hide hb3
        clear ho3 hg3 hb3
        go_wp2
        go_roundw
        case rel => exact ⟨k + 1, by omega, by go_num, O3.out, B3.out⟩
        case measure => simp [intOf]; omega
    · obtain rfl : k = xs.length := by omega
      go_wp2
      go_ret2
      exact ⟨_, rfl, O.out, B.out⟩

set_option maxRecDepth 100000 in
set_option maxHeartbeats 1600000 in
theorem l4Unlike_calls (av bv : Value) (xs ys : List Int) (w : World) (ha : Rd w av xs) (hb : Rd w bv ys) (hl : xs.length = ys.length) (hm : xs.length ≤ 24) :
    Calls Tryd.prog 89 #[av, bv] w fun e w' => ∃ v', e = .returned v' ∧ Own w' w.heap.size v' (unpN xs ys xs.length) ∧ Below w.heap.size w w' := by
  have RA := hide ha
  have RB := hide hb
  obtain ⟨aa, ac, rfl, _, _, _⟩ := ha
  obtain ⟨ba, bc, rfl, _, _, _⟩ := hb
  have HL := hide hl
  clear hl
  go_enter Tryd.func89, Tryd.ntmps89
  go_wp2
  go_loopw [5, 9] (fun vo vk wr => ∃ k : Nat, k ≤ xs.length ∧ vk = .int .i64 k ∧ Own wr w.heap.size vo (unpN xs ys k) ∧ Below w.heap.size w wr) (fun _ vk _ => xs.length - (intOf vk).toNat)
  case atStart => exact ⟨0, Nat.zero_le _, rfl, World.ownsRow_nil _ _ _ _, Below.refl _ _⟩
  case round =>
    obtain ⟨k, hk, rfl, ho, hb⟩ := hrel
    have O := hide ho
    have B := hide hb
    clear ho hb
    by_cases hlt : k < xs.length
    · have hlt' : (k : Int) < (xs.length : Int) := by omega
      have hlty' : (k : Int) < (ys.length : Int) := by have := HL.out; omega
      have hlty : k < ys.length := by have := HL.out; omega
      obtain ⟨b1, o1, u1, rfl, hc1, hu1⟩ := (RA.out.below B.out).row k hlt
      obtain ⟨b2, o2, u2, rfl, hc2, hu2⟩ := (RB.out.below B.out).row k hlty
      obtain ⟨x, hx⟩ : ∃ x, x = xs.getD k 0 := ⟨_, rfl⟩
      obtain ⟨y, hy⟩ : ∃ y, y = ys.getD k 0 := ⟨_, rfl⟩
      rw [← hx] at hu1
      rw [← hy] at hu2
      subst hu1 hu2
      have X := hide hx
      have Y := hide hy
      clear hx hy
      by_cases hxy : x = y
      · have tt : (x != y) = false := by simp [hxy]
        have e := unpN_same X.out.symm Y.out.symm hxy
        have O1 := hide O.out
        rw [← e] at O1
        clear e
        go_wp2
        go_quiet (fail)
        go_wp2
        go_roundw
        case rel => exact ⟨k + 1, by omega, by go_num, O1.out.below (below_drewN' _), below_drewN B.out _⟩
        case measure => simp [intOf]; omega
      · have tt : (x != y) = true := by simp [hxy]
        have e := unpN_other X.out.symm Y.out.symm hxy
        have hun := unpN_length xs ys k
        obtain ⟨l, hl⟩ : ∃ l, l = unpN xs ys k := ⟨_, rfl⟩
        have O2 := hide O.out
        rw [← hl] at e O2 hun
        have E := hide e
        clear e hl
        go_wp2
        go_quiet (fail)
        go_wp2_with (at_builtin; refine wpList_append_rd rfl _ _ rfl w.heap.size _ l.length l [((k : Nat) : Int)] rfl ((O2.out.below (below_drewN' _)).alloc _) _ rfl rd_single1 (by simp; omega) (by have := B.out.size; simp; omega) ?_)
        intro v' w3 ho3 hg3
        have hb3 : Below w.heap.size w w3 := ((below_drewN B.out _).alloc (by have := B.out.size; simp; omega) _).grown hg3 (by have := B.out.size; simp; omega) (fun i hi => (O.out.lt i hi).1)
        rw [← E.out] at ho3
        have O3 := hide ho3
        have B3 := hide hb3
        clear ho3 hg3 hb3
        go_wp2
        go_roundw
        case rel => exact ⟨k + 1, by omega, by go_num, O3.out, B3.out⟩
        case measure => simp [intOf]; omega
    · obtain rfl : k = xs.length := by omega
      go_wp2
      go_ret
      exact ⟨_, rfl, O.out, B.out⟩

set_option maxRecDepth 100000 in
set_option maxHeartbeats 1600000 in
theorem sWrongPlaces_calls (av bv : Value) (xs ys : List Int) (w : World) (ha : Rd w av xs) (hb : Rd w bv ys) :
    Calls Tryd.prog 38 #[av, bv] w fun e w' => ∃ v', e = .returned (.tuple #[v', .bool (wrpR xs ys).2]) ∧ Own w' w.heap.size v' (wrpR xs ys).1 ∧ Below w.heap.size w w' := by
  have RA := hide ha
  have RB := hide hb
  obtain ⟨aa, ac, rfl, _, _, _⟩ := ha
  obtain ⟨ba, bc, rfl, _, _, _⟩ := hb
  by_cases hl : xs.length = ys.length
  case neg =>
    have e : wrpR xs ys = ([], false) := if_neg (fun h => hl h.1)
    have t : ((xs.length : Int) != (ys.length : Int)) = true := by simp; omega
    have hl' : ¬ (xs.length : Int) = (ys.length : Int) := by omega
    rw [e]
    clear e hl
    go_enter Tryd.func38, Tryd.ntmps38
    go_wp2
    go_ret2
    exact ⟨_, rfl, World.ownsRow_nil _ _ _ _, Below.refl _ _⟩
  by_cases hm : xs.length ≤ 24
  case neg =>
    have e : wrpR xs ys = ([], false) := if_neg (fun h => hm h.2)
    have t : ((xs.length : Int) != (ys.length : Int)) = false := by simp; omega
    have hm' : (24 : Int) < (xs.length : Int) := by omega
    rw [e]
    clear e
    have HL := hide hl
    clear hl
    go_enter Tryd.func38, Tryd.ntmps38
    go_wp2
    go_ret2
    exact ⟨_, rfl, World.ownsRow_nil _ _ _ _, Below.refl _ _⟩
  have e : wrpR xs ys = (unpN xs ys xs.length, true) := if_pos ⟨hl, hm⟩
  have t : ((xs.length : Int) != (ys.length : Int)) = false := by simp; omega
  have hm' : ¬ (24 : Int) < (xs.length : Int) := by omega
  rw [e]
  have HL := hide hl
  clear e hl
  go_enter Tryd.func38, Tryd.ntmps38
  go_wp2_with fail
  refine (l4Unlike_calls _ _ xs ys _ RA.out RB.out HL.out hm).mono ?_
  rintro e w1 ⟨v1, rfl, ho1, hb1⟩
  have O1 := hide ho1
  have B1 := hide hb1
  clear ho1 hb1
  go_wp2
  go_ret2
  exact ⟨_, rfl, O1.out, B1.out⟩
end Go.Proofs.YtogopakmebiomaaDoor

namespace Go.Proofs.YtogopakmebiomaaDoor
open Go.RowKit
open Gf (ci nat AllLt synI locN plcN isB wdOk wOk rtR nought)

def locC (xs : List Int) (t : Int) : List Int := ci (locN (nat (synI xs (2 * t.toNat))))
def plcW (xs : List Int) (t : Int) : List Int := plcN (locC xs t) xs.length
def outW (xs : List Int) (t : Int) : List Int := fixW xs (plcW xs t) (synI xs (2 * t.toNat))
def plOkW (xs : List Int) (t : Int) : Bool := decide ((plcW xs t).length = (locC xs t).length - 1 ∧ 1 ≤ (plcW xs t).length ∧ ((plcW xs t).length : Int) ≤ t)
def decW (xs : List Int) (t : Int) : List Int × Int × Bool :=
  if wdOk xs t = true then
    if isB xs t = true then (xs, 0, true)
    else if plOkW xs t = true then
      if isB (outW xs t) t = true then (outW xs t, ((unpN xs (outW xs t) xs.length).length : Int), true) else ([], 0, false)
    else ([], 0, false)
  else ([], 0, false)
theorem decW_bad {xs : List Int} {t : Int} (h : wdOk xs t = false) : decW xs t = ([], 0, false) := by unfold decW; rw [h]; rfl
theorem decW_is {xs : List Int} {t : Int} (h : wdOk xs t = true) (h2 : isB xs t = true) : decW xs t = (xs, 0, true) := by unfold decW; rw [if_pos h, if_pos h2]
theorem decW_no {xs : List Int} {t : Int} (h : wdOk xs t = true) (h2 : isB xs t = false) (h3 : plOkW xs t = false) : decW xs t = ([], 0, false) := by unfold decW; rw [if_pos h, if_neg (by rw [h2]; decide), if_neg (by rw [h3]; decide)]
theorem decW_not {xs : List Int} {t : Int} (h : wdOk xs t = true) (h2 : isB xs t = false) (h3 : plOkW xs t = true) (h4 : isB (outW xs t) t = false) : decW xs t = ([], 0, false) := by unfold decW; rw [if_pos h, if_neg (by rw [h2]; decide), if_pos h3, if_neg (by rw [h4]; decide)]
theorem decW_yes {xs : List Int} {t : Int} (h : wdOk xs t = true) (h2 : isB xs t = false) (h3 : plOkW xs t = true) (h4 : isB (outW xs t) t = true) : decW xs t = (outW xs t, ((unpN xs (outW xs t) xs.length).length : Int), true) := by unfold decW; rw [if_pos h, if_neg (by rw [h2]; decide), if_pos h3, if_pos h4]
theorem unpN_comm (xs ys : List Int) (k : Nat) : unpN xs ys k = unpN ys xs k := by
  induction k with
  | zero => rfl
  | succ k ih =>
    rw [unpN, unpN, ih]
    by_cases h : xs.getD k 0 = ys.getD k 0
    · rw [if_pos h, if_pos h.symm]
    · rw [if_neg h, if_neg (fun e => h e.symm)]
theorem synI_all {xs : List Int} (h : xs.all Gf.elOk = true) (n : Nat) : (synI xs n).all Gf.elOk = true := by
  rw [List.all_eq_true]
  intro x hx
  obtain ⟨k, _, rfl⟩ := List.mem_map.1 hx
  have : Gf.ev (Gf.pow 2 k) xs < 256 := Gf.ev_lt (Gf.all_mem h)
  exact Gf.elOk_iff.2 (by omega)
/-- What the parts of a word that is taken are. -/
structure WdF (xs : List Int) (t : Int) (n : Nat) : Prop where
  nt : t = (n : Int)
  n1 : 1 ≤ n
  n3 : n ≤ 3
  len : xs.length ≤ 24
  el : xs.all Gf.elOk = true
  sl : (synI xs (2 * n)).length = 2 * n
  sel : (synI xs (2 * n)).all Gf.elOk = true
  loc : Gf.locR (synI xs (2 * n)) = (locC xs n, true)
  cg : Gf.goodP (locC xs n) = true
  c1 : 1 ≤ (locC xs n).length
  c7 : (locC xs n).length ≤ 7
  sn : AllLt (nat (synI xs (2 * n)))
  scn : ci (nat (synI xs (2 * n))) = synI xs (2 * n)
theorem wd_facts {xs : List Int} {t : Int} (h : wdOk xs t = true) : ∃ n : Nat, WdF xs t n := by
  obtain ⟨h1, h2, h3, h4⟩ := Gf.wdOk_yes h
  obtain ⟨q1, q3⟩ := Gf.wOk_iff.1 h1
  obtain ⟨n, rfl⟩ := Int.eq_ofNat_of_zero_le (a := t) (by omega)
  have hsl := Gf.synI_length xs (2 * n)
  have hse := synI_all h4 (2 * n)
  have hsn := Gf.nat_lt hse
  have hlen : (locN (nat (synI xs (2 * n)))).length ≤ 2 * n + 1 := by
    have := Gf.locN_le hsn
    rwa [Gf.nat_length, hsl] at this
  have hcut : locC xs n = cutL (ci (Gf.bmTo (nat (synI xs (2 * n))) (nat (synI xs (2 * n))).length).c) := by
    show ci (locN (nat (synI xs (2 * (n : Int).toNat)))) = _
    rw [Int.toNat_natCast, Gf.cutL_nl]
    rfl
  have hinv := Gf.bm_inv hsn (nat (synI xs (2 * n))).length (Nat.le_refl _)
  have hcl : (locC xs n).length = (locN (nat (synI xs (2 * n)))).length := by
    show (ci (locN (nat (synI xs (2 * (n : Int).toNat))))).length = _
    rw [Gf.ci_length, Int.toNat_natCast]
  refine ⟨n, rfl, by omega, by omega, h3, h4, hsl, hse, ?_, ?_, ?_, by omega, hsn, Gf.ci_nat hse⟩
  · rw [Gf.locR_yes (by simp only [Gf.locOk, hse, Bool.and_true, decide_eq_true_eq]; omega)]
    show (ci (locN (nat (synI xs (2 * n)))), true) = (ci (locN (nat (synI xs (2 * (n : Int).toNat)))), true)
    rw [Int.toNat_natCast]
  · rw [hcut]
    exact Gf.goodP_cut hinv.cl (by rw [hinv.len, Gf.nat_length, hsl]; omega)
  · rw [hcl]
    by_cases h0 : (locN (nat (synI xs (2 * n)))).length = 0
    · exfalso
      have e : Gf.fn (locN (nat (synI xs (2 * n)))) 0 = 0 := Gf.fn_far (by omega)
      unfold Gf.locN at e
      rw [Gf.cutNl_fn, hinv.one] at e
      cases e
    · omega
theorem outW_len (xs : List Int) (t : Int) : (outW xs t).length = xs.length := by
  unfold outW fixW
  rw [Gf.ci_length, fixN_length, Gf.nat_length]
theorem ci_all {l : List Nat} (h : AllLt l) : (ci l).all Gf.elOk = true := by
  rw [Gf.all_of_getD]
  intro i _
  have := h i
  rw [Gf.ci_getD]
  exact Gf.elOk_iff.2 (by omega)
theorem outW_el {xs : List Int} {n : Nat} (f : WdF xs n n) (hp : plOkW xs n = true) : (outW xs n).all Gf.elOk = true := by
  unfold plOkW at hp
  simp only [decide_eq_true_eq] at hp
  have hok := plcN_ok (locC xs n) xs.length f.len
  have hn3 := f.n3
  have hsok : (slvR (vanM (plcW xs n)) ((synI xs (2 * n)).take (plcW xs n).length)).2 = true := by
    refine van_ok hok.1 hp.2.1 (by omega) (by rw [List.length_take, f.sl]; omega) ?_
    rw [List.all_eq_true]
    intro x hx
    exact List.all_eq_true.1 f.sel x (List.mem_of_mem_take hx)
  obtain ⟨S, hS1, hS2, _, _, hS3, _⟩ := slv_facts hsok
  unfold outW fixW
  rw [Int.toNat_natCast, hS1, nat_ci]
  exact ci_all (fixN_lt (Gf.nat_lt f.el) hS3 _)
theorem decW_len (xs : List Int) (t : Int) : (decW xs t).1.length ≤ 1048576 := by
  cases h : wdOk xs t with
  | false => rw [decW_bad h]; show 0 ≤ _; omega
  | true =>
    have hl := (Gf.wdOk_yes h).2.2.1
    have ho := outW_len xs t
    unfold decW
    rw [if_pos h]
    split
    · show xs.length ≤ _; omega
    · split
      · split
        · show (outW xs t).length ≤ _; omega
        · show 0 ≤ _; omega
      · show 0 ≤ _; omega
end Go.Proofs.YtogopakmebiomaaDoor

namespace Go.Proofs.YtogopakmebiomaaDoor
open Go.RowKit
open Gf (ci nat AllLt synI locN plcN isB wdOk wOk rtR nought)

set_option maxRecDepth 100000 in
set_option maxHeartbeats 6400000 in
theorem decodeWord_calls (v : Value) (xs : List Int) (t : Int) (w : World) (hT : Gf.Tab w) (h : Rd w v xs) :
    Calls Tryd.prog 28 #[v, .int .i64 t] w fun e w' => ∃ v', e = .returned (.tuple #[v', .int .i64 (decW xs t).2.1, .bool (decW xs t).2.2]) ∧ Own w' w.heap.size v' (decW xs t).1 ∧ Below w.heap.size w w' := by
  have T := hide hT
  have R := hide h
  obtain ⟨a, cap, rfl, _, _, _⟩ := h
  cases hw : wdOk xs t with
  | false =>
    rw [decW_bad hw]
    have G := hide (Gf.synR_no hw)
    clear hT hw
    go_enter Tryd.func28, Tryd.ntmps28
    go_wp2_with fail
    refine (Gf.syndromesOf_calls _ xs t _ T.out R.out).mono ?_
    rw [G.out]
    rintro e w1 ⟨v1, rfl, ho1, hb1⟩
    have B1 := hide hb1
    clear ho1 hb1
    go_wp2
    go_ret3
    exact ⟨_, rfl, Gf.own_nil _ _, B1.out⟩
  | true =>
    obtain ⟨n, f⟩ := wd_facts hw
    obtain rfl := f.nt
    have F := hide f
    have G : Hid (Gf.synR xs n = (synI xs (2 * n), true)) := by
      have := Gf.synR_yes hw
      rwa [Int.toNat_natCast] at this
    have n1 := f.n1
    have n3 := f.n3
    have hlen := f.len
    obtain ⟨s, hs⟩ : ∃ s, s = synI xs (2 * n) := ⟨_, rfl⟩
    have HS := hide hs
    have IB : Hid (isB xs n = s.all nought) := by
      rw [hs]
      show (synI xs (2 * (n : Int).toNat)).all nought = _
      rw [Int.toNat_natCast]
    rw [← hs] at G
    cases hi : isB xs n with
    | true =>
      rw [decW_is hw hi]
      rw [hi] at IB
      clear hT hw f hs hi
      go_enter Tryd.func28, Tryd.ntmps28
      go_wp2_with fail
      refine (Gf.syndromesOf_calls _ xs _ _ T.out R.out).mono ?_
      rw [G.out]
      rintro e w1 ⟨v1, rfl, ho1, hb1⟩
      have R1 := hide ho1.rd
      have B1 := hide hb1
      clear ho1 hb1
      go_wp2_with fail
      refine (Gf.allNought_calls _ s _ R1.out).mono ?_
      rw [← IB.out]
      rintro e w' ⟨rfl, rfl⟩
      go_wp2_with fail
      refine (copyList_calls _ xs _ (R.out.below B1.out) (by omega)).mono ?_
      rintro e w2 ⟨v2, rfl, ho2, hb2⟩
      have O2 := hide (ho2.mono B1.out.size)
      have B2 := hide (B1.out.trans (hb2.mono B1.out.size))
      clear ho2 hb2
      go_wp2
      go_ret3
      exact ⟨_, rfl, O2.out, B2.out⟩
    | false =>
      rw [hi] at IB
      obtain ⟨c, hc⟩ : ∃ c, c = locC xs n := ⟨_, rfl⟩
      have LO : Hid (Gf.locR s = (c, true)) := by rw [hs, hc]; exact f.loc
      have CG : Hid (Gf.goodP c = true) := by rw [hc]; exact f.cg
      have C1 : Hid (1 ≤ c.length) := by rw [hc]; exact f.c1
      obtain ⟨ps, hps⟩ : ∃ ps, ps = plcW xs n := ⟨_, rfl⟩
      have hpc : plcN c xs.length = ps := by rw [hps, hc]; rfl
      have hpok := plcN_ok c xs.length hlen
      rw [hpc] at hpok
      have hple := Gf.plcN_le c xs.length
      rw [hpc] at hple
      have HDC := hide hw
      have HDI := hide hi
      by_cases hrt : ps.length = c.length - 1
      · have RT : Hid (rtR c xs.length = (ps, true)) := by
          show rtR c xs.length = (ps, true)
          unfold Gf.rtR
          rw [hpc, if_pos hrt]
        by_cases hp1 : 1 ≤ ps.length
        · by_cases hp2 : ps.length ≤ n
          · have hplok : plOkW xs n = true := by
              unfold plOkW
              rw [← hps, ← hc]
              exact decide_eq_true ⟨hrt, hp1, by omega⟩
            obtain ⟨out, hout⟩ : ∃ o, o = outW xs n := ⟨_, rfl⟩
            have HOUT : Hid (fixW xs ps s = out) := by
              rw [hout]
              show _ = fixW xs (plcW xs n) (synI xs (2 * (n : Int).toNat))
              rw [Int.toNat_natCast, ← hs, ← hps]
            have OE : Hid (out.all Gf.elOk = true) := by rw [hout]; exact outW_el f hplok
            have OL : Hid (out.length = xs.length) := by rw [hout]; exact outW_len xs n
            have OW : Hid (wdOk out n = true) := by
              obtain ⟨q1, q2, q3, q4⟩ := Gf.wdOk_yes hw
              refine Gf.wdOk_mk q1 (by rw [OL.out]; exact q2) (by rw [OL.out]; exact q3) OE.out
            have PK := hide hpok.1
            have PIN := hide hpok.2
            have EL := hide f.el
            have SEL : Hid (s.all Gf.elOk = true) := by rw [hs]; exact f.sel
            have hsl : ps.length ≤ s.length := by rw [hs, f.sl]; omega
            have HSL := hide hsl
            have YES : Hid (isB out n = true → decW xs n = (out, ((unpN xs out xs.length).length : Int), true)) := fun h4 => by
              rw [hout] at h4 ⊢
              exact decW_yes hw hi hplok h4
            have NOT : Hid (isB out n = false → decW xs n = ([], 0, false)) := fun h4 => by
              rw [hout] at h4
              exact decW_not hw hi hplok h4
            have hp1' : ¬ (ps.length : Int) < 1 := by omega
            have hp2' : ¬ (n : Int) < (ps.length : Int) := by omega
            have hp3 : ps.length ≤ 3 := by omega
            clear hT hw f hs hi hc hps hpc hpok hrt hplok hout hsl
            cases hio : isB out n with
            | true =>
              rw [YES.out hio]
              have IO : Hid (Gf.isWR out n = (true, true)) := by
                unfold Gf.isWR
                rw [OW.out, hio]
                exact hide rfl
              have WP : Hid (wrpR xs out = (unpN xs out xs.length, true)) := if_pos ⟨OL.out.symm, hlen⟩
              have hun := unpN_length xs out xs.length
              obtain ⟨ul, hul⟩ : ∃ u, u = unpN xs out xs.length := ⟨_, rfl⟩
              rw [← hul] at WP hun ⊢
              clear hio hul
              go_enter Tryd.func28, Tryd.ntmps28
              go_wp2_with fail
              refine (Gf.syndromesOf_calls _ xs _ _ T.out R.out).mono ?_
              rw [G.out]
              rintro e w1 ⟨v1, rfl, ho1, hb1⟩
              have R1 := hide ho1.rd
              have B1 := hide hb1
              clear ho1 hb1
              go_wp2_with fail
              refine (Gf.allNought_calls _ s _ R1.out).mono ?_
              rw [← IB.out]
              rintro e w' ⟨rfl, rfl⟩
              go_wp2_with fail
              refine (Gf.locatorOf_calls _ s _ (T.out.below B1.out) R1.out).mono ?_
              rw [LO.out]
              rintro e w2 ⟨v2, rfl, ho2, hb2⟩
              have R2 := hide ho2.rd
              have R12 := hide (R1.out.below hb2)
              have B2 := hide (B1.out.trans (hb2.mono B1.out.size))
              clear ho2 hb2
              go_wp2_with fail
              refine (Gf.rootPlaces_calls _ c xs.length _ (T.out.below B2.out) R2.out CG.out C1.out hlen).mono ?_
              rw [RT.out]
              rintro e w3 ⟨v3, rfl, ho3, hb3⟩
              have R3 := hide ho3.rd
              have R13 := hide (R12.out.below hb3)
              have B3 := hide (B2.out.trans (hb3.mono B2.out.size))
              obtain ⟨pa, pc, hv3, _, _, _⟩ := ho3.rd
              subst hv3
              clear ho3 hb3
              go_wp2_with fail
              refine (putRight_calls _ _ _ xs ps s _ (T.out.below B3.out) (R.out.below B3.out) R3.out R13.out EL.out SEL.out PK.out PIN.out hp1 hp3 HSL.out hlen).mono ?_
              rw [HOUT.out]
              rintro e w4 ⟨v4, rfl, ho4, hb4⟩
              have O4 := hide (ho4.mono B3.out.size)
              have B4 := hide (B3.out.trans (hb4.mono B3.out.size))
              clear ho4 hb4
              go_wp2_with fail
              refine (Gf.isWord_calls _ out _ _ (T.out.below B4.out) O4.out.rd).mono ?_
              rw [IO.out]
              rintro e w5 ⟨rfl, hb5⟩
              have O5 := hide (O4.out.below hb5)
              have B5 := hide (B4.out.trans (hb5.mono B4.out.size))
              clear hb5
              go_wp2_with fail
              refine (wrongPlaces_calls _ _ xs out _ (R.out.below B5.out) O5.out.rd).mono ?_
              rw [WP.out]
              rintro e w6 ⟨v6, rfl, ho6, hb6⟩
              have O6 := hide (O5.out.below hb6)
              have B6 := hide (B5.out.trans (hb6.mono B5.out.size))
              obtain ⟨ua, uc, hv6, _, _, _⟩ := ho6.rd
              subst hv6
              clear ho6 hb6
              go_wp2
              go_ret3
              exact ⟨_, rfl, O6.out, B6.out⟩
            | false =>
              rw [NOT.out hio]
              have IO : Hid (Gf.isWR out n = (false, true)) := by
                unfold Gf.isWR
                rw [OW.out, hio]
                exact hide rfl
              clear hio
              go_enter Tryd.func28, Tryd.ntmps28
              go_wp2_with fail
              refine (Gf.syndromesOf_calls _ xs _ _ T.out R.out).mono ?_
              rw [G.out]
              rintro e w1 ⟨v1, rfl, ho1, hb1⟩
              have R1 := hide ho1.rd
              have B1 := hide hb1
              clear ho1 hb1
              go_wp2_with fail
              refine (Gf.allNought_calls _ s _ R1.out).mono ?_
              rw [← IB.out]
              rintro e w' ⟨rfl, rfl⟩
              go_wp2_with fail
              refine (Gf.locatorOf_calls _ s _ (T.out.below B1.out) R1.out).mono ?_
              rw [LO.out]
              rintro e w2 ⟨v2, rfl, ho2, hb2⟩
              have R2 := hide ho2.rd
              have R12 := hide (R1.out.below hb2)
              have B2 := hide (B1.out.trans (hb2.mono B1.out.size))
              clear ho2 hb2
              go_wp2_with fail
              refine (Gf.rootPlaces_calls _ c xs.length _ (T.out.below B2.out) R2.out CG.out C1.out hlen).mono ?_
              rw [RT.out]
              rintro e w3 ⟨v3, rfl, ho3, hb3⟩
              have R3 := hide ho3.rd
              have R13 := hide (R12.out.below hb3)
              have B3 := hide (B2.out.trans (hb3.mono B2.out.size))
              obtain ⟨pa, pc, hv3, _, _, _⟩ := ho3.rd
              subst hv3
              clear ho3 hb3
              go_wp2_with fail
              refine (putRight_calls _ _ _ xs ps s _ (T.out.below B3.out) (R.out.below B3.out) R3.out R13.out EL.out SEL.out PK.out PIN.out hp1 hp3 HSL.out hlen).mono ?_
              rw [HOUT.out]
              rintro e w4 ⟨v4, rfl, ho4, hb4⟩
              have O4 := hide (ho4.mono B3.out.size)
              have B4 := hide (B3.out.trans (hb4.mono B3.out.size))
              clear ho4 hb4
              go_wp2_with fail
              refine (Gf.isWord_calls _ out _ _ (T.out.below B4.out) O4.out.rd).mono ?_
              rw [IO.out]
              rintro e w5 ⟨rfl, hb5⟩
              have B5 := hide (B4.out.trans (hb5.mono B4.out.size))
              clear hb5
              go_wp2
              go_ret3
              exact ⟨_, rfl, Gf.own_nil _ _, B5.out⟩
          · have hno : decW xs n = ([], 0, false) := decW_no hw hi (by unfold plOkW; rw [← hps, ← hc]; exact decide_eq_false (by omega))
            rw [hno]
            have hp1' : ¬ (ps.length : Int) < 1 := by omega
            have hp2' : (n : Int) < (ps.length : Int) := by omega
            clear hT hw f hs hi hc hps hpc hpok hrt hno
            go_enter Tryd.func28, Tryd.ntmps28
            go_wp2_with fail
            refine (Gf.syndromesOf_calls _ xs _ _ T.out R.out).mono ?_
            rw [G.out]
            rintro e w1 ⟨v1, rfl, ho1, hb1⟩
            have R1 := hide ho1.rd
            have B1 := hide hb1
            clear ho1 hb1
            go_wp2_with fail
            refine (Gf.allNought_calls _ s _ R1.out).mono ?_
            rw [← IB.out]
            rintro e w' ⟨rfl, rfl⟩
            go_wp2_with fail
            refine (Gf.locatorOf_calls _ s _ (T.out.below B1.out) R1.out).mono ?_
            rw [LO.out]
            rintro e w2 ⟨v2, rfl, ho2, hb2⟩
            have R2 := hide ho2.rd
            have B2 := hide (B1.out.trans (hb2.mono B1.out.size))
            clear ho2 hb2
            go_wp2_with fail
            refine (Gf.rootPlaces_calls _ c xs.length _ (T.out.below B2.out) R2.out CG.out C1.out hlen).mono ?_
            rw [RT.out]
            rintro e w3 ⟨v3, rfl, ho3, hb3⟩
            have B3 := hide (B2.out.trans (hb3.mono B2.out.size))
            obtain ⟨pa, pc, hv3, _, _, _⟩ := ho3.rd
            subst hv3
            clear ho3 hb3
            go_wp2
            go_ret3
            exact ⟨_, rfl, Gf.own_nil _ _, B3.out⟩
        · have hno : decW xs n = ([], 0, false) := decW_no hw hi (by unfold plOkW; rw [← hps, ← hc]; exact decide_eq_false (by omega))
          rw [hno]
          have hp1' : (ps.length : Int) < 1 := by omega
          clear hT hw f hs hi hc hps hpc hpok hrt hno
          go_enter Tryd.func28, Tryd.ntmps28
          go_wp2_with fail
          refine (Gf.syndromesOf_calls _ xs _ _ T.out R.out).mono ?_
          rw [G.out]
          rintro e w1 ⟨v1, rfl, ho1, hb1⟩
          have R1 := hide ho1.rd
          have B1 := hide hb1
          clear ho1 hb1
          go_wp2_with fail
          refine (Gf.allNought_calls _ s _ R1.out).mono ?_
          rw [← IB.out]
          rintro e w' ⟨rfl, rfl⟩
          go_wp2_with fail
          refine (Gf.locatorOf_calls _ s _ (T.out.below B1.out) R1.out).mono ?_
          rw [LO.out]
          rintro e w2 ⟨v2, rfl, ho2, hb2⟩
          have R2 := hide ho2.rd
          have B2 := hide (B1.out.trans (hb2.mono B1.out.size))
          clear ho2 hb2
          go_wp2_with fail
          refine (Gf.rootPlaces_calls _ c xs.length _ (T.out.below B2.out) R2.out CG.out C1.out hlen).mono ?_
          rw [RT.out]
          rintro e w3 ⟨v3, rfl, ho3, hb3⟩
          have B3 := hide (B2.out.trans (hb3.mono B2.out.size))
          obtain ⟨pa, pc, hv3, _, _, _⟩ := ho3.rd
          subst hv3
          clear ho3 hb3
          go_wp2
          go_ret3
          exact ⟨_, rfl, Gf.own_nil _ _, B3.out⟩
      · have RT : Hid (rtR c xs.length = ([], false)) := by
          show rtR c xs.length = ([], false)
          unfold Gf.rtR
          rw [hpc, if_neg hrt]
        have hno : decW xs n = ([], 0, false) := decW_no hw hi (by unfold plOkW; rw [← hps, ← hc]; exact decide_eq_false (by omega))
        rw [hno]
        clear hT hw f hs hi hc hps hpc hpok hrt hno
        go_enter Tryd.func28, Tryd.ntmps28
        go_wp2_with fail
        refine (Gf.syndromesOf_calls _ xs _ _ T.out R.out).mono ?_
        rw [G.out]
        rintro e w1 ⟨v1, rfl, ho1, hb1⟩
        have R1 := hide ho1.rd
        have B1 := hide hb1
        clear ho1 hb1
        go_wp2_with fail
        refine (Gf.allNought_calls _ s _ R1.out).mono ?_
        rw [← IB.out]
        rintro e w' ⟨rfl, rfl⟩
        go_wp2_with fail
        refine (Gf.locatorOf_calls _ s _ (T.out.below B1.out) R1.out).mono ?_
        rw [LO.out]
        rintro e w2 ⟨v2, rfl, ho2, hb2⟩
        have R2 := hide ho2.rd
        have B2 := hide (B1.out.trans (hb2.mono B1.out.size))
        clear ho2 hb2
        go_wp2_with fail
        refine (Gf.rootPlaces_calls _ c xs.length _ (T.out.below B2.out) R2.out CG.out C1.out hlen).mono ?_
        rw [RT.out]
        rintro e w3 ⟨v3, rfl, ho3, hb3⟩
        have B3 := hide (B2.out.trans (hb3.mono B2.out.size))
        clear ho3 hb3
        go_wp2
        go_ret3
        exact ⟨_, rfl, Gf.own_nil _ _, B3.out⟩
end Go.Proofs.YtogopakmebiomaaDoor

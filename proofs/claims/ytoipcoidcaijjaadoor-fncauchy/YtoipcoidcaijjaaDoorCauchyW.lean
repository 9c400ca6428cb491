/-
  The law of Cauchy's matrices: at every two texts that can be read and are not too long the call returns true, and nothing that was there is written. The program's table of rests must hold its seven numbers.
-/
import Derived.Test.YtoipcoidcaijjaaDoorCauL
import Derived.Test.YtoipcoidcaijjaaDoorSameL
import Derived.Test.YtoipcoidcaijjaaDoorRowsOf
import Derived.Test.YtoipcoidcaijjaaDoorDrawC
import Derived.Test.YtoipcoidcaijjaaDoorDrawE
import Derived.Test.YtoipcoidcaijjaaDoorDrawF
namespace Go.Proofs.YtoipcoidcaijjaaDoor
open Go.RowKit

theorem cell_lt {w : World} {b off : Nat} {u : Value} (h : w.cell? ⟨b, off, none⟩ = some u) : b < w.heap.size := by
  unfold World.cell? at h
  cases hh : w.heap[b]? with
  | none => simp [hh] at h
  | some o => exact (Array.getElem?_eq_some_iff.1 hh).1
theorem nat_at {row : List Int} {j x : Nat} (h : j < row.length) (hx : row.getD j 0 = (x : Int)) : (Gf.nat row).getD j 0 = x := by
  unfold Gf.nat
  rw [List.getD_eq_getElem?_getD, List.getElem?_map, List.getElem?_eq_getElem h]
  rw [List.getD_eq_getElem?_getD, List.getElem?_eq_getElem h] at hx
  simp at hx ⊢
  omega
theorem nat_lt {row : List Int} (h : row.all Gf.elOk = true) : Gf.AllLt (Gf.nat row) := by
  intro j
  by_cases hj : j < row.length
  · have := el_at h j
    rw [nat_at hj (x := (row.getD j 0).toNat) (by omega)]
    omega
  · unfold Gf.nat
    rw [List.getD_eq_getElem?_getD, List.getElem?_eq_none (by simp; omega)]
    decide

set_option maxRecDepth 100000 in
set_option maxHeartbeats 12800000 in
theorem fnCauchy_core (cv mv : Value) (w : World) (hT : Gf.Tab w) (hc : RdB w cv) (hm : RdB w mv) (hlen : ∀ a n c a' n' c', cv = .slice a n c → mv = .slice a' n' c' → (n : Int) + (n' : Int) ≤ 1048576) :
    Calls Tryd.prog 4 #[cv, mv] w fun e w' => e = .returned (.bool true) ∧ Below w.heap.size w w' := by
  have HC := hide hc
  have M := hide hm
  have T := hide hT
  have B := hide (Below.refl w.heap.size w)
  obtain ⟨ca, cc, cz, rfl, _, _, _⟩ := hc
  obtain ⟨ma, mc, mz, rfl, _, _, _⟩ := hm
  have hl := hlen _ _ _ _ _ _ rfl rfl
  have hl' : ¬ (1048576 : Int) < (cz.length : Int) + (mz.length : Int) := by omega
  clear hlen hT
  go_enter Tryd.func4, Tryd.ntmps4
  go_wp2_with fail
  refine (drawCauchyMatrix_calls _ _ HC.out).mono ?_
  rintro e wn ⟨xv, yv, xs, ys, rfl, hx, hy, ⟨hx8, hy8⟩, b⟩
  clear HC
  replace T := hide (T.out.below b)
  replace M := hide (M.out.below b)
  replace B := hide (B.out.trans (b.mono B.out.size))
  clear b
  have RX := hide hx
  have RY := hide hy
  clear hx hy
  obtain ⟨xa, xc, rfl, xcl, _, _⟩ := RX.out
  obtain ⟨ya, yc, rfl, ycl, _, _⟩ := RY.out
  have CF := hide (show ∀ r, r = cauR xs ys → r.2 = true → cauOk xs ys = true ∧ r.1 = cauM xs ys from fun r hr h2 => by
    subst hr
    unfold cauR at h2 ⊢
    by_cases ho : cauOk xs ys = true
    · rw [if_pos ho]; exact ⟨ho, rfl⟩
    · rw [if_neg ho] at h2; cases h2)
  have CI := hide (fun w2 ht h1 h2 => cauchy_calls (.slice xa xs.length xc) (.slice ya ys.length yc) xs ys w2 ht h1 h2)
  have CS := hide (fun w2 h1 h2 => sCauchy_calls (.slice xa xs.length xc) (.slice ya ys.length yc) xs ys w2 h1 h2 (by omega) (by omega))
  obtain ⟨cr, hcr⟩ : ∃ cr, cr = cauR xs ys := ⟨_, rfl⟩
  have CK := hide (CF.out cr hcr)
  rw [← hcr] at CI CS
  clear hcr CF
  obtain ⟨cm, cok⟩ := cr
  go_wp2_with fail
  refine (CI.out _ T.out RX.out RY.out).mono ?_
  rintro e wn ⟨vm, rfl, om, b⟩
  replace T := hide (T.out.below b)
  replace M := hide (M.out.below b)
  replace RX := hide (RX.out.below b)
  replace RY := hide (RY.out.below b)
  replace B := hide (B.out.trans (b.mono B.out.size))
  clear b
  have RM := hide om.rd
  clear om
  obtain ⟨mma, mmc, rfl, _⟩ := RM.out
  go_wp2_with fail
  refine (CS.out _ RX.out RY.out).mono ?_
  rintro e wn ⟨vm2, rfl, om, b⟩
  replace T := hide (T.out.below b)
  replace M := hide (M.out.below b)
  replace RX := hide (RX.out.below b)
  replace RY := hide (RY.out.below b)
  replace RM := hide (RM.out.below b)
  replace B := hide (B.out.trans (b.mono B.out.size))
  clear b
  have RM2 := hide om.rd
  clear om
  clear CI CS
  go_wp2_with fail
  refine (sameLists_same _ _ cm _ RM.out RM2.out).mono ?_
  rintro e wn ⟨rfl, b⟩
  clear RM2
  replace T := hide (T.out.below b)
  replace M := hide (M.out.below b)
  replace RX := hide (RX.out.below b)
  replace RY := hide (RY.out.below b)
  replace RM := hide (RM.out.below b)
  replace B := hide (B.out.trans (b.mono B.out.size))
  clear b
  cases cok with
  | false =>
    clear CK
    go_wp2_with fail
    refine (drawSolveBy_calls _ _ M.out).mono ?_
    rintro e wn ⟨av, vv, am, vs, rfl, hb, hk, _, b⟩
    replace T := hide (T.out.below b)
    replace M := hide (M.out.below b)
    replace RX := hide (RX.out.below b)
    replace RY := hide (RY.out.below b)
    replace RM := hide (RM.out.below b)
    replace B := hide (B.out.trans (b.mono B.out.size))
    clear b
    have RA := hide hb
    have RV := hide hk
    clear hb hk
    obtain ⟨aa, ac, rfl, _⟩ := RA.out
    obtain ⟨va, vc, rfl, _⟩ := RV.out
    have SF := hide (@slv_facts am vs)
    have SI := hide (fun w2 ht h1 h2 => solveBy_calls (.slice aa am.length ac) (.slice va vs.length vc) am vs w2 ht h1 h2)
    have SS := hide (fun w2 h1 h2 => sSolveBy_calls (.slice aa am.length ac) (.slice va vs.length vc) am vs w2 h1 h2)
    obtain ⟨sr, hsr⟩ : ∃ sr, sr = slvR am vs := ⟨_, rfl⟩
    rw [← hsr] at SF SI SS
    clear hsr
    obtain ⟨so, sok⟩ := sr
    go_wp2_with fail
    refine (SI.out _ T.out RA.out RV.out).mono ?_
    rintro e wn ⟨v1, rfl, om, b⟩
    replace T := hide (T.out.below b)
    replace M := hide (M.out.below b)
    replace RX := hide (RX.out.below b)
    replace RY := hide (RY.out.below b)
    replace RM := hide (RM.out.below b)
    replace RA := hide (RA.out.below b)
    replace RV := hide (RV.out.below b)
    replace B := hide (B.out.trans (b.mono B.out.size))
    clear b
    have RS := hide om.rd
    clear om
    obtain ⟨soa, soc, rfl, _⟩ := RS.out
    go_wp2_with fail
    refine (SS.out _ RA.out RV.out).mono ?_
    rintro e wn ⟨v2, rfl, om, b⟩
    replace T := hide (T.out.below b)
    replace M := hide (M.out.below b)
    replace RX := hide (RX.out.below b)
    replace RY := hide (RY.out.below b)
    replace RM := hide (RM.out.below b)
    replace RA := hide (RA.out.below b)
    replace RV := hide (RV.out.below b)
    replace RS := hide (RS.out.below b)
    replace B := hide (B.out.trans (b.mono B.out.size))
    clear b
    have R2 := hide om.rd
    clear om SI SS
    go_wp2_with fail
    refine (sameInts_same _ _ so _ RS.out R2.out).mono ?_
    rintro e wn ⟨rfl, b⟩
    clear R2
    replace T := hide (T.out.below b)
    replace M := hide (M.out.below b)
    replace RX := hide (RX.out.below b)
    replace RY := hide (RY.out.below b)
    replace RM := hide (RM.out.below b)
    replace RA := hide (RA.out.below b)
    replace RV := hide (RV.out.below b)
    replace RS := hide (RS.out.below b)
    replace B := hide (B.out.trans (b.mono B.out.size))
    clear b
    cases sok with
    | false =>
      clear SF
      go_wp2_with fail
      refine (drawRowsOf_calls _ _ M.out).mono ?_
      rintro e wn ⟨bv, kv, bm, ks, rfl, hb, hk, _, b⟩
      replace M := hide (M.out.below b)
      replace B := hide (B.out.trans (b.mono B.out.size))
      clear b
      have RB := hide hb
      have RK := hide hk
      clear hb hk
      obtain ⟨rr, hrr⟩ : ∃ rr, rr = rowsR bm ks := ⟨_, rfl⟩
      have RI := hide (fun w2 h1 h2 => rowsOf_calls bv kv bm ks w2 h1 h2)
      have RSp := hide (fun w2 h1 h2 => sRowsOf_calls bv kv bm ks w2 h1 h2)
      rw [← hrr] at RI RSp
      clear hrr
      obtain ⟨rm, rok⟩ := rr
      go_wp2_with fail
      refine (RI.out _ RB.out RK.out).mono ?_
      rintro e wn ⟨v1, rfl, om, b⟩
      replace M := hide (M.out.below b)
      replace RB := hide (RB.out.below b)
      replace RK := hide (RK.out.below b)
      replace B := hide (B.out.trans (b.mono B.out.size))
      clear b
      have R1 := hide om.rd
      clear om
      obtain ⟨r1a, r1c, rfl, _⟩ := R1.out
      go_wp2_with fail
      refine (RSp.out _ RB.out RK.out).mono ?_
      rintro e wn ⟨v2, rfl, om, b⟩
      replace M := hide (M.out.below b)
      replace RB := hide (RB.out.below b)
      replace RK := hide (RK.out.below b)
      replace R1 := hide (R1.out.below b)
      replace B := hide (B.out.trans (b.mono B.out.size))
      clear b
      have R2 := hide om.rd
      clear om RI RSp
      go_wp2_with fail
      refine (sameLists_same _ _ rm _ R1.out R2.out).mono ?_
      rintro e wn ⟨rfl, b⟩
      replace B := hide (B.out.trans (b.mono B.out.size))
      clear b
      go_wp2
      go_ret
      exact ⟨rfl, B.out⟩
    | true =>
      obtain ⟨S, hS, hSl, hvl, hm8, hSlt, hve, hrow, hdot⟩ := SF.out rfl
      have HS := hide hS
      have SL := hide hSl
      have VL := hide hvl
      have ST := hide hSlt
      have VE := hide hve
      have RO := hide hrow
      have DO := hide hdot
      clear hS hSl hvl hSlt hve hrow hdot SF
      obtain ⟨WS, hWS⟩ : ∃ W, W = wn := ⟨_, rfl⟩
      subst hWS
      go_wp2
      go_loopw [186] (fun vi wr => ∃ k : Nat, k ≤ am.length ∧ vi = .int .i64 k ∧ Below WS.heap.size WS wr) (fun vi _ => am.length - (intOf vi).toNat)
      case atStart => exact ⟨0, Nat.zero_le _, rfl, Below.refl _ _⟩
      case round =>
        obtain ⟨k, hk, rfl, hb⟩ := hrel
        have HB := hide hb
        clear hb
        obtain ⟨W1, rfl⟩ : ∃ W1, W1 = wr := ⟨_, rfl⟩
        by_cases hlt : k < am.length
        · obtain ⟨b, off, u, rfl, hc1, hu⟩ := (RA.out.below HB.out).row k hlt
          obtain ⟨row, hrow⟩ : ∃ row, row = am.getD k [] := ⟨_, rfl⟩
          rw [← hrow] at hu
          have hro := RO.out k hlt
          have hdo := DO.out k hlt
          rw [← hrow] at hro hdo
          obtain ⟨ua, uc, rfl, _, _, hub⟩ := hu
          have UB := hide hub
          have RL := hide hro.1
          have RE := hide hro.2
          have hbl := cell_lt hc1
          obtain ⟨va', vc', hvv, _, _, hvb⟩ := RV.out.below HB.out
          cases hvv
          rcases hvb with h | ⟨bv, ov, rfl, hbv, hcv⟩
          · have := VL.out
            rw [h] at this
            simp at this
            omega
          have ev := hcv k (by rw [VL.out]; exact hlt)
          obtain ⟨z, hz⟩ : ∃ z : Nat, vs.getD k 0 = (z : Int) := ⟨(vs.getD k 0).toNat, by have := el_at VE.out k; omega⟩
          rw [hz] at ev hdo
          have DZ := hide hdo
          have vk : (k : Int) < (vs.length : Int) := by have := VL.out; omega
          have hlt' : (k : Int) < (am.length : Int) := by omega
          have TW := hide (T.out.below HB.out)
          have r8 : row.length ≤ 8 := by rw [RL.out]; exact hm8
          clear hub hro hdo hcv hz hrow
          go_wp2
          go_loopw [28, 194] (fun vsum vj wq => ∃ j d : Nat, j ≤ row.length ∧ vj = .int .i64 j ∧ vsum = .int .i64 (d : Int) ∧ d = Gf.dotTo (Gf.nat row) S j ∧ Below W1.heap.size W1 wq) (fun _ vj _ => row.length - (intOf vj).toNat)
          case atStart => exact ⟨0, 0, Nat.zero_le _, rfl, rfl, rfl, Below.refl _ _⟩
          case round =>
            obtain ⟨j, d, hj, rfl, rfl, hd, hbq⟩ := hrel
            have HQ := hide hbq
            have HD := hide hd
            have d256 : d < 256 := by rw [hd]; exact Gf.dotTo_lt (nat_lt RE.out) _
            clear hbq hd
            obtain ⟨W2, rfl⟩ : ∃ W2, W2 = wr := ⟨_, rfl⟩
            by_cases hltj : j < row.length
            · have hltj' : (j : Int) < (row.length : Int) := by omega
              have js : (j : Int) < (so.length : Int) := by
                have h1 := RL.out
                have h2 := SL.out
                have h3 : so.length = S.length := by rw [HS.out, Gf.ci_length]
                omega
              rcases UB.out with h3 | ⟨bu, ou, rfl, hbu, hcu⟩
              · subst h3; simp at hltj
              have hcj := (HQ.out.cell (p := ⟨bu, ou + j, none⟩) (by exact hbu)).trans (hcu j hltj)
              have hck := (HQ.out.cell (p := ⟨b, off + k, none⟩) (by exact hbl)).trans hc1
              obtain ⟨sa', sc', hsv, _, _, hsb⟩ := RS.out.below (HB.out.trans (HQ.out.mono HB.out.size))
              cases hsv
              rcases hsb with h | ⟨bs, os, rfl, hbs, hcs⟩
              · rw [h] at js
                simp at js
                omega
              have hcs1 := hcs j (by omega)
              obtain ⟨x, hx, x256⟩ : ∃ x : Nat, row.getD j 0 = (x : Int) ∧ x < 256 := ⟨(row.getD j 0).toNat, by have := el_at RE.out j; omega, by have := el_at RE.out j; omega⟩
              obtain ⟨y, hy⟩ : ∃ y : Nat, y = S.getD j 0 := ⟨_, rfl⟩
              have y256 : y < 256 := by rw [hy]; exact ST.out j
              have hsy : so.getD j 0 = (y : Int) := by rw [HS.out, Gf.ci_getD, hy]
              rw [hx] at hcj
              rw [hsy] at hcs1
              obtain ⟨p, hp⟩ : ∃ p, p = Gf.mul x y := ⟨_, rfl⟩
              have p256 : p < 256 := by rw [hp]; exact Gf.mul_lt x256
              have MG : Hid (∀ n, Calls Tryd.prog 25 #[.int .i64 (x : Int), .int .i64 (y : Int)] (W2.drewN n) fun e w' => e = .returned (.tuple #[.int .i64 (p : Int), .bool true]) ∧ W2.drewN n = w') := fun n => by
                have := Gf.mulGf_good (x : Int) (y : Int) (W2.drewN n) ((TW.out.below HQ.out).drewN n) (by omega) (by omega) (by omega) (by omega)
                simp only [Int.toNat_natCast] at this
                rw [← hp] at this
                exact this
              have xr := Gf.xor_o d256 p256
              have HP : Hid (d ^^^ p = Gf.dotTo (Gf.nat row) S (j + 1)) := by
                show _ = _
                rw [Gf.dotTo, ← HD.out, hp, ← hy, nat_at hltj hx]
              clear hcs hcu hsy hx hy hp
              go_wp2
              go_quiet ((go_at_call 25; exact Gf.quiet_same (MG.out _)))
              go_wp2
              go_roundw
              case rel => exact ⟨j + 1, d ^^^ p, by omega, by go_num, rfl, HP.out, below_drewN HQ.out _⟩
              case measure => simp [intOf]; omega
            · obtain rfl : j = row.length := by omega
              have dz : d = z := by rw [HD.out, RL.out]; exact DZ.out
              subst dz
              have evq := (HQ.out.cell (p := ⟨bv, ov + k, none⟩) (by exact hbv)).trans ev
              go_wp2
              go_roundw
              case rel => exact ⟨k + 1, by omega, by go_num, HB.out.trans (HQ.out.mono HB.out.size)⟩
              case measure => simp [intOf]; omega
        · obtain rfl : k = am.length := by omega
          have b := HB.out
          replace M := hide (M.out.below b)
          replace B := hide (B.out.trans (b.mono B.out.size))
          clear b T RA RV RS RX RY RM HS SL VL ST VE RO DO
          go_wp2_with fail
          refine (drawRowsOf_calls _ _ M.out).mono ?_
          rintro e wn ⟨bv, kv, bm, ks, rfl, hb, hk, _, b⟩
          replace M := hide (M.out.below b)
          replace B := hide (B.out.trans (b.mono B.out.size))
          clear b
          have RB := hide hb
          have RK := hide hk
          clear hb hk
          obtain ⟨rr, hrr⟩ : ∃ rr, rr = rowsR bm ks := ⟨_, rfl⟩
          have RI := hide (fun w2 h1 h2 => rowsOf_calls bv kv bm ks w2 h1 h2)
          have RSp := hide (fun w2 h1 h2 => sRowsOf_calls bv kv bm ks w2 h1 h2)
          rw [← hrr] at RI RSp
          clear hrr
          obtain ⟨rm, rok⟩ := rr
          go_wp2_with fail
          refine (RI.out _ RB.out RK.out).mono ?_
          rintro e wn ⟨v1, rfl, om, b⟩
          replace M := hide (M.out.below b)
          replace RB := hide (RB.out.below b)
          replace RK := hide (RK.out.below b)
          replace B := hide (B.out.trans (b.mono B.out.size))
          clear b
          have R1 := hide om.rd
          clear om
          obtain ⟨r1a, r1c, rfl, _⟩ := R1.out
          go_wp2_with fail
          refine (RSp.out _ RB.out RK.out).mono ?_
          rintro e wn ⟨v2, rfl, om, b⟩
          replace M := hide (M.out.below b)
          replace RB := hide (RB.out.below b)
          replace RK := hide (RK.out.below b)
          replace R1 := hide (R1.out.below b)
          replace B := hide (B.out.trans (b.mono B.out.size))
          clear b
          have R2 := hide om.rd
          clear om RI RSp
          go_wp2_with fail
          refine (sameLists_same _ _ rm _ R1.out R2.out).mono ?_
          rintro e wn ⟨rfl, b⟩
          replace B := hide (B.out.trans (b.mono B.out.size))
          clear b
          go_wp2
          go_ret
          exact ⟨rfl, B.out⟩
  | true =>
    obtain ⟨hok, hcm⟩ := CK.out rfl
    obtain ⟨⟨hx1, _⟩, ⟨hy1, _⟩, _⟩ := cauOk_facts hok
    have OK := hide hok
    have CM := hide hcm
    clear hok hcm CK
    go_wp2_with fail
    refine (numberOf_calls _ _ M.out).mono ?_
    rintro e wn ⟨N, hN, rfl, rfl⟩
    have y0 : ¬ (ys.length : Int) = 0 := by omega
    obtain ⟨q, hq, hqy⟩ : ∃ q : Nat, (N : Int) % (ys.length : Int) = (q : Int) ∧ q < ys.length := ⟨N % ys.length, by simp, Nat.mod_lt _ (by omega)⟩
    by_cases hn : 1 + q ≤ xs.length
    · have t1 : (1 : Int) + (q : Int) ≤ (xs.length : Int) := by omega
      go_wp2_with fail
      refine (numberOf_calls _ _ M.out).mono ?_
      rintro e wn ⟨N2, hN2, rfl, rfl⟩
      obtain ⟨n, en, n1⟩ : ∃ n : Nat, (1 : Int) + (q : Int) = (n : Int) ∧ 1 ≤ n := ⟨1 + q, by omega, by omega⟩
      rw [en]
      obtain ⟨p, hp, hpx⟩ : ∃ p : Nat, (N2 : Int) % ((xs.length : Int) - (n : Int) + 1) = (p : Int) ∧ p + n ≤ xs.length := by
        have h0 : (0 : Int) < (xs.length : Int) - (n : Int) + 1 := by omega
        have h1 := Int.emod_nonneg (N2 : Int) (Int.ne_of_gt h0)
        have h2 := Int.emod_lt_of_pos (N2 : Int) h0
        exact ⟨((N2 : Int) % ((xs.length : Int) - (n : Int) + 1)).toNat, by omega, by omega⟩
      have ny : n ≤ ys.length := by omega
      clear en hq
      have x0 : ¬ ((xs.length : Int) - (n : Int) + 1) = 0 := by omega
      obtain ⟨E, hE⟩ : ∃ E : Nat, (p : Int) + (n : Int) = (E : Int) := ⟨p + n, by omega⟩
      have f1 : (p : Int) ≤ (E : Int) := by omega
      have f2 : (E : Int) ≤ (xc : Int) := by omega
      have E8 : E ≤ xs.length := by omega
      have En : E = p + n := by omega
      have hw : IntKind.i64.wrap ((p : Int) + (n : Int)) = (E : Int) := (i64_small (by omega) (by omega)).trans hE
      obtain ⟨L, hL⟩ : ∃ L : Nat, (ys.length : Int) - (n : Int) = (L : Int) := ⟨ys.length - n, by omega⟩
      have L1 : L < ys.length := by omega
      have g2 : (L : Int) ≤ (ys.length : Int) := by omega
      have Ln : L = ys.length - n := by omega
      have hw2 : IntKind.i64.wrap ((ys.length : Int) - (n : Int)) = (L : Int) := (i64_small (by omega) (by omega)).trans hL
      have EN := hide En
      have LN := hide Ln
      clear hE hL En Ln
      rcases (show ∃ bx ox, xa = some ⟨bx, ox, none⟩ from by
        obtain ⟨a', c', hv, _, _, h3⟩ := RX.out
        cases hv
        rcases h3 with h3 | ⟨b, off, rfl, _⟩
        · subst h3; simp at hx1
        · exact ⟨b, off, rfl⟩) with ⟨bx, ox, rfl⟩
      rcases (show ∃ bx ox, ya = some ⟨bx, ox, none⟩ from by
        obtain ⟨a', c', hv, _, _, h3⟩ := RY.out
        cases hv
        rcases h3 with h3 | ⟨b, off, rfl, _⟩
        · subst h3; simp at hy1
        · exact ⟨b, off, rfl⟩) with ⟨bb, ob, rfl⟩
      have nx : ¬ xc = p := by omega
      have ny2 : ¬ yc = L := by omega
      have PO : Hid (cauOk ((xs.drop p).take (E - p)) (ys.drop L) = true ∧ (invR (cauM ((xs.drop p).take (E - p)) (ys.drop L))).2 = true) := by
        show _ ∧ _
        have e1 : E - p = n := by have := EN.out; omega
        rw [e1, LN.out]
        exact cau_part OK.out n1 ny hpx
      obtain ⟨PM, hPM⟩ : ∃ P, P = cauM ((xs.drop p).take (E - p)) (ys.drop L) := ⟨_, rfl⟩
      have PC : Hid (∀ w2, Gf.Tab w2 → Below wn.heap.size wn w2 → Calls Tryd.prog 32 #[.slice (some ⟨bx, ox + p, none⟩) (E - p) (xc - p), .slice (some ⟨bb, ob + L, none⟩) (ys.length - L) (yc - L)] w2 fun e w' => ∃ v', e = .returned (.tuple #[v', .bool true]) ∧ Mat w' w2.heap.size w'.heap.size v' PM ∧ Below w2.heap.size w2 w') := fun w2 ht hb => by
        have := cauchy_calls _ _ _ _ w2 ht (rd_take (rd_drop (RX.out.below hb) p (by omega)) (E - p) (by simp; omega)) (rd_drop (RY.out.below hb) L L1)
        rw [show cauR ((xs.drop p).take (E - p)) (ys.drop L) = (cauM ((xs.drop p).take (E - p)) (ys.drop L), true) from by unfold cauR; rw [if_pos PO.out.1], ← hPM] at this
        exact this
      have PI : Hid ((invR PM).2 = true) := by show _ = _; rw [hPM]; exact PO.out.2
      clear hPM PO
      go_wp2_with fail
      rw [hp]
      go_region_with (go_at_call 32; refine (PC.out _ (Gf.Tab.below T.out (below_drew' (Below.refl _ _))) (below_drew' (Below.refl _ _))).mono ?_; rintro e w3 ⟨v3, rfl, om, b3⟩)
      all_goals
        have b := Below.trans (below_drew' (Below.refl wn.heap.size wn)) b3
        clear b3 nx ny2 PC hp
        replace T := hide (T.out.below b)
        replace M := hide (M.out.below b)
        replace RX := hide (RX.out.below b)
        replace RY := hide (RY.out.below b)
        replace RM := hide (RM.out.below b)
        replace B := hide (B.out.trans (b.mono B.out.size))
        clear b
        have RP := hide om.rd
        clear om
        obtain ⟨pa, pc, rfl, _⟩ := RP.out
        go_wp2_with fail
        refine (invert_calls _ PM _ T.out RP.out).mono ?_
        rw [PI.out]
        rintro e wn ⟨v4, rfl, _, b⟩
        clear RP
        replace T := hide (T.out.below b)
        replace M := hide (M.out.below b)
        replace RX := hide (RX.out.below b)
        replace RY := hide (RY.out.below b)
        replace RM := hide (RM.out.below b)
        replace B := hide (B.out.trans (b.mono B.out.size))
        clear b
        have cl : cm.length = xs.length := by have h : cm = cauM xs ys := CM.out; rw [h, cauM_length]
        have CL := hide cl
        have c8 : cm.length ≤ 8 := by omega
        clear cl
        obtain ⟨WL, hWL⟩ : ∃ W, W = wn := ⟨_, rfl⟩
        subst hWL
        go_wp2
        go_loopw [118] (fun vi wr => ∃ k : Nat, k ≤ cm.length ∧ vi = .int .i64 k ∧ Below WL.heap.size WL wr) (fun vi _ => cm.length - (intOf vi).toNat)
        case atStart => exact ⟨0, Nat.zero_le _, rfl, Below.refl _ _⟩
        case round =>
          obtain ⟨k, hk, rfl, hb⟩ := hrel
          have HB := hide hb
          clear hb
          obtain ⟨W1, rfl⟩ : ∃ W1, W1 = wr := ⟨_, rfl⟩
          by_cases hlt : k < cm.length
          · have hlx : k < xs.length := by have := CL.out; omega
            obtain ⟨b, off, u, rfl, hc1, hu⟩ := (RM.out.below HB.out).row k hlt
            obtain ⟨row, hrow⟩ : ∃ row, row = cm.getD k [] := ⟨_, rfl⟩
            rw [← hrow] at hu
            have hro : row = cauRow (xs.getD k 0) ys := by
              have h : cm = cauM xs ys := CM.out
              rw [hrow, h, cauM_get _ _ _ hlx]
            obtain ⟨ua, uc, rfl, _, _, hub⟩ := hu
            have UB := hide hub
            have rl : row.length = ys.length := by rw [hro, cauRow_length]
            have r8 : row.length ≤ 8 := by omega
            have RL := hide rl
            have RW : Hid (row = (cauM xs ys).getD k []) := by show _ = _; rw [hro, cauM_get _ _ _ hlx]
            have hbl := cell_lt hc1
            have hlt' : (k : Int) < (cm.length : Int) := by omega
            have hlx' : (k : Int) < (xs.length : Int) := by omega
            have TW := hide (T.out.below HB.out)
            have XW := hide (RX.out.below HB.out)
            have YW := hide (RY.out.below HB.out)
            clear hub hro hrow rl
            go_wp2
            go_loopw [126] (fun vj wq => ∃ j : Nat, j ≤ row.length ∧ vj = .int .i64 j ∧ Below W1.heap.size W1 wq) (fun vj _ => row.length - (intOf vj).toNat)
            case atStart => exact ⟨0, Nat.zero_le _, rfl, Below.refl _ _⟩
            case round =>
              obtain ⟨j, hj, rfl, hbq⟩ := hrel
              have HQ := hide hbq
              clear hbq
              obtain ⟨W2, rfl⟩ : ∃ W2, W2 = wr := ⟨_, rfl⟩
              by_cases hltj : j < row.length
              · have hltj' : (j : Int) < (row.length : Int) := by omega
                have hly : j < ys.length := by have := RL.out; omega
                have hly' : (j : Int) < (ys.length : Int) := by omega
                rcases UB.out with h3 | ⟨bu, ou, rfl, hbu, hcu⟩
                · subst h3; simp at hltj
                have hcj := (HQ.out.cell (p := ⟨bu, ou + j, none⟩) (by exact hbu)).trans (hcu j hltj)
                have hck := (HQ.out.cell (p := ⟨b, off + k, none⟩) (by exact hbl)).trans hc1
                obtain ⟨sa', sc', hsv, _, _, hsb⟩ := XW.out.below HQ.out
                cases hsv
                rcases hsb with h | ⟨bs, os, hxe, hbs, hcs⟩
                · rw [h] at hlx
                  simp at hlx
                obtain ⟨za', zc', hzv, _, _, hzb⟩ := YW.out.below HQ.out
                cases hzv
                rcases hzb with h | ⟨bz, oz, hye, hbz, hcz⟩
                · rw [h] at hly
                  simp at hly
                cases hxe
                cases hye
                have hcs1 := hcs k hlx
                have hcz1 := hcz j hly
                obtain ⟨a, x, y, a256, x256, y256, ha, hx, hy, hxor, hxl, hmul⟩ := cau_one OK.out hlx hly
                rw [← RW.out] at ha
                rw [ha] at hcj
                rw [hx] at hcs1
                rw [hy] at hcz1
                obtain ⟨xy, hxy⟩ : ∃ n, n = x ^^^ y := ⟨_, rfl⟩
                rw [← hxy] at hxor hxl hmul
                have MG : Hid (∀ n, Calls Tryd.prog 25 #[.int .i64 (a : Int), .int .i64 (xy : Int)] (W2.drewN n) fun e w' => e = .returned (.tuple #[.int .i64 1, .bool true]) ∧ W2.drewN n = w') := fun n => by
                  have := Gf.mulGf_good (a : Int) (xy : Int) (W2.drewN n) ((TW.out.below HQ.out).drewN n) (by omega) (by omega) (by omega) (by omega)
                  simp only [Int.toNat_natCast] at this
                  rw [hmul] at this
                  exact this
                clear hcs hcz hcu ha hx hy hmul hxy
                go_wp2
                go_quiet ((go_at_call 25; exact Gf.quiet_same (MG.out _)))
                go_wp2
                go_roundw
                case rel => exact ⟨j + 1, by omega, by go_num, below_drewN HQ.out _⟩
                case measure => simp [intOf]; omega
              · obtain rfl : j = row.length := by omega
                go_wp2
                go_roundw
                case rel => exact ⟨k + 1, by omega, by go_num, HB.out.trans (HQ.out.mono HB.out.size)⟩
                case measure => simp [intOf]; omega
          · obtain rfl : k = cm.length := by omega
            have b := HB.out
            replace T := hide (T.out.below b)
            replace M := hide (M.out.below b)
            replace RX := hide (RX.out.below b)
            replace RY := hide (RY.out.below b)
            replace RM := hide (RM.out.below b)
            replace B := hide (B.out.trans (b.mono B.out.size))
            clear b
            clear CM OK CL
            go_wp2_with fail
            refine (drawSolveBy_calls _ _ M.out).mono ?_
            rintro e wn ⟨av, vv, am, vs, rfl, hb, hk, _, b⟩
            replace T := hide (T.out.below b)
            replace M := hide (M.out.below b)
            replace RX := hide (RX.out.below b)
            replace RY := hide (RY.out.below b)
            replace RM := hide (RM.out.below b)
            replace B := hide (B.out.trans (b.mono B.out.size))
            clear b
            have RA := hide hb
            have RV := hide hk
            clear hb hk
            obtain ⟨aa, ac, rfl, _⟩ := RA.out
            obtain ⟨va, vc, rfl, _⟩ := RV.out
            have SF := hide (@slv_facts am vs)
            have SI := hide (fun w2 ht h1 h2 => solveBy_calls (.slice aa am.length ac) (.slice va vs.length vc) am vs w2 ht h1 h2)
            have SS := hide (fun w2 h1 h2 => sSolveBy_calls (.slice aa am.length ac) (.slice va vs.length vc) am vs w2 h1 h2)
            obtain ⟨sr, hsr⟩ : ∃ sr, sr = slvR am vs := ⟨_, rfl⟩
            rw [← hsr] at SF SI SS
            clear hsr
            obtain ⟨so, sok⟩ := sr
            go_wp2_with fail
            refine (SI.out _ T.out RA.out RV.out).mono ?_
            rintro e wn ⟨v1, rfl, om, b⟩
            replace T := hide (T.out.below b)
            replace M := hide (M.out.below b)
            replace RX := hide (RX.out.below b)
            replace RY := hide (RY.out.below b)
            replace RM := hide (RM.out.below b)
            replace RA := hide (RA.out.below b)
            replace RV := hide (RV.out.below b)
            replace B := hide (B.out.trans (b.mono B.out.size))
            clear b
            have RS := hide om.rd
            clear om
            obtain ⟨soa, soc, rfl, _⟩ := RS.out
            go_wp2_with fail
            refine (SS.out _ RA.out RV.out).mono ?_
            rintro e wn ⟨v2, rfl, om, b⟩
            replace T := hide (T.out.below b)
            replace M := hide (M.out.below b)
            replace RX := hide (RX.out.below b)
            replace RY := hide (RY.out.below b)
            replace RM := hide (RM.out.below b)
            replace RA := hide (RA.out.below b)
            replace RV := hide (RV.out.below b)
            replace RS := hide (RS.out.below b)
            replace B := hide (B.out.trans (b.mono B.out.size))
            clear b
            have R2 := hide om.rd
            clear om SI SS
            go_wp2_with fail
            refine (sameInts_same _ _ so _ RS.out R2.out).mono ?_
            rintro e wn ⟨rfl, b⟩
            clear R2
            replace T := hide (T.out.below b)
            replace M := hide (M.out.below b)
            replace RX := hide (RX.out.below b)
            replace RY := hide (RY.out.below b)
            replace RM := hide (RM.out.below b)
            replace RA := hide (RA.out.below b)
            replace RV := hide (RV.out.below b)
            replace RS := hide (RS.out.below b)
            replace B := hide (B.out.trans (b.mono B.out.size))
            clear b
            cases sok with
            | false =>
              clear SF
              go_wp2_with fail
              refine (drawRowsOf_calls _ _ M.out).mono ?_
              rintro e wn ⟨bv, kv, bm, ks, rfl, hb, hk, _, b⟩
              replace M := hide (M.out.below b)
              replace B := hide (B.out.trans (b.mono B.out.size))
              clear b
              have RB := hide hb
              have RK := hide hk
              clear hb hk
              obtain ⟨rr, hrr⟩ : ∃ rr, rr = rowsR bm ks := ⟨_, rfl⟩
              have RI := hide (fun w2 h1 h2 => rowsOf_calls bv kv bm ks w2 h1 h2)
              have RSp := hide (fun w2 h1 h2 => sRowsOf_calls bv kv bm ks w2 h1 h2)
              rw [← hrr] at RI RSp
              clear hrr
              obtain ⟨rm, rok⟩ := rr
              go_wp2_with fail
              refine (RI.out _ RB.out RK.out).mono ?_
              rintro e wn ⟨v1, rfl, om, b⟩
              replace M := hide (M.out.below b)
              replace RB := hide (RB.out.below b)
              replace RK := hide (RK.out.below b)
              replace B := hide (B.out.trans (b.mono B.out.size))
              clear b
              have R1 := hide om.rd
              clear om
              obtain ⟨r1a, r1c, rfl, _⟩ := R1.out
              go_wp2_with fail
              refine (RSp.out _ RB.out RK.out).mono ?_
              rintro e wn ⟨v2, rfl, om, b⟩
              replace M := hide (M.out.below b)
              replace RB := hide (RB.out.below b)
              replace RK := hide (RK.out.below b)
              replace R1 := hide (R1.out.below b)
              replace B := hide (B.out.trans (b.mono B.out.size))
              clear b
              have R2 := hide om.rd
              clear om RI RSp
              go_wp2_with fail
              refine (sameLists_same _ _ rm _ R1.out R2.out).mono ?_
              rintro e wn ⟨rfl, b⟩
              replace B := hide (B.out.trans (b.mono B.out.size))
              clear b
              go_wp2
              go_ret
              exact ⟨rfl, B.out⟩
            | true =>
              obtain ⟨S, hS, hSl, hvl, hm8, hSlt, hve, hrow, hdot⟩ := SF.out rfl
              have HS := hide hS
              have SL := hide hSl
              have VL := hide hvl
              have ST := hide hSlt
              have VE := hide hve
              have RO := hide hrow
              have DO := hide hdot
              clear hS hSl hvl hSlt hve hrow hdot SF
              obtain ⟨WS, hWS⟩ : ∃ W, W = wn := ⟨_, rfl⟩
              subst hWS
              go_wp2
              go_loopw [186] (fun vi wr => ∃ k : Nat, k ≤ am.length ∧ vi = .int .i64 k ∧ Below WS.heap.size WS wr) (fun vi _ => am.length - (intOf vi).toNat)
              case atStart => exact ⟨0, Nat.zero_le _, rfl, Below.refl _ _⟩
              case round =>
                obtain ⟨k, hk, rfl, hb⟩ := hrel
                have HB := hide hb
                clear hb
                obtain ⟨W1, rfl⟩ : ∃ W1, W1 = wr := ⟨_, rfl⟩
                by_cases hlt : k < am.length
                · obtain ⟨b, off, u, rfl, hc1, hu⟩ := (RA.out.below HB.out).row k hlt
                  obtain ⟨row, hrow⟩ : ∃ row, row = am.getD k [] := ⟨_, rfl⟩
                  rw [← hrow] at hu
                  have hro := RO.out k hlt
                  have hdo := DO.out k hlt
                  rw [← hrow] at hro hdo
                  obtain ⟨ua, uc, rfl, _, _, hub⟩ := hu
                  have UB := hide hub
                  have RL := hide hro.1
                  have RE := hide hro.2
                  have hbl := cell_lt hc1
                  obtain ⟨va', vc', hvv, _, _, hvb⟩ := RV.out.below HB.out
                  cases hvv
                  rcases hvb with h | ⟨bv, ov, rfl, hbv, hcv⟩
                  · have := VL.out
                    rw [h] at this
                    simp at this
                    omega
                  have ev := hcv k (by rw [VL.out]; exact hlt)
                  obtain ⟨z, hz⟩ : ∃ z : Nat, vs.getD k 0 = (z : Int) := ⟨(vs.getD k 0).toNat, by have := el_at VE.out k; omega⟩
                  rw [hz] at ev hdo
                  have DZ := hide hdo
                  have vk : (k : Int) < (vs.length : Int) := by have := VL.out; omega
                  have hlt' : (k : Int) < (am.length : Int) := by omega
                  have TW := hide (T.out.below HB.out)
                  have r8 : row.length ≤ 8 := by rw [RL.out]; exact hm8
                  clear hub hro hdo hcv hz hrow
                  go_wp2
                  go_loopw [28, 194] (fun vsum vj wq => ∃ j d : Nat, j ≤ row.length ∧ vj = .int .i64 j ∧ vsum = .int .i64 (d : Int) ∧ d = Gf.dotTo (Gf.nat row) S j ∧ Below W1.heap.size W1 wq) (fun _ vj _ => row.length - (intOf vj).toNat)
                  case atStart => exact ⟨0, 0, Nat.zero_le _, rfl, rfl, rfl, Below.refl _ _⟩
                  case round =>
                    obtain ⟨j, d, hj, rfl, rfl, hd, hbq⟩ := hrel
                    have HQ := hide hbq
                    have HD := hide hd
                    have d256 : d < 256 := by rw [hd]; exact Gf.dotTo_lt (nat_lt RE.out) _
                    clear hbq hd
                    obtain ⟨W2, rfl⟩ : ∃ W2, W2 = wr := ⟨_, rfl⟩
                    by_cases hltj : j < row.length
                    · have hltj' : (j : Int) < (row.length : Int) := by omega
                      have js : (j : Int) < (so.length : Int) := by
                        have h1 := RL.out
                        have h2 := SL.out
                        have h3 : so.length = S.length := by rw [HS.out, Gf.ci_length]
                        omega
                      rcases UB.out with h3 | ⟨bu, ou, rfl, hbu, hcu⟩
                      · subst h3; simp at hltj
                      have hcj := (HQ.out.cell (p := ⟨bu, ou + j, none⟩) (by exact hbu)).trans (hcu j hltj)
                      have hck := (HQ.out.cell (p := ⟨b, off + k, none⟩) (by exact hbl)).trans hc1
                      obtain ⟨sa', sc', hsv, _, _, hsb⟩ := RS.out.below (HB.out.trans (HQ.out.mono HB.out.size))
                      cases hsv
                      rcases hsb with h | ⟨bs, os, rfl, hbs, hcs⟩
                      · rw [h] at js
                        simp at js
                        omega
                      have hcs1 := hcs j (by omega)
                      obtain ⟨x, hx, x256⟩ : ∃ x : Nat, row.getD j 0 = (x : Int) ∧ x < 256 := ⟨(row.getD j 0).toNat, by have := el_at RE.out j; omega, by have := el_at RE.out j; omega⟩
                      obtain ⟨y, hy⟩ : ∃ y : Nat, y = S.getD j 0 := ⟨_, rfl⟩
                      have y256 : y < 256 := by rw [hy]; exact ST.out j
                      have hsy : so.getD j 0 = (y : Int) := by rw [HS.out, Gf.ci_getD, hy]
                      rw [hx] at hcj
                      rw [hsy] at hcs1
                      obtain ⟨p, hp⟩ : ∃ p, p = Gf.mul x y := ⟨_, rfl⟩
                      have p256 : p < 256 := by rw [hp]; exact Gf.mul_lt x256
                      have MG : Hid (∀ n, Calls Tryd.prog 25 #[.int .i64 (x : Int), .int .i64 (y : Int)] (W2.drewN n) fun e w' => e = .returned (.tuple #[.int .i64 (p : Int), .bool true]) ∧ W2.drewN n = w') := fun n => by
                        have := Gf.mulGf_good (x : Int) (y : Int) (W2.drewN n) ((TW.out.below HQ.out).drewN n) (by omega) (by omega) (by omega) (by omega)
                        simp only [Int.toNat_natCast] at this
                        rw [← hp] at this
                        exact this
                      have xr := Gf.xor_o d256 p256
                      have HP : Hid (d ^^^ p = Gf.dotTo (Gf.nat row) S (j + 1)) := by
                        show _ = _
                        rw [Gf.dotTo, ← HD.out, hp, ← hy, nat_at hltj hx]
                      clear hcs hcu hsy hx hy hp
                      go_wp2
                      go_quiet ((go_at_call 25; exact Gf.quiet_same (MG.out _)))
                      go_wp2
                      go_roundw
                      case rel => exact ⟨j + 1, d ^^^ p, by omega, by go_num, rfl, HP.out, below_drewN HQ.out _⟩
                      case measure => simp [intOf]; omega
                    · obtain rfl : j = row.length := by omega
                      have dz : d = z := by rw [HD.out, RL.out]; exact DZ.out
                      subst dz
                      have evq := (HQ.out.cell (p := ⟨bv, ov + k, none⟩) (by exact hbv)).trans ev
                      go_wp2
                      go_roundw
                      case rel => exact ⟨k + 1, by omega, by go_num, HB.out.trans (HQ.out.mono HB.out.size)⟩
                      case measure => simp [intOf]; omega
                · obtain rfl : k = am.length := by omega
                  have b := HB.out
                  replace M := hide (M.out.below b)
                  replace B := hide (B.out.trans (b.mono B.out.size))
                  clear b T RA RV RS RX RY RM HS SL VL ST VE RO DO
                  go_wp2_with fail
                  refine (drawRowsOf_calls _ _ M.out).mono ?_
                  rintro e wn ⟨bv, kv, bm, ks, rfl, hb, hk, _, b⟩
                  replace M := hide (M.out.below b)
                  replace B := hide (B.out.trans (b.mono B.out.size))
                  clear b
                  have RB := hide hb
                  have RK := hide hk
                  clear hb hk
                  obtain ⟨rr, hrr⟩ : ∃ rr, rr = rowsR bm ks := ⟨_, rfl⟩
                  have RI := hide (fun w2 h1 h2 => rowsOf_calls bv kv bm ks w2 h1 h2)
                  have RSp := hide (fun w2 h1 h2 => sRowsOf_calls bv kv bm ks w2 h1 h2)
                  rw [← hrr] at RI RSp
                  clear hrr
                  obtain ⟨rm, rok⟩ := rr
                  go_wp2_with fail
                  refine (RI.out _ RB.out RK.out).mono ?_
                  rintro e wn ⟨v1, rfl, om, b⟩
                  replace M := hide (M.out.below b)
                  replace RB := hide (RB.out.below b)
                  replace RK := hide (RK.out.below b)
                  replace B := hide (B.out.trans (b.mono B.out.size))
                  clear b
                  have R1 := hide om.rd
                  clear om
                  obtain ⟨r1a, r1c, rfl, _⟩ := R1.out
                  go_wp2_with fail
                  refine (RSp.out _ RB.out RK.out).mono ?_
                  rintro e wn ⟨v2, rfl, om, b⟩
                  replace M := hide (M.out.below b)
                  replace RB := hide (RB.out.below b)
                  replace RK := hide (RK.out.below b)
                  replace R1 := hide (R1.out.below b)
                  replace B := hide (B.out.trans (b.mono B.out.size))
                  clear b
                  have R2 := hide om.rd
                  clear om RI RSp
                  go_wp2_with fail
                  refine (sameLists_same _ _ rm _ R1.out R2.out).mono ?_
                  rintro e wn ⟨rfl, b⟩
                  replace B := hide (B.out.trans (b.mono B.out.size))
                  clear b
                  go_wp2
                  go_ret
                  exact ⟨rfl, B.out⟩
    · have t1 : ¬ (1 : Int) + (q : Int) ≤ (xs.length : Int) := by omega
      have cl : cm.length = xs.length := by have h : cm = cauM xs ys := CM.out; rw [h, cauM_length]
      have CL := hide cl
      have c8 : cm.length ≤ 8 := by omega
      clear cl
      obtain ⟨WL, hWL⟩ : ∃ W, W = wn := ⟨_, rfl⟩
      subst hWL
      go_wp2
      go_loopw [118] (fun vi wr => ∃ k : Nat, k ≤ cm.length ∧ vi = .int .i64 k ∧ Below WL.heap.size WL wr) (fun vi _ => cm.length - (intOf vi).toNat)
      case atStart => exact ⟨0, Nat.zero_le _, rfl, Below.refl _ _⟩
      case round =>
        obtain ⟨k, hk, rfl, hb⟩ := hrel
        have HB := hide hb
        clear hb
        obtain ⟨W1, rfl⟩ : ∃ W1, W1 = wr := ⟨_, rfl⟩
        by_cases hlt : k < cm.length
        · have hlx : k < xs.length := by have := CL.out; omega
          obtain ⟨b, off, u, rfl, hc1, hu⟩ := (RM.out.below HB.out).row k hlt
          obtain ⟨row, hrow⟩ : ∃ row, row = cm.getD k [] := ⟨_, rfl⟩
          rw [← hrow] at hu
          have hro : row = cauRow (xs.getD k 0) ys := by
            have h : cm = cauM xs ys := CM.out
            rw [hrow, h, cauM_get _ _ _ hlx]
          obtain ⟨ua, uc, rfl, _, _, hub⟩ := hu
          have UB := hide hub
          have rl : row.length = ys.length := by rw [hro, cauRow_length]
          have r8 : row.length ≤ 8 := by omega
          have RL := hide rl
          have RW : Hid (row = (cauM xs ys).getD k []) := by show _ = _; rw [hro, cauM_get _ _ _ hlx]
          have hbl := cell_lt hc1
          have hlt' : (k : Int) < (cm.length : Int) := by omega
          have hlx' : (k : Int) < (xs.length : Int) := by omega
          have TW := hide (T.out.below HB.out)
          have XW := hide (RX.out.below HB.out)
          have YW := hide (RY.out.below HB.out)
          clear hub hro hrow rl
          go_wp2
          go_loopw [126] (fun vj wq => ∃ j : Nat, j ≤ row.length ∧ vj = .int .i64 j ∧ Below W1.heap.size W1 wq) (fun vj _ => row.length - (intOf vj).toNat)
          case atStart => exact ⟨0, Nat.zero_le _, rfl, Below.refl _ _⟩
          case round =>
            obtain ⟨j, hj, rfl, hbq⟩ := hrel
            have HQ := hide hbq
            clear hbq
            obtain ⟨W2, rfl⟩ : ∃ W2, W2 = wr := ⟨_, rfl⟩
            by_cases hltj : j < row.length
            · have hltj' : (j : Int) < (row.length : Int) := by omega
              have hly : j < ys.length := by have := RL.out; omega
              have hly' : (j : Int) < (ys.length : Int) := by omega
              rcases UB.out with h3 | ⟨bu, ou, rfl, hbu, hcu⟩
              · subst h3; simp at hltj
              have hcj := (HQ.out.cell (p := ⟨bu, ou + j, none⟩) (by exact hbu)).trans (hcu j hltj)
              have hck := (HQ.out.cell (p := ⟨b, off + k, none⟩) (by exact hbl)).trans hc1
              obtain ⟨sa', sc', hsv, _, _, hsb⟩ := XW.out.below HQ.out
              cases hsv
              rcases hsb with h | ⟨bs, os, hxe, hbs, hcs⟩
              · rw [h] at hlx
                simp at hlx
              obtain ⟨za', zc', hzv, _, _, hzb⟩ := YW.out.below HQ.out
              cases hzv
              rcases hzb with h | ⟨bz, oz, hye, hbz, hcz⟩
              · rw [h] at hly
                simp at hly
              cases hxe
              cases hye
              have hcs1 := hcs k hlx
              have hcz1 := hcz j hly
              obtain ⟨a, x, y, a256, x256, y256, ha, hx, hy, hxor, hxl, hmul⟩ := cau_one OK.out hlx hly
              rw [← RW.out] at ha
              rw [ha] at hcj
              rw [hx] at hcs1
              rw [hy] at hcz1
              obtain ⟨xy, hxy⟩ : ∃ n, n = x ^^^ y := ⟨_, rfl⟩
              rw [← hxy] at hxor hxl hmul
              have MG : Hid (∀ n, Calls Tryd.prog 25 #[.int .i64 (a : Int), .int .i64 (xy : Int)] (W2.drewN n) fun e w' => e = .returned (.tuple #[.int .i64 1, .bool true]) ∧ W2.drewN n = w') := fun n => by
                have := Gf.mulGf_good (a : Int) (xy : Int) (W2.drewN n) ((TW.out.below HQ.out).drewN n) (by omega) (by omega) (by omega) (by omega)
                simp only [Int.toNat_natCast] at this
                rw [hmul] at this
                exact this
              clear hcs hcz hcu ha hx hy hmul hxy
              go_wp2
              go_quiet ((go_at_call 25; exact Gf.quiet_same (MG.out _)))
              go_wp2
              go_roundw
              case rel => exact ⟨j + 1, by omega, by go_num, below_drewN HQ.out _⟩
              case measure => simp [intOf]; omega
            · obtain rfl : j = row.length := by omega
              go_wp2
              go_roundw
              case rel => exact ⟨k + 1, by omega, by go_num, HB.out.trans (HQ.out.mono HB.out.size)⟩
              case measure => simp [intOf]; omega
        · obtain rfl : k = cm.length := by omega
          have b := HB.out
          replace T := hide (T.out.below b)
          replace M := hide (M.out.below b)
          replace RX := hide (RX.out.below b)
          replace RY := hide (RY.out.below b)
          replace RM := hide (RM.out.below b)
          replace B := hide (B.out.trans (b.mono B.out.size))
          clear b
          clear CM OK CL
          go_wp2_with fail
          refine (drawSolveBy_calls _ _ M.out).mono ?_
          rintro e wn ⟨av, vv, am, vs, rfl, hb, hk, _, b⟩
          replace T := hide (T.out.below b)
          replace M := hide (M.out.below b)
          replace RX := hide (RX.out.below b)
          replace RY := hide (RY.out.below b)
          replace RM := hide (RM.out.below b)
          replace B := hide (B.out.trans (b.mono B.out.size))
          clear b
          have RA := hide hb
          have RV := hide hk
          clear hb hk
          obtain ⟨aa, ac, rfl, _⟩ := RA.out
          obtain ⟨va, vc, rfl, _⟩ := RV.out
          have SF := hide (@slv_facts am vs)
          have SI := hide (fun w2 ht h1 h2 => solveBy_calls (.slice aa am.length ac) (.slice va vs.length vc) am vs w2 ht h1 h2)
          have SS := hide (fun w2 h1 h2 => sSolveBy_calls (.slice aa am.length ac) (.slice va vs.length vc) am vs w2 h1 h2)
          obtain ⟨sr, hsr⟩ : ∃ sr, sr = slvR am vs := ⟨_, rfl⟩
          rw [← hsr] at SF SI SS
          clear hsr
          obtain ⟨so, sok⟩ := sr
          go_wp2_with fail
          refine (SI.out _ T.out RA.out RV.out).mono ?_
          rintro e wn ⟨v1, rfl, om, b⟩
          replace T := hide (T.out.below b)
          replace M := hide (M.out.below b)
          replace RX := hide (RX.out.below b)
          replace RY := hide (RY.out.below b)
          replace RM := hide (RM.out.below b)
          replace RA := hide (RA.out.below b)
          replace RV := hide (RV.out.below b)
          replace B := hide (B.out.trans (b.mono B.out.size))
          clear b
          have RS := hide om.rd
          clear om
          obtain ⟨soa, soc, rfl, _⟩ := RS.out
          go_wp2_with fail
          refine (SS.out _ RA.out RV.out).mono ?_
          rintro e wn ⟨v2, rfl, om, b⟩
          replace T := hide (T.out.below b)
          replace M := hide (M.out.below b)
          replace RX := hide (RX.out.below b)
          replace RY := hide (RY.out.below b)
          replace RM := hide (RM.out.below b)
          replace RA := hide (RA.out.below b)
          replace RV := hide (RV.out.below b)
          replace RS := hide (RS.out.below b)
          replace B := hide (B.out.trans (b.mono B.out.size))
          clear b
          have R2 := hide om.rd
          clear om SI SS
          go_wp2_with fail
          refine (sameInts_same _ _ so _ RS.out R2.out).mono ?_
          rintro e wn ⟨rfl, b⟩
          clear R2
          replace T := hide (T.out.below b)
          replace M := hide (M.out.below b)
          replace RX := hide (RX.out.below b)
          replace RY := hide (RY.out.below b)
          replace RM := hide (RM.out.below b)
          replace RA := hide (RA.out.below b)
          replace RV := hide (RV.out.below b)
          replace RS := hide (RS.out.below b)
          replace B := hide (B.out.trans (b.mono B.out.size))
          clear b
          cases sok with
          | false =>
            clear SF
            go_wp2_with fail
            refine (drawRowsOf_calls _ _ M.out).mono ?_
            rintro e wn ⟨bv, kv, bm, ks, rfl, hb, hk, _, b⟩
            replace M := hide (M.out.below b)
            replace B := hide (B.out.trans (b.mono B.out.size))
            clear b
            have RB := hide hb
            have RK := hide hk
            clear hb hk
            obtain ⟨rr, hrr⟩ : ∃ rr, rr = rowsR bm ks := ⟨_, rfl⟩
            have RI := hide (fun w2 h1 h2 => rowsOf_calls bv kv bm ks w2 h1 h2)
            have RSp := hide (fun w2 h1 h2 => sRowsOf_calls bv kv bm ks w2 h1 h2)
            rw [← hrr] at RI RSp
            clear hrr
            obtain ⟨rm, rok⟩ := rr
            go_wp2_with fail
            refine (RI.out _ RB.out RK.out).mono ?_
            rintro e wn ⟨v1, rfl, om, b⟩
            replace M := hide (M.out.below b)
            replace RB := hide (RB.out.below b)
            replace RK := hide (RK.out.below b)
            replace B := hide (B.out.trans (b.mono B.out.size))
            clear b
            have R1 := hide om.rd
            clear om
            obtain ⟨r1a, r1c, rfl, _⟩ := R1.out
            go_wp2_with fail
            refine (RSp.out _ RB.out RK.out).mono ?_
            rintro e wn ⟨v2, rfl, om, b⟩
            replace M := hide (M.out.below b)
            replace RB := hide (RB.out.below b)
            replace RK := hide (RK.out.below b)
            replace R1 := hide (R1.out.below b)
            replace B := hide (B.out.trans (b.mono B.out.size))
            clear b
            have R2 := hide om.rd
            clear om RI RSp
            go_wp2_with fail
            refine (sameLists_same _ _ rm _ R1.out R2.out).mono ?_
            rintro e wn ⟨rfl, b⟩
            replace B := hide (B.out.trans (b.mono B.out.size))
            clear b
            go_wp2
            go_ret
            exact ⟨rfl, B.out⟩
          | true =>
            obtain ⟨S, hS, hSl, hvl, hm8, hSlt, hve, hrow, hdot⟩ := SF.out rfl
            have HS := hide hS
            have SL := hide hSl
            have VL := hide hvl
            have ST := hide hSlt
            have VE := hide hve
            have RO := hide hrow
            have DO := hide hdot
            clear hS hSl hvl hSlt hve hrow hdot SF
            obtain ⟨WS, hWS⟩ : ∃ W, W = wn := ⟨_, rfl⟩
            subst hWS
            go_wp2
            go_loopw [186] (fun vi wr => ∃ k : Nat, k ≤ am.length ∧ vi = .int .i64 k ∧ Below WS.heap.size WS wr) (fun vi _ => am.length - (intOf vi).toNat)
            case atStart => exact ⟨0, Nat.zero_le _, rfl, Below.refl _ _⟩
            case round =>
              obtain ⟨k, hk, rfl, hb⟩ := hrel
              have HB := hide hb
              clear hb
              obtain ⟨W1, rfl⟩ : ∃ W1, W1 = wr := ⟨_, rfl⟩
              by_cases hlt : k < am.length
              · obtain ⟨b, off, u, rfl, hc1, hu⟩ := (RA.out.below HB.out).row k hlt
                obtain ⟨row, hrow⟩ : ∃ row, row = am.getD k [] := ⟨_, rfl⟩
                rw [← hrow] at hu
                have hro := RO.out k hlt
                have hdo := DO.out k hlt
                rw [← hrow] at hro hdo
                obtain ⟨ua, uc, rfl, _, _, hub⟩ := hu
                have UB := hide hub
                have RL := hide hro.1
                have RE := hide hro.2
                have hbl := cell_lt hc1
                obtain ⟨va', vc', hvv, _, _, hvb⟩ := RV.out.below HB.out
                cases hvv
                rcases hvb with h | ⟨bv, ov, rfl, hbv, hcv⟩
                · have := VL.out
                  rw [h] at this
                  simp at this
                  omega
                have ev := hcv k (by rw [VL.out]; exact hlt)
                obtain ⟨z, hz⟩ : ∃ z : Nat, vs.getD k 0 = (z : Int) := ⟨(vs.getD k 0).toNat, by have := el_at VE.out k; omega⟩
                rw [hz] at ev hdo
                have DZ := hide hdo
                have vk : (k : Int) < (vs.length : Int) := by have := VL.out; omega
                have hlt' : (k : Int) < (am.length : Int) := by omega
                have TW := hide (T.out.below HB.out)
                have r8 : row.length ≤ 8 := by rw [RL.out]; exact hm8
                clear hub hro hdo hcv hz hrow
                go_wp2
                go_loopw [28, 194] (fun vsum vj wq => ∃ j d : Nat, j ≤ row.length ∧ vj = .int .i64 j ∧ vsum = .int .i64 (d : Int) ∧ d = Gf.dotTo (Gf.nat row) S j ∧ Below W1.heap.size W1 wq) (fun _ vj _ => row.length - (intOf vj).toNat)
                case atStart => exact ⟨0, 0, Nat.zero_le _, rfl, rfl, rfl, Below.refl _ _⟩
                case round =>
                  obtain ⟨j, d, hj, rfl, rfl, hd, hbq⟩ := hrel
                  have HQ := hide hbq
                  have HD := hide hd
                  have d256 : d < 256 := by rw [hd]; exact Gf.dotTo_lt (nat_lt RE.out) _
                  clear hbq hd
                  obtain ⟨W2, rfl⟩ : ∃ W2, W2 = wr := ⟨_, rfl⟩
                  by_cases hltj : j < row.length
                  · have hltj' : (j : Int) < (row.length : Int) := by omega
                    have js : (j : Int) < (so.length : Int) := by
                      have h1 := RL.out
                      have h2 := SL.out
                      have h3 : so.length = S.length := by rw [HS.out, Gf.ci_length]
                      omega
                    rcases UB.out with h3 | ⟨bu, ou, rfl, hbu, hcu⟩
                    · subst h3; simp at hltj
                    have hcj := (HQ.out.cell (p := ⟨bu, ou + j, none⟩) (by exact hbu)).trans (hcu j hltj)
                    have hck := (HQ.out.cell (p := ⟨b, off + k, none⟩) (by exact hbl)).trans hc1
                    obtain ⟨sa', sc', hsv, _, _, hsb⟩ := RS.out.below (HB.out.trans (HQ.out.mono HB.out.size))
                    cases hsv
                    rcases hsb with h | ⟨bs, os, rfl, hbs, hcs⟩
                    · rw [h] at js
                      simp at js
                      omega
                    have hcs1 := hcs j (by omega)
                    obtain ⟨x, hx, x256⟩ : ∃ x : Nat, row.getD j 0 = (x : Int) ∧ x < 256 := ⟨(row.getD j 0).toNat, by have := el_at RE.out j; omega, by have := el_at RE.out j; omega⟩
                    obtain ⟨y, hy⟩ : ∃ y : Nat, y = S.getD j 0 := ⟨_, rfl⟩
                    have y256 : y < 256 := by rw [hy]; exact ST.out j
                    have hsy : so.getD j 0 = (y : Int) := by rw [HS.out, Gf.ci_getD, hy]
                    rw [hx] at hcj
                    rw [hsy] at hcs1
                    obtain ⟨p, hp⟩ : ∃ p, p = Gf.mul x y := ⟨_, rfl⟩
                    have p256 : p < 256 := by rw [hp]; exact Gf.mul_lt x256
                    have MG : Hid (∀ n, Calls Tryd.prog 25 #[.int .i64 (x : Int), .int .i64 (y : Int)] (W2.drewN n) fun e w' => e = .returned (.tuple #[.int .i64 (p : Int), .bool true]) ∧ W2.drewN n = w') := fun n => by
                      have := Gf.mulGf_good (x : Int) (y : Int) (W2.drewN n) ((TW.out.below HQ.out).drewN n) (by omega) (by omega) (by omega) (by omega)
                      simp only [Int.toNat_natCast] at this
                      rw [← hp] at this
                      exact this
                    have xr := Gf.xor_o d256 p256
                    have HP : Hid (d ^^^ p = Gf.dotTo (Gf.nat row) S (j + 1)) := by
                      show _ = _
                      rw [Gf.dotTo, ← HD.out, hp, ← hy, nat_at hltj hx]
                    clear hcs hcu hsy hx hy hp
                    go_wp2
                    go_quiet ((go_at_call 25; exact Gf.quiet_same (MG.out _)))
                    go_wp2
                    go_roundw
                    case rel => exact ⟨j + 1, d ^^^ p, by omega, by go_num, rfl, HP.out, below_drewN HQ.out _⟩
                    case measure => simp [intOf]; omega
                  · obtain rfl : j = row.length := by omega
                    have dz : d = z := by rw [HD.out, RL.out]; exact DZ.out
                    subst dz
                    have evq := (HQ.out.cell (p := ⟨bv, ov + k, none⟩) (by exact hbv)).trans ev
                    go_wp2
                    go_roundw
                    case rel => exact ⟨k + 1, by omega, by go_num, HB.out.trans (HQ.out.mono HB.out.size)⟩
                    case measure => simp [intOf]; omega
              · obtain rfl : k = am.length := by omega
                have b := HB.out
                replace M := hide (M.out.below b)
                replace B := hide (B.out.trans (b.mono B.out.size))
                clear b T RA RV RS RX RY RM HS SL VL ST VE RO DO
                go_wp2_with fail
                refine (drawRowsOf_calls _ _ M.out).mono ?_
                rintro e wn ⟨bv, kv, bm, ks, rfl, hb, hk, _, b⟩
                replace M := hide (M.out.below b)
                replace B := hide (B.out.trans (b.mono B.out.size))
                clear b
                have RB := hide hb
                have RK := hide hk
                clear hb hk
                obtain ⟨rr, hrr⟩ : ∃ rr, rr = rowsR bm ks := ⟨_, rfl⟩
                have RI := hide (fun w2 h1 h2 => rowsOf_calls bv kv bm ks w2 h1 h2)
                have RSp := hide (fun w2 h1 h2 => sRowsOf_calls bv kv bm ks w2 h1 h2)
                rw [← hrr] at RI RSp
                clear hrr
                obtain ⟨rm, rok⟩ := rr
                go_wp2_with fail
                refine (RI.out _ RB.out RK.out).mono ?_
                rintro e wn ⟨v1, rfl, om, b⟩
                replace M := hide (M.out.below b)
                replace RB := hide (RB.out.below b)
                replace RK := hide (RK.out.below b)
                replace B := hide (B.out.trans (b.mono B.out.size))
                clear b
                have R1 := hide om.rd
                clear om
                obtain ⟨r1a, r1c, rfl, _⟩ := R1.out
                go_wp2_with fail
                refine (RSp.out _ RB.out RK.out).mono ?_
                rintro e wn ⟨v2, rfl, om, b⟩
                replace M := hide (M.out.below b)
                replace RB := hide (RB.out.below b)
                replace RK := hide (RK.out.below b)
                replace R1 := hide (R1.out.below b)
                replace B := hide (B.out.trans (b.mono B.out.size))
                clear b
                have R2 := hide om.rd
                clear om RI RSp
                go_wp2_with fail
                refine (sameLists_same _ _ rm _ R1.out R2.out).mono ?_
                rintro e wn ⟨rfl, b⟩
                replace B := hide (B.out.trans (b.mono B.out.size))
                clear b
                go_wp2
                go_ret
                exact ⟨rfl, B.out⟩
end Go.Proofs.YtoipcoidcaijjaaDoor

/-
  The law of polynomials: at every two texts that can be read and are not too long the call returns true, and nothing that was there is written. The program's table of rests must hold its seven numbers.
-/
import Derived.Test.YtoipcoidcaijjaaDoorPolyE
import Derived.Test.YtoipcoidcaijjaaDoorDrawQ
import Derived.Test.YtoipcoidcaijjaaDoorFnExactDivPolyW
namespace Go.Proofs.YtoipcoidcaijjaaDoor
open Go.RowKit

theorem eval_both (xs : List Int) (x : Int) : ∃ (r : Int) (ok : Bool), (∀ w2 v, Rd w2 v xs → Calls Tryd.prog 30 #[v, .int .i64 x] w2 fun e w' => e = .returned (.tuple #[.int .i64 r, .bool ok]) ∧ Below w2.heap.size w2 w') ∧
    (∀ w2 v, Gf.Tab w2 → Rd w2 v xs → Calls Tryd.prog 24 #[v, .int .i64 x] w2 fun e w' => e = .returned (.tuple #[.int .i64 r, .bool ok]) ∧ Below w2.heap.size w2 w') := by
  cases hp : Gf.goodP xs with
  | false => exact ⟨0, false, fun w2 v h => (Gf.sEvalGf_bad v xs x w2 h (.inl hp)).mono (fun e w' ⟨h1, h2⟩ => ⟨h1, h2 ▸ Below.refl _ _⟩), fun w2 v _ h => (Gf.evalGf_bad v xs x w2 h (.inl hp)).mono (fun e w' ⟨h1, h2⟩ => ⟨h1, h2 ▸ Below.refl _ _⟩)⟩
  | true =>
    cases he : Gf.elOk x with
    | false => exact ⟨0, false, fun w2 v h => (Gf.sEvalGf_bad v xs x w2 h (.inr he)).mono (fun e w' ⟨h1, h2⟩ => ⟨h1, h2 ▸ Below.refl _ _⟩), fun w2 v _ h => (Gf.evalGf_bad v xs x w2 h (.inr he)).mono (fun e w' ⟨h1, h2⟩ => ⟨h1, h2 ▸ Below.refl _ _⟩)⟩
    | true =>
      have hb := Gf.elOk_iff.1 he
      exact ⟨_, true, fun w2 v h => Gf.sEvalGf_good v xs x w2 h hp hb.1 hb.2, fun w2 v ht h => Gf.evalGf_good v xs x w2 ht h hp hb.1 hb.2⟩

set_option maxRecDepth 100000 in
set_option maxHeartbeats 12800000 in
theorem fnPolys_core (cv mv : Value) (w : World) (hT : Gf.Tab w) (hc : RdB w cv) (hm : RdB w mv) (hlen : ∀ a n c a' n' c', cv = .slice a n c → mv = .slice a' n' c' → (n : Int) + (n' : Int) ≤ 1048576) :
    Calls Tryd.prog 3 #[cv, mv] w fun e w' => e = .returned (.bool true) ∧ Below w.heap.size w w' := by
  have HC := hide hc
  have M := hide hm
  have T := hide hT
  have B := hide (Below.refl w.heap.size w)
  obtain ⟨ca, cc, cz, rfl, _, _, _⟩ := hc
  obtain ⟨ma, mc, mz, rfl, _, _, _⟩ := hm
  have hl := hlen _ _ _ _ _ _ rfl rfl
  have hl' : ¬ (1048576 : Int) < (cz.length : Int) + (mz.length : Int) := by omega
  clear hlen hT
  go_enter Tryd.func3, Tryd.ntmps3
  go_wp2_with fail
  refine (drawDivPoly_calls _ _ HC.out).mono ?_
  rintro e wn ⟨vp, vq, ps, qs, rfl, hp, hq, b⟩
  clear HC
  replace T := hide (T.out.below b)
  replace M := hide (M.out.below b)
  replace B := hide (B.out.trans (b.mono B.out.size))
  clear b
  have RP := hide hp
  have RQ := hide hq
  clear hp hq
  obtain ⟨qa, qc, rfl, _⟩ := RQ.out
  have DF := hide (@Gf.div_facts ps qs)
  obtain ⟨dr, hdr⟩ : ∃ dr, dr = Gf.divR ps qs := ⟨_, rfl⟩
  have CI := hide (fun w2 ht h1 h2 => Gf.divPoly_calls vp (.slice qa qs.length qc) ps qs w2 ht h1 h2)
  have CS := hide (fun w2 h1 h2 => Gf.sDivPoly_calls vp (.slice qa qs.length qc) ps qs w2 h1 h2)
  rw [← hdr] at CI CS DF
  clear hdr
  obtain ⟨ds, rs, dok⟩ := dr
  go_wp2_with fail
  refine (CI.out _ T.out RP.out RQ.out).mono ?_
  rintro e wn ⟨vd, vr, rfl, o1, o2, _, b⟩
  replace T := hide (T.out.below b)
  replace M := hide (M.out.below b)
  replace RP := hide (RP.out.below b)
  replace RQ := hide (RQ.out.below b)
  replace B := hide (B.out.trans (b.mono B.out.size))
  clear b
  have RD := hide o1.rd
  have RR := hide o2.rd
  clear o1 o2
  obtain ⟨ra, rc, rfl, _⟩ := RR.out
  go_wp2_with fail
  refine (CS.out _ RP.out RQ.out).mono ?_
  rintro e wn ⟨vd2, vr2, rfl, o1, o2, _, b⟩
  replace T := hide (T.out.below b)
  replace M := hide (M.out.below b)
  replace RP := hide (RP.out.below b)
  replace RQ := hide (RQ.out.below b)
  replace RD := hide (RD.out.below b)
  replace RR := hide (RR.out.below b)
  replace B := hide (B.out.trans (b.mono B.out.size))
  clear b
  have RD2 := hide o1.rd
  have RR2 := hide o2.rd
  clear o1 o2
  go_wp2_with fail
  refine (sameInts_same _ _ ds _ RD.out RD2.out).mono ?_
  rintro e wn ⟨rfl, b⟩
  replace RR2 := hide (RR2.out.below b)
  replace T := hide (T.out.below b)
  replace M := hide (M.out.below b)
  replace RP := hide (RP.out.below b)
  replace RQ := hide (RQ.out.below b)
  replace RD := hide (RD.out.below b)
  replace RR := hide (RR.out.below b)
  replace B := hide (B.out.trans (b.mono B.out.size))
  clear b
  go_wp2_with fail
  refine (sameInts_same _ _ rs _ RR.out RR2.out).mono ?_
  rintro e wn ⟨rfl, b⟩
  clear RD2 RR2 CI CS
  replace T := hide (T.out.below b)
  replace M := hide (M.out.below b)
  replace RP := hide (RP.out.below b)
  replace RQ := hide (RQ.out.below b)
  replace RD := hide (RD.out.below b)
  replace RR := hide (RR.out.below b)
  replace B := hide (B.out.trans (b.mono B.out.size))
  clear b
  go_wp2_with fail
  refine (numberOf_calls _ _ M.out).mono ?_
  rintro e wn ⟨N, hN, rfl, rfl⟩
  obtain ⟨X, hXe, hX⟩ : ∃ X : Nat, (N : Int) % 256 = (X : Int) ∧ X < 256 := ⟨N % 256, by omega, by omega⟩
  cases dok with
  | false =>
    clear RP RQ RD RR DF
    go_wp2_with fail
    refine (drawMulPoly_calls _ _ M.out).mono ?_
    rintro e wn ⟨vu, vv, us, vs, rfl, hu, hv, b⟩
    replace T := hide (T.out.below b)
    replace M := hide (M.out.below b)
    replace B := hide (B.out.trans (b.mono B.out.size))
    clear b
    have RU := hide hu
    have RV := hide hv
    clear hu hv
    obtain ⟨ua, uc, rfl, _⟩ := RU.out
    obtain ⟨va', vc', rfl, _⟩ := RV.out
    have MF := hide (@Gf.mul_facts us vs)
    obtain ⟨mr, hmr⟩ : ∃ mr, mr = Gf.mulR us vs := ⟨_, rfl⟩
    have CI := hide (fun w2 ht h1 h2 => Gf.mulPoly_calls (.slice ua us.length uc) (.slice va' vs.length vc') us vs w2 ht h1 h2)
    have CS := hide (fun w2 h1 h2 => Gf.sMulPoly_calls (.slice ua us.length uc) (.slice va' vs.length vc') us vs w2 h1 h2)
    rw [← hmr] at CI CS MF
    clear hmr
    obtain ⟨ms, mok⟩ := mr
    go_wp2_with fail
    refine (CI.out _ T.out RU.out RV.out).mono ?_
    rintro e wn ⟨vm, rfl, om, b⟩
    replace T := hide (T.out.below b)
    replace M := hide (M.out.below b)
    replace RU := hide (RU.out.below b)
    replace RV := hide (RV.out.below b)
    replace B := hide (B.out.trans (b.mono B.out.size))
    clear b
    have RM := hide om.rd
    clear om
    obtain ⟨mma, mmc, rfl, _⟩ := RM.out
    go_wp2_with fail
    refine (CS.out _ RU.out RV.out).mono ?_
    rintro e wn ⟨vm2, rfl, om, b⟩
    replace T := hide (T.out.below b)
    replace M := hide (M.out.below b)
    replace RU := hide (RU.out.below b)
    replace RV := hide (RV.out.below b)
    replace RM := hide (RM.out.below b)
    replace B := hide (B.out.trans (b.mono B.out.size))
    clear b
    have RM2 := hide om.rd
    clear om
    go_wp2_with fail
    refine (sameInts_same _ _ ms _ RM.out RM2.out).mono ?_
    rintro e wn ⟨rfl, b⟩
    clear RM2
    replace T := hide (T.out.below b)
    replace M := hide (M.out.below b)
    replace RU := hide (RU.out.below b)
    replace RV := hide (RV.out.below b)
    replace RM := hide (RM.out.below b)
    replace B := hide (B.out.trans (b.mono B.out.size))
    clear b
    cases mok with
    | false =>
      go_wp2_with fail
      refine (drawEvalGf_calls _ _ M.out).mono ?_
      rintro e wn ⟨vg, gs, y, rfl, hg, b⟩
      replace T := hide (T.out.below b)
      replace M := hide (M.out.below b)
      replace RU := hide (RU.out.below b)
      replace RV := hide (RV.out.below b)
      replace RM := hide (RM.out.below b)
      replace B := hide (B.out.trans (b.mono B.out.size))
      clear b
      have RG := hide hg
      clear hg
      obtain ⟨er, eok, hes, hei⟩ := eval_both gs y
      have HES := hide hes
      have HEI := hide hei
      clear hes hei
      go_wp2_with fail
      refine (HEI.out _ _ T.out RG.out).mono ?_
      rintro e wn ⟨rfl, b⟩
      replace RG := hide (RG.out.below b)
      replace T := hide (T.out.below b)
      replace M := hide (M.out.below b)
      replace RU := hide (RU.out.below b)
      replace RV := hide (RV.out.below b)
      replace RM := hide (RM.out.below b)
      replace B := hide (B.out.trans (b.mono B.out.size))
      clear b
      go_wp2_with fail
      refine (HES.out _ _ RG.out).mono ?_
      rintro e wn ⟨rfl, b⟩
      replace B := hide (B.out.trans (b.mono B.out.size))
      clear b
      go_wp2
      go_ret
      exact ⟨rfl, B.out⟩
    | true =>
      obtain ⟨gu, gv, gm, hval, hlen⟩ := MF.out rfl
      have GU := hide gu
      have GV := hide gv
      have GM := hide gm
      have HL := hide hlen
      have hvx := hval X hX
      clear gu gv gm hval hlen MF
      obtain ⟨na, ha⟩ : ∃ n, n = Gf.ev X us := ⟨_, rfl⟩
      obtain ⟨nb, hb⟩ : ∃ n, n = Gf.ev X vs := ⟨_, rfl⟩
      obtain ⟨nm, hm⟩ : ∃ n, n = Gf.ev X ms := ⟨_, rfl⟩
      have hna : na < 256 := by rw [ha]; exact Gf.ev_lt (Gf.goodP_mem GU.out)
      have hnb : nb < 256 := by rw [hb]; exact Gf.ev_lt (Gf.goodP_mem GV.out)
      have HV : Hid (Gf.mul na nb = nm) := by show _ = _; rw [ha, hb, hm]; exact hvx
      have NA := hide ha
      have NB := hide hb
      have NM := hide hm
      clear ha hb hm hvx
      go_wp2_with fail
      refine (Gf.evalGf_good _ _ _ _ T.out RU.out GU.out (by omega) (by omega)).mono ?_
      simp only [Int.toNat_natCast]
      rw [← NA.out]
      rintro e wn ⟨rfl, b⟩
      replace T := hide (T.out.below b)
      replace M := hide (M.out.below b)
      replace RU := hide (RU.out.below b)
      replace RV := hide (RV.out.below b)
      replace RM := hide (RM.out.below b)
      replace B := hide (B.out.trans (b.mono B.out.size))
      clear b
      go_wp2_with fail
      refine (Gf.evalGf_good _ _ _ _ T.out RV.out GV.out (by omega) (by omega)).mono ?_
      simp only [Int.toNat_natCast]
      rw [← NB.out]
      rintro e wn ⟨rfl, b⟩
      replace T := hide (T.out.below b)
      replace M := hide (M.out.below b)
      replace RU := hide (RU.out.below b)
      replace RV := hide (RV.out.below b)
      replace RM := hide (RM.out.below b)
      replace B := hide (B.out.trans (b.mono B.out.size))
      clear b
      go_wp2_with fail
      refine (Gf.evalGf_good _ _ _ _ T.out RM.out GM.out (by omega) (by omega)).mono ?_
      simp only [Int.toNat_natCast]
      rw [← NM.out]
      rintro e wn ⟨rfl, b⟩
      replace T := hide (T.out.below b)
      replace M := hide (M.out.below b)
      replace RU := hide (RU.out.below b)
      replace RV := hide (RV.out.below b)
      replace RM := hide (RM.out.below b)
      replace B := hide (B.out.trans (b.mono B.out.size))
      clear b
      go_wp2_with fail
      refine (Gf.mulGf_good _ _ _ T.out (by omega) (by omega) (by omega) (by omega)).mono ?_
      simp only [Int.toNat_natCast]
      rw [HV.out]
      rintro e wn ⟨rfl, rfl⟩
      by_cases hu0 : us.length = 0
      · have t1 : ¬ (0 : Int) < (us.length : Int) := by omega
        clear hu0
        go_wp2_with fail
        refine (drawEvalGf_calls _ _ M.out).mono ?_
        rintro e wn ⟨vg, gs, y, rfl, hg, b⟩
        replace T := hide (T.out.below b)
        replace M := hide (M.out.below b)
        replace RU := hide (RU.out.below b)
        replace RV := hide (RV.out.below b)
        replace RM := hide (RM.out.below b)
        replace B := hide (B.out.trans (b.mono B.out.size))
        clear b
        have RG := hide hg
        clear hg
        obtain ⟨er, eok, hes, hei⟩ := eval_both gs y
        have HES := hide hes
        have HEI := hide hei
        clear hes hei
        go_wp2_with fail
        refine (HEI.out _ _ T.out RG.out).mono ?_
        rintro e wn ⟨rfl, b⟩
        replace RG := hide (RG.out.below b)
        replace T := hide (T.out.below b)
        replace M := hide (M.out.below b)
        replace RU := hide (RU.out.below b)
        replace RV := hide (RV.out.below b)
        replace RM := hide (RM.out.below b)
        replace B := hide (B.out.trans (b.mono B.out.size))
        clear b
        go_wp2_with fail
        refine (HES.out _ _ RG.out).mono ?_
        rintro e wn ⟨rfl, b⟩
        replace B := hide (B.out.trans (b.mono B.out.size))
        clear b
        go_wp2
        go_ret
        exact ⟨rfl, B.out⟩
      · have t1 : (0 : Int) < (us.length : Int) := by omega
        by_cases hv0 : vs.length = 0
        · have t2 : ¬ (0 : Int) < (vs.length : Int) := by omega
          clear hu0 hv0
          go_wp2_with fail
          refine (drawEvalGf_calls _ _ M.out).mono ?_
          rintro e wn ⟨vg, gs, y, rfl, hg, b⟩
          replace T := hide (T.out.below b)
          replace M := hide (M.out.below b)
          replace RU := hide (RU.out.below b)
          replace RV := hide (RV.out.below b)
          replace RM := hide (RM.out.below b)
          replace B := hide (B.out.trans (b.mono B.out.size))
          clear b
          have RG := hide hg
          clear hg
          obtain ⟨er, eok, hes, hei⟩ := eval_both gs y
          have HES := hide hes
          have HEI := hide hei
          clear hes hei
          go_wp2_with fail
          refine (HEI.out _ _ T.out RG.out).mono ?_
          rintro e wn ⟨rfl, b⟩
          replace RG := hide (RG.out.below b)
          replace T := hide (T.out.below b)
          replace M := hide (M.out.below b)
          replace RU := hide (RU.out.below b)
          replace RV := hide (RV.out.below b)
          replace RM := hide (RM.out.below b)
          replace B := hide (B.out.trans (b.mono B.out.size))
          clear b
          go_wp2_with fail
          refine (HES.out _ _ RG.out).mono ?_
          rintro e wn ⟨rfl, b⟩
          replace B := hide (B.out.trans (b.mono B.out.size))
          clear b
          go_wp2
          go_ret
          exact ⟨rfl, B.out⟩
        · have t2 : (0 : Int) < (vs.length : Int) := by omega
          have lu := Gf.goodP_len GU.out
          have lv := Gf.goodP_len GV.out
          have t3 : (ms.length : Int) = (us.length : Int) + (vs.length : Int) - 1 := by
            have := HL.out (by omega) (by omega)
            omega
          clear hu0 hv0
          go_wp2_with fail
          refine (drawEvalGf_calls _ _ M.out).mono ?_
          rintro e wn ⟨vg, gs, y, rfl, hg, b⟩
          replace T := hide (T.out.below b)
          replace M := hide (M.out.below b)
          replace RU := hide (RU.out.below b)
          replace RV := hide (RV.out.below b)
          replace RM := hide (RM.out.below b)
          replace B := hide (B.out.trans (b.mono B.out.size))
          clear b
          have RG := hide hg
          clear hg
          obtain ⟨er, eok, hes, hei⟩ := eval_both gs y
          have HES := hide hes
          have HEI := hide hei
          clear hes hei
          go_wp2_with fail
          refine (HEI.out _ _ T.out RG.out).mono ?_
          rintro e wn ⟨rfl, b⟩
          replace RG := hide (RG.out.below b)
          replace T := hide (T.out.below b)
          replace M := hide (M.out.below b)
          replace RU := hide (RU.out.below b)
          replace RV := hide (RV.out.below b)
          replace RM := hide (RM.out.below b)
          replace B := hide (B.out.trans (b.mono B.out.size))
          clear b
          go_wp2_with fail
          refine (HES.out _ _ RG.out).mono ?_
          rintro e wn ⟨rfl, b⟩
          replace B := hide (B.out.trans (b.mono B.out.size))
          clear b
          go_wp2
          go_ret
          exact ⟨rfl, B.out⟩
  | true =>
    obtain ⟨gp, gq, gd, gr, hshort, hval⟩ := DF.out rfl
    have GP := hide gp
    have GQ := hide gq
    have GD := hide gd
    have GR := hide gr
    have hvx := hval X hX
    have sh : ¬ (qs.length : Int) ≤ (rs.length : Int) := by omega
    clear gp gq gd gr hval hshort DF
    obtain ⟨na, ha⟩ : ∃ n, n = Gf.ev X ps := ⟨_, rfl⟩
    obtain ⟨nb, hb⟩ : ∃ n, n = Gf.ev X qs := ⟨_, rfl⟩
    obtain ⟨nc, hc⟩ : ∃ n, n = Gf.ev X ds := ⟨_, rfl⟩
    obtain ⟨ne, he⟩ : ∃ n, n = Gf.ev X rs := ⟨_, rfl⟩
    have hnb : nb < 256 := by rw [hb]; exact Gf.ev_lt (Gf.goodP_mem GQ.out)
    have hnc : nc < 256 := by rw [hc]; exact Gf.ev_lt (Gf.goodP_mem GD.out)
    have hne : ne < 256 := by rw [he]; exact Gf.ev_lt (Gf.goodP_mem GR.out)
    obtain ⟨nf, hf⟩ : ∃ n, n = Gf.mul nb nc := ⟨_, rfl⟩
    have hnf : nf < 256 := by rw [hf]; exact Gf.mul_lt hnb
    have xr : bits .xor .i64 (nf : Int) (ne : Int) = (na : Int) := by
      rw [Gf.i64_xor _ _ (by omega) (by omega), hf, ha, hb, hc, he]
      exact congrArg (fun n : Nat => (n : Int)) hvx
    have NA := hide ha
    have NB := hide hb
    have NC := hide hc
    have NE := hide he
    have NF := hide hf
    clear ha hb hc he hf hvx
    go_wp2_with fail
    refine (Gf.evalGf_good _ _ _ _ T.out RP.out GP.out (by omega) (by omega)).mono ?_
    simp only [Int.toNat_natCast]
    rw [← NA.out]
    rintro e wn ⟨rfl, b⟩
    replace T := hide (T.out.below b)
    replace M := hide (M.out.below b)
    replace RP := hide (RP.out.below b)
    replace RQ := hide (RQ.out.below b)
    replace RD := hide (RD.out.below b)
    replace RR := hide (RR.out.below b)
    replace B := hide (B.out.trans (b.mono B.out.size))
    clear b
    go_wp2_with fail
    refine (Gf.evalGf_good _ _ _ _ T.out RQ.out GQ.out (by omega) (by omega)).mono ?_
    simp only [Int.toNat_natCast]
    rw [← NB.out]
    rintro e wn ⟨rfl, b⟩
    replace T := hide (T.out.below b)
    replace M := hide (M.out.below b)
    replace RP := hide (RP.out.below b)
    replace RQ := hide (RQ.out.below b)
    replace RD := hide (RD.out.below b)
    replace RR := hide (RR.out.below b)
    replace B := hide (B.out.trans (b.mono B.out.size))
    clear b
    go_wp2_with fail
    refine (Gf.evalGf_good _ _ _ _ T.out RD.out GD.out (by omega) (by omega)).mono ?_
    simp only [Int.toNat_natCast]
    rw [← NC.out]
    rintro e wn ⟨rfl, b⟩
    replace T := hide (T.out.below b)
    replace M := hide (M.out.below b)
    replace RP := hide (RP.out.below b)
    replace RQ := hide (RQ.out.below b)
    replace RD := hide (RD.out.below b)
    replace RR := hide (RR.out.below b)
    replace B := hide (B.out.trans (b.mono B.out.size))
    clear b
    go_wp2_with fail
    refine (Gf.evalGf_good _ _ _ _ T.out RR.out GR.out (by omega) (by omega)).mono ?_
    simp only [Int.toNat_natCast]
    rw [← NE.out]
    rintro e wn ⟨rfl, b⟩
    replace T := hide (T.out.below b)
    replace M := hide (M.out.below b)
    replace RP := hide (RP.out.below b)
    replace RQ := hide (RQ.out.below b)
    replace RD := hide (RD.out.below b)
    replace RR := hide (RR.out.below b)
    replace B := hide (B.out.trans (b.mono B.out.size))
    clear b
    go_wp2_with fail
    refine (Gf.mulGf_good _ _ _ T.out (by omega) (by omega) (by omega) (by omega)).mono ?_
    simp only [Int.toNat_natCast]
    rw [← NF.out]
    rintro e wn ⟨rfl, rfl⟩
    clear GP GQ GD GR NA NB NC NE NF RP RQ RD RR
    go_wp2_with fail
    refine (drawMulPoly_calls _ _ M.out).mono ?_
    rintro e wn ⟨vu, vv, us, vs, rfl, hu, hv, b⟩
    replace T := hide (T.out.below b)
    replace M := hide (M.out.below b)
    replace B := hide (B.out.trans (b.mono B.out.size))
    clear b
    have RU := hide hu
    have RV := hide hv
    clear hu hv
    obtain ⟨ua, uc, rfl, _⟩ := RU.out
    obtain ⟨va', vc', rfl, _⟩ := RV.out
    have MF := hide (@Gf.mul_facts us vs)
    obtain ⟨mr, hmr⟩ : ∃ mr, mr = Gf.mulR us vs := ⟨_, rfl⟩
    have CI := hide (fun w2 ht h1 h2 => Gf.mulPoly_calls (.slice ua us.length uc) (.slice va' vs.length vc') us vs w2 ht h1 h2)
    have CS := hide (fun w2 h1 h2 => Gf.sMulPoly_calls (.slice ua us.length uc) (.slice va' vs.length vc') us vs w2 h1 h2)
    rw [← hmr] at CI CS MF
    clear hmr
    obtain ⟨ms, mok⟩ := mr
    go_wp2_with fail
    refine (CI.out _ T.out RU.out RV.out).mono ?_
    rintro e wn ⟨vm, rfl, om, b⟩
    replace T := hide (T.out.below b)
    replace M := hide (M.out.below b)
    replace RU := hide (RU.out.below b)
    replace RV := hide (RV.out.below b)
    replace B := hide (B.out.trans (b.mono B.out.size))
    clear b
    have RM := hide om.rd
    clear om
    obtain ⟨mma, mmc, rfl, _⟩ := RM.out
    go_wp2_with fail
    refine (CS.out _ RU.out RV.out).mono ?_
    rintro e wn ⟨vm2, rfl, om, b⟩
    replace T := hide (T.out.below b)
    replace M := hide (M.out.below b)
    replace RU := hide (RU.out.below b)
    replace RV := hide (RV.out.below b)
    replace RM := hide (RM.out.below b)
    replace B := hide (B.out.trans (b.mono B.out.size))
    clear b
    have RM2 := hide om.rd
    clear om
    go_wp2_with fail
    refine (sameInts_same _ _ ms _ RM.out RM2.out).mono ?_
    rintro e wn ⟨rfl, b⟩
    clear RM2
    replace T := hide (T.out.below b)
    replace M := hide (M.out.below b)
    replace RU := hide (RU.out.below b)
    replace RV := hide (RV.out.below b)
    replace RM := hide (RM.out.below b)
    replace B := hide (B.out.trans (b.mono B.out.size))
    clear b
    cases mok with
    | false =>
      go_wp2_with fail
      refine (drawEvalGf_calls _ _ M.out).mono ?_
      rintro e wn ⟨vg, gs, y, rfl, hg, b⟩
      replace T := hide (T.out.below b)
      replace M := hide (M.out.below b)
      replace RU := hide (RU.out.below b)
      replace RV := hide (RV.out.below b)
      replace RM := hide (RM.out.below b)
      replace B := hide (B.out.trans (b.mono B.out.size))
      clear b
      have RG := hide hg
      clear hg
      obtain ⟨er, eok, hes, hei⟩ := eval_both gs y
      have HES := hide hes
      have HEI := hide hei
      clear hes hei
      go_wp2_with fail
      refine (HEI.out _ _ T.out RG.out).mono ?_
      rintro e wn ⟨rfl, b⟩
      replace RG := hide (RG.out.below b)
      replace T := hide (T.out.below b)
      replace M := hide (M.out.below b)
      replace RU := hide (RU.out.below b)
      replace RV := hide (RV.out.below b)
      replace RM := hide (RM.out.below b)
      replace B := hide (B.out.trans (b.mono B.out.size))
      clear b
      go_wp2_with fail
      refine (HES.out _ _ RG.out).mono ?_
      rintro e wn ⟨rfl, b⟩
      replace B := hide (B.out.trans (b.mono B.out.size))
      clear b
      go_wp2
      go_ret
      exact ⟨rfl, B.out⟩
    | true =>
      obtain ⟨gu, gv, gm, hval, hlen⟩ := MF.out rfl
      have GU := hide gu
      have GV := hide gv
      have GM := hide gm
      have HL := hide hlen
      have hvx := hval X hX
      clear gu gv gm hval hlen MF
      obtain ⟨na, ha⟩ : ∃ n, n = Gf.ev X us := ⟨_, rfl⟩
      obtain ⟨nb, hb⟩ : ∃ n, n = Gf.ev X vs := ⟨_, rfl⟩
      obtain ⟨nm, hm⟩ : ∃ n, n = Gf.ev X ms := ⟨_, rfl⟩
      have hna : na < 256 := by rw [ha]; exact Gf.ev_lt (Gf.goodP_mem GU.out)
      have hnb : nb < 256 := by rw [hb]; exact Gf.ev_lt (Gf.goodP_mem GV.out)
      have HV : Hid (Gf.mul na nb = nm) := by show _ = _; rw [ha, hb, hm]; exact hvx
      have NA := hide ha
      have NB := hide hb
      have NM := hide hm
      clear ha hb hm hvx
      go_wp2_with fail
      refine (Gf.evalGf_good _ _ _ _ T.out RU.out GU.out (by omega) (by omega)).mono ?_
      simp only [Int.toNat_natCast]
      rw [← NA.out]
      rintro e wn ⟨rfl, b⟩
      replace T := hide (T.out.below b)
      replace M := hide (M.out.below b)
      replace RU := hide (RU.out.below b)
      replace RV := hide (RV.out.below b)
      replace RM := hide (RM.out.below b)
      replace B := hide (B.out.trans (b.mono B.out.size))
      clear b
      go_wp2_with fail
      refine (Gf.evalGf_good _ _ _ _ T.out RV.out GV.out (by omega) (by omega)).mono ?_
      simp only [Int.toNat_natCast]
      rw [← NB.out]
      rintro e wn ⟨rfl, b⟩
      replace T := hide (T.out.below b)
      replace M := hide (M.out.below b)
      replace RU := hide (RU.out.below b)
      replace RV := hide (RV.out.below b)
      replace RM := hide (RM.out.below b)
      replace B := hide (B.out.trans (b.mono B.out.size))
      clear b
      go_wp2_with fail
      refine (Gf.evalGf_good _ _ _ _ T.out RM.out GM.out (by omega) (by omega)).mono ?_
      simp only [Int.toNat_natCast]
      rw [← NM.out]
      rintro e wn ⟨rfl, b⟩
      replace T := hide (T.out.below b)
      replace M := hide (M.out.below b)
      replace RU := hide (RU.out.below b)
      replace RV := hide (RV.out.below b)
      replace RM := hide (RM.out.below b)
      replace B := hide (B.out.trans (b.mono B.out.size))
      clear b
      go_wp2_with fail
      refine (Gf.mulGf_good _ _ _ T.out (by omega) (by omega) (by omega) (by omega)).mono ?_
      simp only [Int.toNat_natCast]
      rw [HV.out]
      rintro e wn ⟨rfl, rfl⟩
      by_cases hu0 : us.length = 0
      · have t1 : ¬ (0 : Int) < (us.length : Int) := by omega
        clear hu0
        go_wp2_with fail
        refine (drawEvalGf_calls _ _ M.out).mono ?_
        rintro e wn ⟨vg, gs, y, rfl, hg, b⟩
        replace T := hide (T.out.below b)
        replace M := hide (M.out.below b)
        replace RU := hide (RU.out.below b)
        replace RV := hide (RV.out.below b)
        replace RM := hide (RM.out.below b)
        replace B := hide (B.out.trans (b.mono B.out.size))
        clear b
        have RG := hide hg
        clear hg
        obtain ⟨er, eok, hes, hei⟩ := eval_both gs y
        have HES := hide hes
        have HEI := hide hei
        clear hes hei
        go_wp2_with fail
        refine (HEI.out _ _ T.out RG.out).mono ?_
        rintro e wn ⟨rfl, b⟩
        replace RG := hide (RG.out.below b)
        replace T := hide (T.out.below b)
        replace M := hide (M.out.below b)
        replace RU := hide (RU.out.below b)
        replace RV := hide (RV.out.below b)
        replace RM := hide (RM.out.below b)
        replace B := hide (B.out.trans (b.mono B.out.size))
        clear b
        go_wp2_with fail
        refine (HES.out _ _ RG.out).mono ?_
        rintro e wn ⟨rfl, b⟩
        replace B := hide (B.out.trans (b.mono B.out.size))
        clear b
        go_wp2
        go_ret
        exact ⟨rfl, B.out⟩
      · have t1 : (0 : Int) < (us.length : Int) := by omega
        by_cases hv0 : vs.length = 0
        · have t2 : ¬ (0 : Int) < (vs.length : Int) := by omega
          clear hu0 hv0
          go_wp2_with fail
          refine (drawEvalGf_calls _ _ M.out).mono ?_
          rintro e wn ⟨vg, gs, y, rfl, hg, b⟩
          replace T := hide (T.out.below b)
          replace M := hide (M.out.below b)
          replace RU := hide (RU.out.below b)
          replace RV := hide (RV.out.below b)
          replace RM := hide (RM.out.below b)
          replace B := hide (B.out.trans (b.mono B.out.size))
          clear b
          have RG := hide hg
          clear hg
          obtain ⟨er, eok, hes, hei⟩ := eval_both gs y
          have HES := hide hes
          have HEI := hide hei
          clear hes hei
          go_wp2_with fail
          refine (HEI.out _ _ T.out RG.out).mono ?_
          rintro e wn ⟨rfl, b⟩
          replace RG := hide (RG.out.below b)
          replace T := hide (T.out.below b)
          replace M := hide (M.out.below b)
          replace RU := hide (RU.out.below b)
          replace RV := hide (RV.out.below b)
          replace RM := hide (RM.out.below b)
          replace B := hide (B.out.trans (b.mono B.out.size))
          clear b
          go_wp2_with fail
          refine (HES.out _ _ RG.out).mono ?_
          rintro e wn ⟨rfl, b⟩
          replace B := hide (B.out.trans (b.mono B.out.size))
          clear b
          go_wp2
          go_ret
          exact ⟨rfl, B.out⟩
        · have t2 : (0 : Int) < (vs.length : Int) := by omega
          have lu := Gf.goodP_len GU.out
          have lv := Gf.goodP_len GV.out
          have t3 : (ms.length : Int) = (us.length : Int) + (vs.length : Int) - 1 := by
            have := HL.out (by omega) (by omega)
            omega
          clear hu0 hv0
          go_wp2_with fail
          refine (drawEvalGf_calls _ _ M.out).mono ?_
          rintro e wn ⟨vg, gs, y, rfl, hg, b⟩
          replace T := hide (T.out.below b)
          replace M := hide (M.out.below b)
          replace RU := hide (RU.out.below b)
          replace RV := hide (RV.out.below b)
          replace RM := hide (RM.out.below b)
          replace B := hide (B.out.trans (b.mono B.out.size))
          clear b
          have RG := hide hg
          clear hg
          obtain ⟨er, eok, hes, hei⟩ := eval_both gs y
          have HES := hide hes
          have HEI := hide hei
          clear hes hei
          go_wp2_with fail
          refine (HEI.out _ _ T.out RG.out).mono ?_
          rintro e wn ⟨rfl, b⟩
          replace RG := hide (RG.out.below b)
          replace T := hide (T.out.below b)
          replace M := hide (M.out.below b)
          replace RU := hide (RU.out.below b)
          replace RV := hide (RV.out.below b)
          replace RM := hide (RM.out.below b)
          replace B := hide (B.out.trans (b.mono B.out.size))
          clear b
          go_wp2_with fail
          refine (HES.out _ _ RG.out).mono ?_
          rintro e wn ⟨rfl, b⟩
          replace B := hide (B.out.trans (b.mono B.out.size))
          clear b
          go_wp2
          go_ret
          exact ⟨rfl, B.out⟩
end Go.Proofs.YtoipcoidcaijjaaDoor

/-
  The model's RankOf, at all rows. No condition.
-/
import Derived.Test.YtfhaffegogdmeaaDoorRank
namespace Go.Proofs.YtfhaffegogdmeaaDoor
open Go.RowKit
open Gf (ci nat ciM swapM pf piv Sh AllLt clr redM)

set_option maxRecDepth 100000 in
set_option maxHeartbeats 3200000 in
theorem sRankOf_calls (v : Value) (m : List (List Int)) (w : World) (h : RdM w v m) :
    Calls Tryd.prog 31 #[v] w fun e w' => e = .returned (.tuple #[.int .i64 (rankR m).1, .bool (rankR m).2]) ∧ Below w.heap.size w w' := by
  have R := hide h
  obtain ⟨a, cap, rfl, _⟩ := h
  cases hg : goodM m with
  | false =>
    have G := hide hg
    have e : rankR m = (0, false) := by simp [rankR, hg]
    rw [e]
    clear hg e
    go_enter Tryd.func31, Tryd.ntmps31
    go_wp2_with fail
    refine (sGoodMatrix_calls _ m _ R.out).mono ?_
    rw [G.out]
    rintro e w1 ⟨rfl, rfl⟩
    go_wp2
    go_ret2
    exact ⟨rfl, Below.refl _ _⟩
  | true =>
    have G := hide hg
    obtain ⟨f1, f2, f3, f4, f5⟩ := goodM_rows hg
    obtain ⟨M, hM⟩ : ∃ M, M = m.map nat := ⟨_, rfl⟩
    have hcm := ciM_nat hg
    have hsh := sh_nat hg
    rw [← hM] at hcm hsh
    obtain ⟨c, hc⟩ : ∃ c, c = (m.getD 0 []).length := ⟨_, rfl⟩
    obtain ⟨res, hres⟩ : ∃ r, r = redM M c := ⟨_, rfl⟩
    have e : rankR m = (((res.1 : Nat) : Int), true) := by simp [rankR, hg, hM, hc, hres]
    rw [e]
    rw [← hc] at hsh f3 f4
    have hll : ∀ i, i < m.length → (m.getD i []).length ≤ 1048576 := fun i hi => by have := (f5 i hi).1; rw [← hc] at this; omega
    obtain ⟨n, hn⟩ : ∃ n, n = m.length := ⟨_, rfl⟩
    rw [← hn] at hsh f1 f2
    have CM := hide hcm
    have SH := hide hsh
    have LL := hide hll
    have RS := hide hres
    have HN := hide hn
    clear hg hM hcm hsh hc e f5 hll hres hn
    go_enter Tryd.func31, Tryd.ntmps31
    go_wp2_with fail
    refine (sGoodMatrix_calls _ m _ R.out).mono ?_
    rw [G.out]
    rintro e w1 ⟨rfl, rfl⟩
    go_wp2_with fail
    refine (l2Own_calls _ m _ R.out (by rw [← HN.out]; omega) LL.out).mono ?_
    rintro e w1 ⟨va, rfl, hma, hb1⟩
    have MA := hide hma
    have B1 := hide hb1
    clear hma hb1
    go_wp2_with fail
    refine (l2Own_calls _ m _ (R.out.below B1.out) (by rw [← HN.out]; omega) LL.out).mono ?_
    rintro e w2 ⟨vs, rfl, hms, hb2⟩
    have hma2 := MA.out.below hb2
    rw [← CM.out] at hma2 hms
    have B2 := hide (B1.out.trans (hb2.mono B1.out.size))
    obtain ⟨xa, xc, hva⟩ : ∃ a c, va = .slice a n c := by
      obtain ⟨vv, h⟩ := hma2
      obtain ⟨g, cap, hv, _⟩ := h.open (by rw [Gf.ciM_length, SH.out.len]; omega)
      rw [Gf.ciM_length, SH.out.len] at hv
      exact ⟨_, _, hv⟩
    subst hva
    have MA2 := hide hma2
    have MS2 := hide hms
    have hlo : w.heap.size ≤ w1.heap.size := B1.out.size
    clear hma2 hms hb2 MA
    go_wp2
    go_loopw [6, 7] (fun vd vk wr => ∃ k d : Nat, ∃ A S : List (List Nat), k ≤ c ∧ d ≤ n ∧ redM M k = (d, A) ∧ Sh S n c ∧ vk = .int .i64 k ∧ vd = .int .i64 d ∧ Mat wr w.heap.size w1.heap.size (.slice xa n xc) (ciM A) ∧ Mat wr w1.heap.size w2.heap.size vs (ciM S) ∧ Chg w.heap.size w2.heap.size w2 wr) (fun _ vk _ => c - (intOf vk).toNat)
    case atStart => exact ⟨0, 0, M, M, Nat.zero_le _, Nat.zero_le _, rfl, SH.out, rfl, rfl, MA2.out, MS2.out, Chg.refl _ _ _⟩
    case round =>
      obtain ⟨k, d, A, S, hk, hd, hr, hss, rfl, rfl, hM, hS, hC⟩ := hrel
      have hsa := (SH.out.red k).1
      rw [hr] at hsa
      have SA := hide hsa
      have SS := hide hss
      have HR := hide hr
      have MH := hide hM
      have MS := hide hS
      have C := hide hC
      obtain ⟨vv, hV⟩ := hM
      obtain ⟨g, cap', hv, _, _, _, _⟩ := hV.open (by rw [Gf.ciM_length, hsa.len]; omega)
      rw [Gf.ciM_length, hsa.len] at hv
      simp only [Value.slice.injEq, true_and] at hv
      obtain ⟨rfl, rfl⟩ := hv
      have hc0 := hV.cell 0 (by rw [Gf.ciM_length, hsa.len]; omega)
      have hro := hV.row 0 (by rw [Gf.ciM_length, hsa.len]; omega)
      rw [Gf.ciM_get] at hro
      obtain ⟨g2, cap2, hu, _, _, _, _⟩ := hro.open1 (by rw [Gf.ci_length, hsa.row 0 (by omega)]; omega)
      rw [Gf.ci_length, hsa.row 0 (by omega)] at hu
      rw [hu] at hc0
      have hn0 : (0 : Int) < (n : Int) := by omega
      clear hr hss hsa hS hC hV hro hu
      have done : (¬ k < c ∨ ¬ d < n) → res = (d, A) := by
        intro hh
        rw [RS.out]
        rcases hh with hh | hh
        · obtain rfl : k = c := by omega
          exact HR.out
        · obtain ⟨j, hj⟩ : ∃ j, c = k + j := ⟨c - k, by omega⟩
          rw [hj, Gf.redM_stop (by rw [HR.out, SH.out.len]; simp only []; omega), HR.out]
      have DN := hide done
      clear done
      by_cases hlt : k < c
      · have hlt' : (k : Int) < (c : Int) := by omega
        by_cases hdn : d < n
        · have hdn' : (d : Int) < (n : Int) := by omega
          go_wp2_with fail
          refine (l2Clear_calls _ vs A S n c c d k w.heap.size w1.heap.size w1.heap.size w2.heap.size _ MH.out MS.out SA.out SS.out hdn hlt (by omega) (by omega) (by omega) (by omega) (Nat.le_refl _)).mono ?_
          obtain ⟨pv, hpv⟩ : ∃ pv, pv = piv A d k := ⟨_, rfl⟩
          rw [← hpv]
          have PV := hide hpv
          rintro e w3 ⟨rfl, hm3, hs3, hc3⟩
          have M3 := hide hm3
          have S3 := hide hs3
          have C3 := hide (C.out.trans hc3)
          clear hm3 hs3 hc3
          cases pv with
          | none =>
            clear hpv
            go_wp2
            go_roundw
            case rel =>
              refine ⟨k + 1, d, A, S, by omega, hd, ?_, SS.out, by go_num, rfl, M3.out, S3.out, C3.out⟩
              rw [Gf.redM, HR.out, SH.out.len, if_pos hdn]
              simp only []
              rw [← PV.out]
            case measure => simp [intOf]; omega
          | some p =>
            have hp := Gf.piv_facts hpv.symm
            rw [SA.out.len] at hp
            have hpn : p < n := hp.2.1
            clear hpv hp
            go_wp2
            go_roundw
            case rel =>
              refine ⟨k + 1, d + 1, clr A d k p, _, by omega, by omega, ?_, ?_, by go_num, by go_num, M3.out, S3.out, C3.out⟩
              · rw [Gf.redM, HR.out, SH.out.len, if_pos hdn]
                simp only []
                rw [← PV.out]
              · exact SS.out.op hdn hpn (fun i => (SA.out.swap d p hdn hpn).elt i k)
            case measure => simp [intOf]; omega
        · go_wp2
          go_ret2
          have := DN.out (.inr hdn)
          rw [this]
          exact ⟨rfl, B2.out.trans (C.out.below (Nat.le_refl _) B2.out.size)⟩
      · go_wp2
        go_ret2
        have := DN.out (.inl hlt)
        rw [this]
        exact ⟨rfl, B2.out.trans (C.out.below (Nat.le_refl _) B2.out.size)⟩
end Go.Proofs.YtfhaffegogdmeaaDoor

/-
  The law that holds the program's division of polynomials against its model's: at every two lists that can be read the call returns true, and nothing that was there is written. The program's table of rests must hold its seven numbers.
-/
import Derived.Test.YtoipcoidcaijjaaDoorSDivPoly
namespace Go.Proofs.YtoipcoidcaijjaaDoor
open Go.RowKit
namespace Gf

theorem divPoly_calls (pv qv : Value) (xs ys : List Int) (w : World) (hT : Tab w) (hp : Rd w pv xs) (hq : Rd w qv ys) :
    Calls Tryd.prog 20 #[pv, qv] w fun e w' => ∃ v1 v2, e = .returned (.tuple #[v1, v2, .bool (divR xs ys).2.2]) ∧ Two w w' v1 v2 (divR xs ys).1 (divR xs ys).2.1 := by
  by_cases h : goodP xs = true ∧ goodP ys = true ∧ ys.length ≠ 0
  · by_cases hs : xs.length < ys.length
    · rw [divR_short h.1 h.2.1 h.2.2 hs]
      exact (divPoly_short pv qv xs ys w hp hq h.1 h.2.1 h.2.2 hs).mono fun e w' ⟨v2, he, ho, hb⟩ => ⟨_, v2, he, Two.nil1 ho hb⟩
    · rw [divR_yes h.1 h.2.1 h.2.2 hs]
      exact divPoly_yes pv qv xs ys w hT hp hq h.1 h.2.1 h.2.2 hs
  · rw [divR_no h]
    exact (divPoly_no pv qv xs ys w hp hq h).mono fun e w' ⟨he, hw⟩ => ⟨_, _, he, hw ▸ Two.nil1 (own_nil _ _) (Below.refl _ _)⟩
theorem sDivPoly_calls (pv qv : Value) (xs ys : List Int) (w : World) (hp : Rd w pv xs) (hq : Rd w qv ys) :
    Calls Tryd.prog 21 #[pv, qv] w fun e w' => ∃ v1 v2, e = .returned (.tuple #[v1, v2, .bool (divR xs ys).2.2]) ∧ Two w w' v1 v2 (divR xs ys).1 (divR xs ys).2.1 := by
  by_cases h : goodP xs = true ∧ goodP ys = true ∧ ys.length ≠ 0
  · have hy := sDivPoly_yes pv qv xs ys w hp hq h.1 h.2.1 h.2.2
    by_cases hs : xs.length < ys.length
    · rw [divR_short h.1 h.2.1 h.2.2 hs]
      have e : steps xs ys = 0 := by unfold steps; rw [if_pos hs]
      rw [e] at hy
      have e1 : cutL (ci (dv (nat xs) (nat ys) (xs.length - ys.length) xs.length 0).2) = [] := cutL_zeros _
      have e2 : ci (dv (nat xs) (nat ys) (xs.length - ys.length) xs.length 0).1 = xs := ci_nat (goodP_mem h.1)
      rw [e1, e2] at hy
      exact hy
    · rw [divR_yes h.1 h.2.1 h.2.2 hs]
      have h0 : 0 < ys.length := by omega
      have e : steps xs ys = xs.length - ys.length + 1 := by unfold steps; rw [if_neg hs]
      rw [e, cut_dv h.1 h.2.1 h0 (by omega), dv_same1 h0 (by omega)] at hy
      exact hy
  · rw [divR_no h]
    exact (sDivPoly_no pv qv xs ys w hp hq h).mono fun e w' ⟨he, hw⟩ => ⟨_, _, he, hw ▸ Two.nil1 (own_nil _ _) (Below.refl _ _)⟩
end Gf

set_option maxRecDepth 100000 in
set_option maxHeartbeats 3200000 in
theorem fnExactDivPoly_walk (a : Option Addr) (len cap : Nat) (zs : List Int) (a' : Option Addr) (len' cap' : Nat) (zs' : List Int) (w : World) (hT : Gf.Tab w) (hr0 : Frame.IsRow .i64 w a len cap zs) (hr1 : Frame.IsRow .i64 w a' len' cap' zs') :
    Calls Tryd.prog 9 #[.slice a len cap, .slice a' len' cap'] w fun e w' => e = .returned (.bool true) ∧ Below w.heap.size w w' := by
  have hR := IsRow.rd hr0
  have hR' := IsRow.rd hr1
  obtain ⟨xs, hxs⟩ : ∃ xs, xs = zs.take len := ⟨_, rfl⟩
  obtain ⟨ys, hys⟩ : ∃ ys, ys = zs'.take len' := ⟨_, rfl⟩
  rw [← hxs] at hR
  rw [← hys] at hR'
  clear hxs hys hr0 hr1
  have hl : xs.length = len := by
    obtain ⟨a1, cap1, hv, _⟩ := hR
    simp at hv
    exact hv.2.1.symm
  have hl' : ys.length = len' := by
    obtain ⟨a1, cap1, hv, _⟩ := hR'
    simp at hv
    exact hv.2.1.symm
  subst hl hl'
  by_cases hx : xs.length ≤ 1048576
  case neg =>
    have h' : (1048576 : Int) < (xs.length : Int) := by omega
    go_enter Tryd.func9, Tryd.ntmps9
    go_wp2
    go_ret
    exact ⟨rfl, Below.refl _ _⟩
  have h1 : ¬ (1048576 : Int) < (xs.length : Int) := by omega
  by_cases hy : ys.length ≤ 1048576
  case neg =>
    have h' : (1048576 : Int) < (ys.length : Int) := by omega
    go_enter Tryd.func9, Tryd.ntmps9
    go_wp2
    go_ret
    exact ⟨rfl, Below.refl _ _⟩
  have h2 : ¬ (1048576 : Int) < (ys.length : Int) := by omega
  have P := hide hR
  have Q := hide hR'
  have T := hide hT
  clear hR hR' hT
  have step : ∃ (r1 r2 : List Int) (ok : Bool), r1.length ≤ 1048576 ∧ r2.length ≤ 1048576 ∧ (∀ w2 v u, Rd w2 v xs → Rd w2 u ys → Calls Tryd.prog 21 #[v, u] w2 fun e w' => ∃ v1 v2, e = .returned (.tuple #[v1, v2, .bool ok]) ∧ Two w2 w' v1 v2 r1 r2) ∧
      (∀ w2 v u, Gf.Tab w2 → Rd w2 v xs → Rd w2 u ys → Calls Tryd.prog 20 #[v, u] w2 fun e w' => ∃ v1 v2, e = .returned (.tuple #[v1, v2, .bool ok]) ∧ Two w2 w' v1 v2 r1 r2) :=
    ⟨_, _, _, (Gf.divR_len xs ys).1, (Gf.divR_len xs ys).2, fun w2 v u h h' => Gf.sDivPoly_calls v u xs ys w2 h h', fun w2 v u ht h h' => Gf.divPoly_calls v u xs ys w2 ht h h'⟩
  obtain ⟨r1, r2, ok, hr1, hr2, hs, hi⟩ := step
  have HS := hide hs
  have HI := hide hi
  clear hs hi
  have S0 := hide (Sys.start w)
  go_enter Tryd.func9, Tryd.ntmps9
  go_wp2_with fail
  refine (toIntS_calls _ xs _ (P.out.below S0.out.below) hx).mono ?_
  rintro e w1 ⟨p1, rfl, o, b⟩
  have S1 := hide (S0.out.add b o)
  clear o b S0
  go_wp2_with fail
  refine (toIntS_calls _ ys _ (Q.out.below S1.out.below) hy).mono ?_
  rintro e w2 ⟨q1, rfl, o, b⟩
  have S2 := hide (S1.out.add b o)
  clear o b S1
  go_wp2_with fail
  refine (HS.out _ p1 q1 (S2.out.rd 1 rfl) (S2.out.rd 0 rfl)).mono ?_
  rintro e w3 ⟨u0, u1, rfl, o⟩
  have S3 := hide (S2.out.add2 o)
  clear o S2
  go_wp2_with fail
  refine (toIntS_calls _ xs _ (P.out.below S3.out.below) hx).mono ?_
  rintro e w4 ⟨x0, rfl, o, b⟩
  have S4 := hide (S3.out.add b o)
  clear o b S3
  go_wp2_with fail
  refine (toIntS_calls _ ys _ (Q.out.below S4.out.below) hy).mono ?_
  rintro e w5 ⟨x1, rfl, o, b⟩
  have S5 := hide (S4.out.add b o)
  clear o b S4
  go_wp2_with fail
  refine (HI.out _ x0 x1 (T.out.below S5.out.below) (S5.out.rd 1 rfl) (S5.out.rd 0 rfl)).mono ?_
  rintro e w6 ⟨g0, g1, rfl, o⟩
  have S6 := hide (S5.out.add2 o)
  clear o S5
  go_wp2_with fail
  refine (eqIntS_same g0 u0 r1 _ (S6.out.rd 1 rfl) (S6.out.rd 5 rfl)).mono ?_
  rintro e w7 ⟨rfl, b⟩
  have S7 := hide (S6.out.step b)
  clear b S6
  go_wp2_with fail
  refine (eqIntS_same g1 u1 r2 _ (S7.out.rd 0 rfl) (S7.out.rd 4 rfl)).mono ?_
  rintro e w8 ⟨rfl, b⟩
  have S8 := hide (S7.out.step b)
  clear b S7
  go_wp2_with fail
  refine (toIntS_calls _ xs _ (P.out.below S8.out.below) hx).mono ?_
  rintro e w9 ⟨y0, rfl, o, b⟩
  have S9 := hide (S8.out.add b o)
  clear o b S8
  go_wp2_with fail
  refine (eqIntS_same x0 y0 xs _ (S9.out.rd 4 rfl) (S9.out.rd 0 rfl)).mono ?_
  rintro e w10 ⟨rfl, b⟩
  have S10 := hide (S9.out.step b)
  clear b S9
  go_wp2_with fail
  refine (toIntS_calls _ ys _ (Q.out.below S10.out.below) hy).mono ?_
  rintro e w11 ⟨y1, rfl, o, b⟩
  have S11 := hide (S10.out.add b o)
  clear o b S10
  go_wp2_with fail
  refine (eqIntS_same x1 y1 ys _ (S11.out.rd 4 rfl) (S11.out.rd 0 rfl)).mono ?_
  rintro e w12 ⟨rfl, b⟩
  have S12 := hide (S11.out.step b)
  clear b S11
  go_wp2_with fail
  refine (markIntS_calls x0 xs 1 w.heap.size _ (S12.out.own 5 _ _ rfl) (by omega) (by omega) hx).mono ?_
  rintro e w13 ⟨rfl, o, g⟩
  have S13 := hide (S12.out.mark 5 rfl o g)
  clear o g S12
  go_wp2_with fail
  refine (markIntS_calls x1 ys (1 + (xs.length : Int)) w.heap.size _ (S13.out.own 4 _ _ rfl) (by omega) (by omega) hy).mono ?_
  rintro e w14 ⟨rfl, o, g⟩
  have S14 := hide (S13.out.mark 4 rfl o g)
  clear o g S13
  go_wp2_with fail
  refine (eqIntS_same g0 u0 r1 _ (S14.out.rd 3 rfl) (S14.out.rd 7 rfl)).mono ?_
  rintro e w15 ⟨rfl, b⟩
  have S15 := hide (S14.out.step b)
  clear b S14
  go_wp2_with fail
  refine (eqIntS_same g1 u1 r2 _ (S15.out.rd 2 rfl) (S15.out.rd 6 rfl)).mono ?_
  rintro e w16 ⟨rfl, b⟩
  have S16 := hide (S15.out.step b)
  clear b S15
  go_wp2_with fail
  refine (markIntS_calls g0 r1 1 w.heap.size _ (S16.out.own 3 _ _ rfl) (by omega) (by omega) hr1).mono ?_
  rintro e w17 ⟨rfl, o, g⟩
  have S17 := hide (S16.out.mark 3 rfl o g)
  clear o g S16
  go_wp2_with fail
  refine (markIntS_calls g1 r2 (1 + (r1.length : Int)) w.heap.size _ (S17.out.own 2 _ _ rfl) (by omega) (by omega) hr2).mono ?_
  rintro e w18 ⟨rfl, o, g⟩
  have S18 := hide (S17.out.mark 2 rfl o g)
  clear o g S17
  go_wp2_with fail
  refine (heldIntS_calls g0 r1.length 1 _ (S18.out.rd 3 rfl) (by omega) (by omega) hr1).mono ?_
  rintro e w19 ⟨rfl, rfl⟩
  go_wp2_with fail
  refine (heldIntS_calls g1 r2.length (1 + (r1.length : Int)) _ (S18.out.rd 2 rfl) (by omega) (by omega) hr2).mono ?_
  rintro e w20 ⟨rfl, rfl⟩
  go_wp2_with fail
  refine (toIntS_calls _ xs _ (P.out.below S18.out.below) hx).mono ?_
  rintro e w21 ⟨p2, rfl, o, b⟩
  have S21 := hide (S18.out.add b o)
  clear o b S18
  go_wp2_with fail
  refine (toIntS_calls _ ys _ (Q.out.below S21.out.below) hy).mono ?_
  rintro e w22 ⟨q2, rfl, o, b⟩
  have S22 := hide (S21.out.add b o)
  clear o b S21
  go_wp2_with fail
  refine (HI.out _ p2 q2 (T.out.below S22.out.below) (S22.out.rd 1 rfl) (S22.out.rd 0 rfl)).mono ?_
  rintro e w23 ⟨h0, h1, rfl, o⟩
  have S23 := hide (S22.out.add2 o)
  clear o S22
  go_wp2_with fail
  refine (eqIntS_same h0 u0 r1 _ (S23.out.rd 1 rfl) (S23.out.rd 11 rfl)).mono ?_
  rintro e w24 ⟨rfl, b⟩
  have S24 := hide (S23.out.step b)
  clear b S23
  go_wp2_with fail
  refine (eqIntS_same h1 u1 r2 _ (S24.out.rd 0 rfl) (S24.out.rd 10 rfl)).mono ?_
  rintro e w25 ⟨rfl, b⟩
  have S25 := hide (S24.out.step b)
  clear b S24
  go_wp2_with fail
  refine (heldIntS_calls g0 r1.length 1 _ (S25.out.rd 7 rfl) (by omega) (by omega) hr1).mono ?_
  rintro e w26 ⟨rfl, rfl⟩
  go_wp2_with fail
  refine (heldIntS_calls g1 r2.length (1 + (r1.length : Int)) _ (S25.out.rd 6 rfl) (by omega) (by omega) hr2).mono ?_
  rintro e w27 ⟨rfl, rfl⟩
  go_wp2
  go_ret
  exact ⟨rfl, S25.out.below⟩
end Go.Proofs.YtoipcoidcaijjaaDoor

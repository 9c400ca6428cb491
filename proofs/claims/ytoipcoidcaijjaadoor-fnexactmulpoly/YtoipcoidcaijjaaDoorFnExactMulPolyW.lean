/-
  The law that holds the program's product of polynomials against its model's: at every two lists that can be read the call returns true, and nothing that was there is written. The program's table of rests must hold its seven numbers.
-/
import Derived.Test.YtoipcoidcaijjaaDoorMulPoly
import Derived.Test.YtoipcoidcaijjaaDoorSys
namespace Go.Proofs.YtoipcoidcaijjaaDoor
open Go.RowKit

theorem Gf.mulR_len (xs ys : List Int) : (Gf.mulR xs ys).1.length ≤ 1048576 := by
  unfold Gf.mulR
  split
  · split
    · simp
    · split
      · simp
      · simp only [Gf.ci_length, Gf.mp_length, List.length_replicate]; omega
  · simp

set_option maxRecDepth 100000 in
set_option maxHeartbeats 3200000 in
theorem fnExactMulPoly_walk (a : Option Addr) (len cap : Nat) (zs : List Int) (a' : Option Addr) (len' cap' : Nat) (zs' : List Int) (w : World) (hT : Gf.Tab w) (hr0 : Frame.IsRow .i64 w a len cap zs) (hr1 : Frame.IsRow .i64 w a' len' cap' zs') :
    Calls Tryd.prog 8 #[.slice a len cap, .slice a' len' cap'] w fun e w' => e = .returned (.bool true) ∧ Below w.heap.size w w' := by
  have hR := IsRow.rd hr0
  have hR' := IsRow.rd hr1
  obtain ⟨xs, hxs⟩ : ∃ xs, xs = zs.take len := ⟨_, rfl⟩
  obtain ⟨ys, hys⟩ : ∃ ys, ys = zs'.take len' := ⟨_, rfl⟩
  rw [← hxs] at hR
  rw [← hys] at hR'
  clear hxs hys hr0 hr1
  have hl : xs.length = len := by
    obtain ⟨a1, cap1, hv, _⟩ := hR
    simp at hv
    exact hv.2.1.symm
  have hl' : ys.length = len' := by
    obtain ⟨a1, cap1, hv, _⟩ := hR'
    simp at hv
    exact hv.2.1.symm
  subst hl hl'
  by_cases hx : xs.length ≤ 1048576
  case neg =>
    have h' : (1048576 : Int) < (xs.length : Int) := by omega
    go_enter Tryd.func8, Tryd.ntmps8
    go_wp2
    go_ret
    exact ⟨rfl, Below.refl _ _⟩
  have h1 : ¬ (1048576 : Int) < (xs.length : Int) := by omega
  by_cases hy : ys.length ≤ 1048576
  case neg =>
    have h' : (1048576 : Int) < (ys.length : Int) := by omega
    go_enter Tryd.func8, Tryd.ntmps8
    go_wp2
    go_ret
    exact ⟨rfl, Below.refl _ _⟩
  have h2 : ¬ (1048576 : Int) < (ys.length : Int) := by omega
  have P := hide hR
  have Q := hide hR'
  have T := hide hT
  clear hR hR' hT
  have step : ∃ (r : List Int) (ok : Bool), r.length ≤ 1048576 ∧ (∀ w2 v u, Rd w2 v xs → Rd w2 u ys → Calls Tryd.prog 28 #[v, u] w2 fun e w' => ∃ v', e = .returned (.tuple #[v', .bool ok]) ∧ Own w' w2.heap.size v' r ∧ Below w2.heap.size w2 w') ∧
      (∀ w2 v u, Gf.Tab w2 → Rd w2 v xs → Rd w2 u ys → Calls Tryd.prog 27 #[v, u] w2 fun e w' => ∃ v', e = .returned (.tuple #[v', .bool ok]) ∧ Own w' w2.heap.size v' r ∧ Below w2.heap.size w2 w') :=
    ⟨_, _, Gf.mulR_len xs ys, fun w2 v u h h' => Gf.sMulPoly_calls v u xs ys w2 h h', fun w2 v u ht h h' => Gf.mulPoly_calls v u xs ys w2 ht h h'⟩
  obtain ⟨r, ok, hr, hs, hi⟩ := step
  have HS := hide hs
  have HI := hide hi
  clear hs hi
  have S0 := hide (Sys.start w)
  go_enter Tryd.func8, Tryd.ntmps8
  go_wp2_with fail
  refine (toIntS_calls _ xs _ (P.out.below S0.out.below) hx).mono ?_
  rintro e w1 ⟨p1, rfl, o, b⟩
  have S1 := hide (S0.out.add b o)
  clear o b S0
  go_wp2_with fail
  refine (toIntS_calls _ ys _ (Q.out.below S1.out.below) hy).mono ?_
  rintro e w2 ⟨q1, rfl, o, b⟩
  have S2 := hide (S1.out.add b o)
  clear o b S1
  go_wp2_with fail
  refine (HS.out _ p1 q1 (S2.out.rd 1 rfl) (S2.out.rd 0 rfl)).mono ?_
  rintro e w3 ⟨w0, rfl, o, b⟩
  have S3 := hide (S2.out.add b o)
  clear o b S2
  go_wp2_with fail
  refine (toIntS_calls _ xs _ (P.out.below S3.out.below) hx).mono ?_
  rintro e w4 ⟨x0, rfl, o, b⟩
  have S4 := hide (S3.out.add b o)
  clear o b S3
  go_wp2_with fail
  refine (toIntS_calls _ ys _ (Q.out.below S4.out.below) hy).mono ?_
  rintro e w5 ⟨x1, rfl, o, b⟩
  have S5 := hide (S4.out.add b o)
  clear o b S4
  go_wp2_with fail
  refine (HI.out _ x0 x1 (T.out.below S5.out.below) (S5.out.rd 1 rfl) (S5.out.rd 0 rfl)).mono ?_
  rintro e w6 ⟨g0, rfl, o, b⟩
  have S6 := hide (S5.out.add b o)
  clear o b S5
  go_wp2_with fail
  refine (eqIntS_same g0 w0 r _ (S6.out.rd 0 rfl) (S6.out.rd 3 rfl)).mono ?_
  rintro e w7 ⟨rfl, b⟩
  have S7 := hide (S6.out.step b)
  clear b S6
  go_wp2_with fail
  refine (toIntS_calls _ xs _ (P.out.below S7.out.below) hx).mono ?_
  rintro e w8 ⟨y0, rfl, o, b⟩
  have S8 := hide (S7.out.add b o)
  clear o b S7
  go_wp2_with fail
  refine (eqIntS_same x0 y0 xs _ (S8.out.rd 3 rfl) (S8.out.rd 0 rfl)).mono ?_
  rintro e w9 ⟨rfl, b⟩
  have S9 := hide (S8.out.step b)
  clear b S8
  go_wp2_with fail
  refine (toIntS_calls _ ys _ (Q.out.below S9.out.below) hy).mono ?_
  rintro e w10 ⟨y1, rfl, o, b⟩
  have S10 := hide (S9.out.add b o)
  clear o b S9
  go_wp2_with fail
  refine (eqIntS_same x1 y1 ys _ (S10.out.rd 3 rfl) (S10.out.rd 0 rfl)).mono ?_
  rintro e w11 ⟨rfl, b⟩
  have S11 := hide (S10.out.step b)
  clear b S10
  go_wp2_with fail
  refine (markIntS_calls x0 xs 1 w.heap.size _ (S11.out.own 4 _ _ rfl) (by omega) (by omega) hx).mono ?_
  rintro e w12 ⟨rfl, o, g⟩
  have S12 := hide (S11.out.mark 4 rfl o g)
  clear o g S11
  go_wp2_with fail
  refine (markIntS_calls x1 ys (1 + (xs.length : Int)) w.heap.size _ (S12.out.own 3 _ _ rfl) (by omega) (by omega) hy).mono ?_
  rintro e w13 ⟨rfl, o, g⟩
  have S13 := hide (S12.out.mark 3 rfl o g)
  clear o g S12
  go_wp2_with fail
  refine (eqIntS_same g0 w0 r _ (S13.out.rd 2 rfl) (S13.out.rd 5 rfl)).mono ?_
  rintro e w14 ⟨rfl, b⟩
  have S14 := hide (S13.out.step b)
  clear b S13
  go_wp2_with fail
  refine (markIntS_calls g0 r 1 w.heap.size _ (S14.out.own 2 _ _ rfl) (by omega) (by omega) hr).mono ?_
  rintro e w15 ⟨rfl, o, g⟩
  have S15 := hide (S14.out.mark 2 rfl o g)
  clear o g S14
  go_wp2_with fail
  refine (heldIntS_calls g0 r.length 1 _ (S15.out.rd 2 rfl) (by omega) (by omega) hr).mono ?_
  rintro e w16 ⟨rfl, rfl⟩
  go_wp2_with fail
  refine (toIntS_calls _ xs _ (P.out.below S15.out.below) hx).mono ?_
  rintro e w17 ⟨p2, rfl, o, b⟩
  have S17 := hide (S15.out.add b o)
  clear o b S15
  go_wp2_with fail
  refine (toIntS_calls _ ys _ (Q.out.below S17.out.below) hy).mono ?_
  rintro e w18 ⟨q2, rfl, o, b⟩
  have S18 := hide (S17.out.add b o)
  clear o b S17
  go_wp2_with fail
  refine (HI.out _ p2 q2 (T.out.below S18.out.below) (S18.out.rd 1 rfl) (S18.out.rd 0 rfl)).mono ?_
  rintro e w19 ⟨h0, rfl, o, b⟩
  have S19 := hide (S18.out.add b o)
  clear o b S18
  go_wp2_with fail
  refine (eqIntS_same h0 w0 r _ (S19.out.rd 0 rfl) (S19.out.rd 8 rfl)).mono ?_
  rintro e w20 ⟨rfl, b⟩
  have S20 := hide (S19.out.step b)
  clear b S19
  go_wp2_with fail
  refine (heldIntS_calls g0 r.length 1 _ (S20.out.rd 5 rfl) (by omega) (by omega) hr).mono ?_
  rintro e w21 ⟨rfl, rfl⟩
  go_wp2
  go_ret
  exact ⟨rfl, S20.out.below⟩
end Go.Proofs.YtoipcoidcaijjaaDoor

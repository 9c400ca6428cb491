/-
  The law that holds the program's CauchyMatrix against its model's: at all arguments that can be read the call returns true, and nothing that was there is written. The program's table of rests must hold its seven numbers.
-/
import Derived.Test.YtoipcoidcaijjaaDoorCauP
namespace Go.Proofs.YtoipcoidcaijjaaDoor
open Go.RowKit

set_option maxRecDepth 100000 in
set_option maxHeartbeats 3200000 in
theorem fnExactCauchyMatrix_walk (vx : Value) (x : List Int) (vy : Value) (y : List Int) (w : World) (hT : Gf.Tab w) (hx : Rd w vx x) (hy : Rd w vy y) :
    Calls Tryd.prog 11 #[vx, vy] w fun e w' => e = .returned (.bool true) ∧ Below w.heap.size w w' := by
  have Px := hide hx
  obtain ⟨ax, capx, rfl, _⟩ := hx
  have Py := hide hy
  obtain ⟨ay, capy, rfl, _⟩ := hy
  have T := hide hT
  clear hT
  by_cases hnx : x.length ≤ 1048576
  case neg =>
    have h' : (1048576 : Int) < (x.length : Int) := by omega
    go_enter Tryd.func11, Tryd.ntmps11
    go_wp2
    go_ret
    exact ⟨rfl, Below.refl _ _⟩
  have hnx' : ¬ (1048576 : Int) < (x.length : Int) := by omega
  by_cases hny : y.length ≤ 1048576
  case neg =>
    have h' : (1048576 : Int) < (y.length : Int) := by omega
    go_enter Tryd.func11, Tryd.ntmps11
    go_wp2
    go_ret
    exact ⟨rfl, Below.refl _ _⟩
  have hny' : ¬ (1048576 : Int) < (y.length : Int) := by omega
  have S0 := hide (Hands.start w)
  go_enter Tryd.func11, Tryd.ntmps11
  go_wp2_with fail
  refine (toIntS_calls _ x _ (Px.out.below S0.out.below) hnx).mono ?_
  rintro e w1 ⟨tx, rfl, o, b⟩
  have S1 := hide (S0.out.addI b o)
  clear o b S0
  go_wp2_with fail
  refine (toIntS_calls _ y _ (Py.out.below S1.out.below) hny).mono ?_
  rintro e w2 ⟨ty, rfl, o, b⟩
  have S2 := hide (S1.out.addI b o)
  clear o b S1
  go_wp2_with fail
  refine (sCauchy_calls _ _ x y _ (S2.out.rdI 1 rfl) (S2.out.rdI 0 rfl) hnx hny).mono ?_
  rintro e w3 ⟨w0, rfl, o, b⟩
  have S3 := hide (S2.out.addM b o)
  clear o b S2
  go_wp2_with fail
  refine (toIntS_calls _ x _ (Px.out.below S3.out.below) hnx).mono ?_
  rintro e w4 ⟨xx, rfl, o, b⟩
  have S4 := hide (S3.out.addI b o)
  clear o b S3
  go_wp2_with fail
  refine (toIntS_calls _ y _ (Py.out.below S4.out.below) hny).mono ?_
  rintro e w5 ⟨xy, rfl, o, b⟩
  have S5 := hide (S4.out.addI b o)
  clear o b S4
  go_wp2_with fail
  refine (cauchy_calls _ _ x y _ (Gf.Tab.below T.out S5.out.below) (S5.out.rdI 1 rfl) (S5.out.rdI 0 rfl)).mono ?_
  rintro e w6 ⟨g0, rfl, o, b⟩
  have S6 := hide (S5.out.addM b o)
  clear o b S5
  go_wp2_with fail
  refine (eqIntSS_same g0 w0 (cauR x y).1 _ (S6.out.rdM 0 rfl) (S6.out.rdM 3 rfl)).mono ?_
  rintro e w7 ⟨rfl, b⟩
  have S7 := hide (S6.out.step b)
  clear b S6
  go_wp2_with fail
  refine (toIntS_calls _ x _ (Px.out.below S7.out.below) hnx).mono ?_
  rintro e w8 ⟨yx, rfl, o, b⟩
  have S8 := hide (S7.out.addI b o)
  clear o b S7
  go_wp2_with fail
  refine (eqIntS_same xx yx x _ (S8.out.rdI 3 rfl) (S8.out.rdI 0 rfl)).mono ?_
  rintro e w9 ⟨rfl, b⟩
  have S9 := hide (S8.out.step b)
  clear b S8
  go_wp2_with fail
  refine (toIntS_calls _ y _ (Py.out.below S9.out.below) hny).mono ?_
  rintro e w10 ⟨yy, rfl, o, b⟩
  have S10 := hide (S9.out.addI b o)
  clear o b S9
  go_wp2_with fail
  refine (eqIntS_same xy yy y _ (S10.out.rdI 3 rfl) (S10.out.rdI 0 rfl)).mono ?_
  rintro e w11 ⟨rfl, b⟩
  have S11 := hide (S10.out.step b)
  clear b S10
  obtain ⟨lo12, hi12, ok12, lb12, ub12, put12⟩ := S11.out.open 4 rfl
  have OK12 := hide ok12
  have PUT12 := hide put12
  clear ok12 put12 lb12 ub12
  go_wp2_with fail
  refine (markIntS_calls xx x 1 lo12 _ OK12.out.1 (by omega) (by omega) hnx).mono ?_
  rintro e w12 ⟨rfl, o, g⟩
  have S12 := hide (PUT12.out _ (.ints (marks 1 x.length)) ⟨o, OK12.out.2⟩ (Chg.ofGrown g (fun k hk => ⟨(World.ownsRow.lt OK12.out.1 k hk).1, OK12.out.2 k hk⟩)))
  clear o g S11 OK12 PUT12
  obtain ⟨lo13, hi13, ok13, lb13, ub13, put13⟩ := S12.out.open 3 rfl
  have OK13 := hide ok13
  have PUT13 := hide put13
  clear ok13 put13 lb13 ub13
  go_wp2_with fail
  refine (markIntS_calls xy y (1 + x.length) lo13 _ OK13.out.1 (by have := hnx; omega) (by have := hnx; omega) hny).mono ?_
  rintro e w13 ⟨rfl, o, g⟩
  have S13 := hide (PUT13.out _ (.ints (marks (1 + x.length) y.length)) ⟨o, OK13.out.2⟩ (Chg.ofGrown g (fun k hk => ⟨(World.ownsRow.lt OK13.out.1 k hk).1, OK13.out.2 k hk⟩)))
  clear o g S12 OK13 PUT13
  have kk : ¬ (((1 + x.length) + y.length) : Int) < 0 := by omega
  go_wp2_with fail
  refine (eqIntSS_same g0 w0 (cauR x y).1 _ (S13.out.rdM 2 rfl) (S13.out.rdM 5 rfl)).mono ?_
  rintro e w14 ⟨rfl, b⟩
  have S14 := hide (S13.out.step b)
  clear b S13
  obtain ⟨lo15, hi15, ok15, lb15, ub15, put15⟩ := S14.out.open 2 rfl
  have OK15 := hide ok15
  have PUT15 := hide put15
  clear ok15 put15 lb15 ub15
  go_wp2_with fail
  refine (markIntSS_calls g0 (cauR x y).1 1 lo15 hi15 _ OK15.out (by omega) (by omega) (cauR_tot x y)).mono ?_
  rintro e w15 ⟨rfl, o, g⟩
  have S15 := hide (PUT15.out _ (.mat (marksM 1 (cauR x y).1)) o g)
  clear o g S14 OK15 PUT15
  go_wp2_with fail
  refine (heldIntSS_calls g0 (cauR x y).1 1 _ (S15.out.rdM 2 rfl) (by omega) (by omega) (cauR_tot x y)).mono ?_
  rintro e w16 ⟨rfl, rfl⟩
  have qq : ¬ ((1 : Int) + (tot (cauR x y).1 : Nat) < 0) := by omega
  go_wp2_with fail
  refine (toIntS_calls _ x _ (Px.out.below S15.out.below) hnx).mono ?_
  rintro e w17 ⟨zx, rfl, o, b⟩
  have S17 := hide (S15.out.addI b o)
  clear o b S15
  go_wp2_with fail
  refine (toIntS_calls _ y _ (Py.out.below S17.out.below) hny).mono ?_
  rintro e w18 ⟨zy, rfl, o, b⟩
  have S18 := hide (S17.out.addI b o)
  clear o b S17
  go_wp2_with fail
  refine (cauchy_calls _ _ x y _ (Gf.Tab.below T.out S18.out.below) (S18.out.rdI 1 rfl) (S18.out.rdI 0 rfl)).mono ?_
  rintro e w19 ⟨h0, rfl, o, b⟩
  have S19 := hide (S18.out.addM b o)
  clear o b S18
  go_wp2_with fail
  refine (eqIntSS_same h0 w0 (cauR x y).1 _ (S19.out.rdM 0 rfl) (S19.out.rdM 8 rfl)).mono ?_
  rintro e w20 ⟨rfl, b⟩
  have S20 := hide (S19.out.step b)
  clear b S19
  go_wp2_with fail
  refine (heldIntSS_calls g0 (cauR x y).1 1 _ (S20.out.rdM 5 rfl) (by omega) (by omega) (cauR_tot x y)).mono ?_
  rintro e w21 ⟨rfl, rfl⟩
  go_wp2
  go_ret
  exact ⟨rfl, S20.out.below⟩
end Go.Proofs.YtoipcoidcaijjaaDoor

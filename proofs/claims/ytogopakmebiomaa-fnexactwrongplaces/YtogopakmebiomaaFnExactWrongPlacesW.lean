/-
  The law that holds the program's WrongPlaces against its model's: at all arguments that can be read the call returns true, and nothing that was there is written. No condition.
-/
import Derived.Test.YtogopakmebiomaaWrP
namespace Go.Proofs.Ytogopakmebiomaa
open Go.RowKit

set_option maxRecDepth 100000 in
set_option maxHeartbeats 3200000 in
theorem fnExactWrongPlaces_walk (va : Value) (a : List Int) (vb : Value) (b : List Int) (w : World) (ha : Rd w va a) (hb : Rd w vb b) :
    Calls Try.prog 3 #[va, vb] w fun e w' => e = .returned (.bool true) ∧ Below w.heap.size w w' := by
  have Pa := hide ha
  obtain ⟨aa, capa, rfl, _⟩ := ha
  have Pb := hide hb
  obtain ⟨ab, capb, rfl, _⟩ := hb
  by_cases hna : a.length ≤ 1048576
  case neg =>
    have h' : (1048576 : Int) < (a.length : Int) := by omega
    go_enter Try.func3, Try.ntmps3
    go_wp2
    go_ret
    exact ⟨rfl, Below.refl _ _⟩
  have hna' : ¬ (1048576 : Int) < (a.length : Int) := by omega
  by_cases hnb : b.length ≤ 1048576
  case neg =>
    have h' : (1048576 : Int) < (b.length : Int) := by omega
    go_enter Try.func3, Try.ntmps3
    go_wp2
    go_ret
    exact ⟨rfl, Below.refl _ _⟩
  have hnb' : ¬ (1048576 : Int) < (b.length : Int) := by omega
  have S0 := hide (Hands.start w)
  go_enter Try.func3, Try.ntmps3
  go_wp2_with fail
  refine (toIntS_calls _ a _ (Pa.out.below S0.out.below) hna).mono ?_
  rintro e w1 ⟨ta, rfl, o, b⟩
  have S1 := hide (S0.out.addI b o)
  clear o b S0
  go_wp2_with fail
  refine (toIntS_calls _ b _ (Pb.out.below S1.out.below) hnb).mono ?_
  rintro e w2 ⟨tb, rfl, o, b⟩
  have S2 := hide (S1.out.addI b o)
  clear o b S1
  go_wp2_with fail
  refine (sWrongPlaces_calls _ _ a b _ (S2.out.rdI 1 rfl) (S2.out.rdI 0 rfl)).mono ?_
  rintro e w3 ⟨w0, rfl, o, b⟩
  have S3 := hide (S2.out.addI b o)
  clear o b S2
  go_wp2_with fail
  refine (toIntS_calls _ a _ (Pa.out.below S3.out.below) hna).mono ?_
  rintro e w4 ⟨xa, rfl, o, b⟩
  have S4 := hide (S3.out.addI b o)
  clear o b S3
  go_wp2_with fail
  refine (toIntS_calls _ b _ (Pb.out.below S4.out.below) hnb).mono ?_
  rintro e w5 ⟨xb, rfl, o, b⟩
  have S5 := hide (S4.out.addI b o)
  clear o b S4
  go_wp2_with fail
  refine (wrongPlaces_calls _ _ a b _ (S5.out.rdI 1 rfl) (S5.out.rdI 0 rfl)).mono ?_
  rintro e w6 ⟨g0, rfl, o, b⟩
  have S6 := hide (S5.out.addI b o)
  clear o b S5
  go_wp2_with fail
  refine (eqIntS_same g0 w0 (wrpR a b).1 _ (S6.out.rdI 0 rfl) (S6.out.rdI 3 rfl)).mono ?_
  rintro e w7 ⟨rfl, b⟩
  have S7 := hide (S6.out.step b)
  clear b S6
  go_wp2_with fail
  refine (toIntS_calls _ a _ (Pa.out.below S7.out.below) hna).mono ?_
  rintro e w8 ⟨ya, rfl, o, b⟩
  have S8 := hide (S7.out.addI b o)
  clear o b S7
  go_wp2_with fail
  refine (eqIntS_same xa ya a _ (S8.out.rdI 3 rfl) (S8.out.rdI 0 rfl)).mono ?_
  rintro e w9 ⟨rfl, b⟩
  have S9 := hide (S8.out.step b)
  clear b S8
  go_wp2_with fail
  refine (toIntS_calls _ b _ (Pb.out.below S9.out.below) hnb).mono ?_
  rintro e w10 ⟨yb, rfl, o, b⟩
  have S10 := hide (S9.out.addI b o)
  clear o b S9
  go_wp2_with fail
  refine (eqIntS_same xb yb b _ (S10.out.rdI 3 rfl) (S10.out.rdI 0 rfl)).mono ?_
  rintro e w11 ⟨rfl, b⟩
  have S11 := hide (S10.out.step b)
  clear b S10
  obtain ⟨lo12, hi12, ok12, lb12, ub12, put12⟩ := S11.out.open 4 rfl
  have OK12 := hide ok12
  have PUT12 := hide put12
  clear ok12 put12 lb12 ub12
  go_wp2_with fail
  refine (markIntS_calls xa a 1 lo12 _ OK12.out.1 (by omega) (by omega) hna).mono ?_
  rintro e w12 ⟨rfl, o, g⟩
  have S12 := hide (PUT12.out _ (.ints (marks 1 a.length)) ⟨o, OK12.out.2⟩ (Chg.ofGrown g (fun k hk => ⟨(World.ownsRow.lt OK12.out.1 k hk).1, OK12.out.2 k hk⟩)))
  clear o g S11 OK12 PUT12
  obtain ⟨lo13, hi13, ok13, lb13, ub13, put13⟩ := S12.out.open 3 rfl
  have OK13 := hide ok13
  have PUT13 := hide put13
  clear ok13 put13 lb13 ub13
  go_wp2_with fail
  refine (markIntS_calls xb b (1 + a.length) lo13 _ OK13.out.1 (by have := hna; omega) (by have := hna; omega) hnb).mono ?_
  rintro e w13 ⟨rfl, o, g⟩
  have S13 := hide (PUT13.out _ (.ints (marks (1 + a.length) b.length)) ⟨o, OK13.out.2⟩ (Chg.ofGrown g (fun k hk => ⟨(World.ownsRow.lt OK13.out.1 k hk).1, OK13.out.2 k hk⟩)))
  clear o g S12 OK13 PUT13
  have kk : ¬ (((1 + a.length) + b.length) : Int) < 0 := by omega
  go_wp2_with fail
  refine (eqIntS_same g0 w0 (wrpR a b).1 _ (S13.out.rdI 2 rfl) (S13.out.rdI 5 rfl)).mono ?_
  rintro e w14 ⟨rfl, b⟩
  have S14 := hide (S13.out.step b)
  clear b S13
  obtain ⟨lo15, hi15, ok15, lb15, ub15, put15⟩ := S14.out.open 2 rfl
  have OK15 := hide ok15
  have PUT15 := hide put15
  clear ok15 put15 lb15 ub15
  go_wp2_with fail
  refine (markIntS_calls g0 (wrpR a b).1 1 lo15 _ OK15.out.1 (by omega) (by omega) (wrpR_len a b)).mono ?_
  rintro e w15 ⟨rfl, o, g⟩
  have S15 := hide (PUT15.out _ (.ints (marks 1 (wrpR a b).1.length)) ⟨o, OK15.out.2⟩ (Chg.ofGrown g (fun k hk => ⟨(World.ownsRow.lt OK15.out.1 k hk).1, OK15.out.2 k hk⟩)))
  clear o g S14 OK15 PUT15
  go_wp2_with fail
  refine (heldIntS_calls g0 (wrpR a b).1.length 1 _ (S15.out.rdI 2 rfl) (by omega) (by omega) (wrpR_len a b)).mono ?_
  rintro e w16 ⟨rfl, rfl⟩
  have qq : ¬ ((1 : Int) + ((wrpR a b).1.length : Nat) < 0) := by omega
  go_wp2_with fail
  refine (toIntS_calls _ a _ (Pa.out.below S15.out.below) hna).mono ?_
  rintro e w17 ⟨za, rfl, o, b⟩
  have S17 := hide (S15.out.addI b o)
  clear o b S15
  go_wp2_with fail
  refine (toIntS_calls _ b _ (Pb.out.below S17.out.below) hnb).mono ?_
  rintro e w18 ⟨zb, rfl, o, b⟩
  have S18 := hide (S17.out.addI b o)
  clear o b S17
  go_wp2_with fail
  refine (wrongPlaces_calls _ _ a b _ (S18.out.rdI 1 rfl) (S18.out.rdI 0 rfl)).mono ?_
  rintro e w19 ⟨h0, rfl, o, b⟩
  have S19 := hide (S18.out.addI b o)
  clear o b S18
  go_wp2_with fail
  refine (eqIntS_same h0 w0 (wrpR a b).1 _ (S19.out.rdI 0 rfl) (S19.out.rdI 8 rfl)).mono ?_
  rintro e w20 ⟨rfl, b⟩
  have S20 := hide (S19.out.step b)
  clear b S19
  go_wp2_with fail
  refine (heldIntS_calls g0 (wrpR a b).1.length 1 _ (S20.out.rdI 5 rfl) (by omega) (by omega) (wrpR_len a b)).mono ?_
  rintro e w21 ⟨rfl, rfl⟩
  go_wp2
  go_ret
  exact ⟨rfl, S20.out.below⟩
end Go.Proofs.Ytogopakmebiomaa

/-
  The law that holds the program's DistanceOf against its model's: at all arguments that can be read the call returns true, and nothing that was there is written. No condition.
-/
import Derived.Test.YtoipcoidcaijjaaSDist
namespace Go.Proofs.Ytoipcoidcaijjaa
open Go.RowKit

set_option maxRecDepth 100000 in
set_option maxHeartbeats 3200000 in
theorem fnExactDistanceOf_walk (va : Value) (a : List (List Int)) (vb : Value) (b : List (List Int)) (w : World) (ha : RdM w va a) (hb : RdM w vb b) :
    Calls Try.prog 4 #[va, vb] w fun e w' => e = .returned (.bool true) ∧ Below w.heap.size w w' := by
  have Pa := hide ha
  obtain ⟨aa, capa, rfl, _⟩ := ha
  have Pb := hide hb
  obtain ⟨ab, capb, rfl, _⟩ := hb
  by_cases hna : (a.length : Int) + tot a ≤ 1048576
  case neg =>
    go_enter Try.func4, Try.ntmps4
    go_wp2_with fail
    refine (szIntSS_calls _ a _ _ Pa.out (by omega) (by omega)).mono ?_
    rw [if_neg (by omega)]
    rintro e w' ⟨rfl, rfl⟩
    go_wp2
    go_ret
    exact ⟨rfl, Below.refl _ _⟩
  obtain ⟨left0, hleft0⟩ : ∃ left : Int, left = 1048576 - ((a.length : Int) + tot a) := ⟨_, rfl⟩
  have hl0 : 0 ≤ left0 := by omega
  have hm0 : left0 ≤ 1048576 := by omega
  have Hna : Hid (a.length + tot a ≤ 1048576) := by show a.length + tot a ≤ 1048576; omega
  have HCa := hide hna
  have HL0 := hide hleft0
  clear hleft0 hna
  by_cases hnb : (b.length : Int) + tot b ≤ left0
  case neg =>
    go_enter Try.func4, Try.ntmps4
    go_wp2_with fail
    refine (szIntSS_calls _ a _ _ Pa.out (by omega) (by omega)).mono ?_
    rw [if_pos HCa.out, ← HL0.out]
    rintro e w' ⟨rfl, rfl⟩
    go_wp2_with fail
    refine (szIntSS_calls _ b _ _ Pb.out (by omega) (by omega)).mono ?_
    rw [if_neg (by omega)]
    rintro e w' ⟨rfl, rfl⟩
    go_wp2
    go_ret
    exact ⟨rfl, Below.refl _ _⟩
  obtain ⟨left1, hleft1⟩ : ∃ left : Int, left = left0 - ((b.length : Int) + tot b) := ⟨_, rfl⟩
  have hl1 : 0 ≤ left1 := by omega
  have hm1 : left1 ≤ 1048576 := by omega
  have Hnb : Hid (b.length + tot b ≤ 1048576) := by show b.length + tot b ≤ 1048576; omega
  have HCb := hide hnb
  have HL1 := hide hleft1
  clear hleft1 hnb
  have S0 := hide (Hands.start w)
  go_enter Try.func4, Try.ntmps4
  go_wp2_with fail
  refine (szIntSS_calls _ a _ _ Pa.out (by omega) (by omega)).mono ?_
  rw [if_pos HCa.out, ← HL0.out]
  rintro e w' ⟨rfl, rfl⟩
  go_wp2_with fail
  refine (szIntSS_calls _ b _ _ Pb.out (by omega) (by omega)).mono ?_
  rw [if_pos HCb.out, ← HL1.out]
  rintro e w' ⟨rfl, rfl⟩
  go_wp2_with fail
  refine (toIntSS_calls _ a _ (Pa.out.below S0.out.below) Hna.out).mono ?_
  rintro e w1 ⟨ta, rfl, o, b⟩
  have S1 := hide (S0.out.addM b o)
  clear o b S0
  go_wp2_with fail
  refine (toIntSS_calls _ b _ (Pb.out.below S1.out.below) Hnb.out).mono ?_
  rintro e w2 ⟨tb, rfl, o, b⟩
  have S2 := hide (S1.out.addM b o)
  clear o b S1
  go_wp2_with fail
  refine (sDistanceOf_calls _ _ a b _ (S2.out.rdM 1 rfl) (S2.out.rdM 0 rfl)).mono ?_
  rintro e w3 ⟨rfl, b⟩
  have S3 := hide (S2.out.step b)
  clear b S2
  go_wp2_with fail
  refine (toIntSS_calls _ a _ (Pa.out.below S3.out.below) Hna.out).mono ?_
  rintro e w4 ⟨xa, rfl, o, b⟩
  have S4 := hide (S3.out.addM b o)
  clear o b S3
  go_wp2_with fail
  refine (toIntSS_calls _ b _ (Pb.out.below S4.out.below) Hnb.out).mono ?_
  rintro e w5 ⟨xb, rfl, o, b⟩
  have S5 := hide (S4.out.addM b o)
  clear o b S4
  go_wp2_with fail
  refine (distanceOf_calls _ _ a b _ (S5.out.rdM 1 rfl) (S5.out.rdM 0 rfl)).mono ?_
  rintro e w6 ⟨rfl, b⟩
  have S6 := hide (S5.out.step b)
  clear b S5
  go_wp2_with fail
  refine (toIntSS_calls _ a _ (Pa.out.below S6.out.below) Hna.out).mono ?_
  rintro e w7 ⟨ya, rfl, o, b⟩
  have S7 := hide (S6.out.addM b o)
  clear o b S6
  go_wp2_with fail
  refine (eqIntSS_same xa ya a _ (S7.out.rdM 2 rfl) (S7.out.rdM 0 rfl)).mono ?_
  rintro e w8 ⟨rfl, b⟩
  have S8 := hide (S7.out.step b)
  clear b S7
  go_wp2_with fail
  refine (toIntSS_calls _ b _ (Pb.out.below S8.out.below) Hnb.out).mono ?_
  rintro e w9 ⟨yb, rfl, o, b⟩
  have S9 := hide (S8.out.addM b o)
  clear o b S8
  go_wp2_with fail
  refine (eqIntSS_same xb yb b _ (S9.out.rdM 2 rfl) (S9.out.rdM 0 rfl)).mono ?_
  rintro e w10 ⟨rfl, b⟩
  have S10 := hide (S9.out.step b)
  clear b S9
  go_wp2
  go_ret
  exact ⟨rfl, S10.out.below⟩
end Go.Proofs.Ytoipcoidcaijjaa

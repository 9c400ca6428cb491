/-
  The law that holds the program's MulMatrix against its model's: at all arguments that can be read the call returns true, and nothing that was there is written. The program's table of rests must hold its seven numbers.
-/
import Derived.Test.YtoipcoidcaijjaaDoorMulP
namespace Go.Proofs.YtoipcoidcaijjaaDoor
open Go.RowKit

set_option maxRecDepth 100000 in
set_option maxHeartbeats 3200000 in
theorem fnExactMulMatrix_walk (vp : Value) (p : List (List Int)) (vq : Value) (q : List (List Int)) (w : World) (hT : Gf.Tab w) (hp : RdM w vp p) (hq : RdM w vq q) :
    Calls Tryd.prog 18 #[vp, vq] w fun e w' => e = .returned (.bool true) ∧ Below w.heap.size w w' := by
  have Pp := hide hp
  obtain ⟨ap, capp, rfl, _⟩ := hp
  have Pq := hide hq
  obtain ⟨aq, capq, rfl, _⟩ := hq
  have T := hide hT
  clear hT
  by_cases hnp : (p.length : Int) + tot p ≤ 1048576
  case neg =>
    go_enter Tryd.func18, Tryd.ntmps18
    go_wp2_with fail
    refine (szIntSS_calls _ p _ _ Pp.out (by omega) (by omega)).mono ?_
    rw [if_neg (by omega)]
    rintro e w' ⟨rfl, rfl⟩
    go_wp2
    go_ret
    exact ⟨rfl, Below.refl _ _⟩
  obtain ⟨left0, hleft0⟩ : ∃ left : Int, left = 1048576 - ((p.length : Int) + tot p) := ⟨_, rfl⟩
  have hl0 : 0 ≤ left0 := by omega
  have hm0 : left0 ≤ 1048576 := by omega
  have Hnp : Hid (p.length + tot p ≤ 1048576) := by show p.length + tot p ≤ 1048576; omega
  have HCp := hide hnp
  have HL0 := hide hleft0
  clear hleft0 hnp
  by_cases hnq : (q.length : Int) + tot q ≤ left0
  case neg =>
    go_enter Tryd.func18, Tryd.ntmps18
    go_wp2_with fail
    refine (szIntSS_calls _ p _ _ Pp.out (by omega) (by omega)).mono ?_
    rw [if_pos HCp.out, ← HL0.out]
    rintro e w' ⟨rfl, rfl⟩
    go_wp2_with fail
    refine (szIntSS_calls _ q _ _ Pq.out (by omega) (by omega)).mono ?_
    rw [if_neg (by omega)]
    rintro e w' ⟨rfl, rfl⟩
    go_wp2
    go_ret
    exact ⟨rfl, Below.refl _ _⟩
  obtain ⟨left1, hleft1⟩ : ∃ left : Int, left = left0 - ((q.length : Int) + tot q) := ⟨_, rfl⟩
  have hl1 : 0 ≤ left1 := by omega
  have hm1 : left1 ≤ 1048576 := by omega
  have Hnq : Hid (q.length + tot q ≤ 1048576) := by show q.length + tot q ≤ 1048576; omega
  have HCq := hide hnq
  have HL1 := hide hleft1
  clear hleft1 hnq
  have S0 := hide (Hands.start w)
  go_enter Tryd.func18, Tryd.ntmps18
  go_wp2_with fail
  refine (szIntSS_calls _ p _ _ Pp.out (by omega) (by omega)).mono ?_
  rw [if_pos HCp.out, ← HL0.out]
  rintro e w' ⟨rfl, rfl⟩
  go_wp2_with fail
  refine (szIntSS_calls _ q _ _ Pq.out (by omega) (by omega)).mono ?_
  rw [if_pos HCq.out, ← HL1.out]
  rintro e w' ⟨rfl, rfl⟩
  go_wp2_with fail
  refine (toIntSS_calls _ p _ (Pp.out.below S0.out.below) Hnp.out).mono ?_
  rintro e w1 ⟨tp, rfl, o, b⟩
  have S1 := hide (S0.out.addM b o)
  clear o b S0
  go_wp2_with fail
  refine (toIntSS_calls _ q _ (Pq.out.below S1.out.below) Hnq.out).mono ?_
  rintro e w2 ⟨tq, rfl, o, b⟩
  have S2 := hide (S1.out.addM b o)
  clear o b S1
  go_wp2_with fail
  refine (sMulMatrix_calls _ _ p q _ (S2.out.rdM 1 rfl) (S2.out.rdM 0 rfl)).mono ?_
  rintro e w3 ⟨w0, rfl, o, b⟩
  have S3 := hide (S2.out.addM b o)
  clear o b S2
  go_wp2_with fail
  refine (toIntSS_calls _ p _ (Pp.out.below S3.out.below) Hnp.out).mono ?_
  rintro e w4 ⟨xp, rfl, o, b⟩
  have S4 := hide (S3.out.addM b o)
  clear o b S3
  go_wp2_with fail
  refine (toIntSS_calls _ q _ (Pq.out.below S4.out.below) Hnq.out).mono ?_
  rintro e w5 ⟨xq, rfl, o, b⟩
  have S5 := hide (S4.out.addM b o)
  clear o b S4
  go_wp2_with fail
  refine (mulMatrix_calls _ _ p q _ (Gf.Tab.below T.out S5.out.below) (S5.out.rdM 1 rfl) (S5.out.rdM 0 rfl)).mono ?_
  rintro e w6 ⟨g0, rfl, o, b⟩
  have S6 := hide (S5.out.addM b o)
  clear o b S5
  go_wp2_with fail
  refine (eqIntSS_same g0 w0 (mulMR p q).1 _ (S6.out.rdM 0 rfl) (S6.out.rdM 3 rfl)).mono ?_
  rintro e w7 ⟨rfl, b⟩
  have S7 := hide (S6.out.step b)
  clear b S6
  go_wp2_with fail
  refine (toIntSS_calls _ p _ (Pp.out.below S7.out.below) Hnp.out).mono ?_
  rintro e w8 ⟨yp, rfl, o, b⟩
  have S8 := hide (S7.out.addM b o)
  clear o b S7
  go_wp2_with fail
  refine (eqIntSS_same xp yp p _ (S8.out.rdM 3 rfl) (S8.out.rdM 0 rfl)).mono ?_
  rintro e w9 ⟨rfl, b⟩
  have S9 := hide (S8.out.step b)
  clear b S8
  go_wp2_with fail
  refine (toIntSS_calls _ q _ (Pq.out.below S9.out.below) Hnq.out).mono ?_
  rintro e w10 ⟨yq, rfl, o, b⟩
  have S10 := hide (S9.out.addM b o)
  clear o b S9
  go_wp2_with fail
  refine (eqIntSS_same xq yq q _ (S10.out.rdM 3 rfl) (S10.out.rdM 0 rfl)).mono ?_
  rintro e w11 ⟨rfl, b⟩
  have S11 := hide (S10.out.step b)
  clear b S10
  obtain ⟨lo12, hi12, ok12, lb12, ub12, put12⟩ := S11.out.open 4 rfl
  have OK12 := hide ok12
  have PUT12 := hide put12
  clear ok12 put12 lb12 ub12
  go_wp2_with fail
  refine (markIntSS_calls xp p 1 lo12 hi12 _ OK12.out (by omega) (by omega) Hnp.out).mono ?_
  rintro e w12 ⟨rfl, o, g⟩
  have S12 := hide (PUT12.out _ (.mat (marksM 1 p)) o g)
  clear o g S11 OK12 PUT12
  obtain ⟨lo13, hi13, ok13, lb13, ub13, put13⟩ := S12.out.open 3 rfl
  have OK13 := hide ok13
  have PUT13 := hide put13
  clear ok13 put13 lb13 ub13
  go_wp2_with fail
  refine (markIntSS_calls xq q (1 + tot p) lo13 hi13 _ OK13.out (by have := Hnp.out; omega) (by have := Hnp.out; omega) Hnq.out).mono ?_
  rintro e w13 ⟨rfl, o, g⟩
  have S13 := hide (PUT13.out _ (.mat (marksM (1 + tot p) q)) o g)
  clear o g S12 OK13 PUT13
  have kk : ¬ (((1 + tot p) + tot q) : Int) < 0 := by omega
  go_wp2_with fail
  refine (eqIntSS_same g0 w0 (mulMR p q).1 _ (S13.out.rdM 2 rfl) (S13.out.rdM 5 rfl)).mono ?_
  rintro e w14 ⟨rfl, b⟩
  have S14 := hide (S13.out.step b)
  clear b S13
  obtain ⟨lo15, hi15, ok15, lb15, ub15, put15⟩ := S14.out.open 2 rfl
  have OK15 := hide ok15
  have PUT15 := hide put15
  clear ok15 put15 lb15 ub15
  go_wp2_with fail
  refine (markIntSS_calls g0 (mulMR p q).1 1 lo15 hi15 _ OK15.out (by omega) (by omega) (mulMR_tot p q)).mono ?_
  rintro e w15 ⟨rfl, o, g⟩
  have S15 := hide (PUT15.out _ (.mat (marksM 1 (mulMR p q).1)) o g)
  clear o g S14 OK15 PUT15
  go_wp2_with fail
  refine (heldIntSS_calls g0 (mulMR p q).1 1 _ (S15.out.rdM 2 rfl) (by omega) (by omega) (mulMR_tot p q)).mono ?_
  rintro e w16 ⟨rfl, rfl⟩
  have qq : ¬ ((1 : Int) + (tot (mulMR p q).1 : Nat) < 0) := by omega
  go_wp2_with fail
  refine (toIntSS_calls _ p _ (Pp.out.below S15.out.below) Hnp.out).mono ?_
  rintro e w17 ⟨zp, rfl, o, b⟩
  have S17 := hide (S15.out.addM b o)
  clear o b S15
  go_wp2_with fail
  refine (toIntSS_calls _ q _ (Pq.out.below S17.out.below) Hnq.out).mono ?_
  rintro e w18 ⟨zq, rfl, o, b⟩
  have S18 := hide (S17.out.addM b o)
  clear o b S17
  go_wp2_with fail
  refine (mulMatrix_calls _ _ p q _ (Gf.Tab.below T.out S18.out.below) (S18.out.rdM 1 rfl) (S18.out.rdM 0 rfl)).mono ?_
  rintro e w19 ⟨h0, rfl, o, b⟩
  have S19 := hide (S18.out.addM b o)
  clear o b S18
  go_wp2_with fail
  refine (eqIntSS_same h0 w0 (mulMR p q).1 _ (S19.out.rdM 0 rfl) (S19.out.rdM 8 rfl)).mono ?_
  rintro e w20 ⟨rfl, b⟩
  have S20 := hide (S19.out.step b)
  clear b S19
  go_wp2_with fail
  refine (heldIntSS_calls g0 (mulMR p q).1 1 _ (S20.out.rdM 5 rfl) (by omega) (by omega) (mulMR_tot p q)).mono ?_
  rintro e w21 ⟨rfl, rfl⟩
  go_wp2
  go_ret
  exact ⟨rfl, S20.out.below⟩
end Go.Proofs.YtoipcoidcaijjaaDoor

/-
  The law that holds the program's UpdatePiece against its model's: at all arguments that can be read the call returns true, and nothing that was there is written. The program's table of rests must hold its seven numbers.
-/
import Derived.Test.YtoipcoidcaijjaaDoorUpdP
namespace Go.Proofs.YtoipcoidcaijjaaDoor
open Go.RowKit

set_option maxRecDepth 100000 in
set_option maxHeartbeats 3200000 in
theorem fnExactUpdatePiece_walk (d : Int) (q : Int) (vm : Value) (m : List (List Int)) (k : Int) (vp : Value) (p : List Int) (w : World) (hT : Gf.Tab w) (_ : (Lit.int .i64 d).wf = true) (_ : (Lit.int .i64 q).wf = true) (hm : RdM w vm m) (_ : (Lit.int .i64 k).wf = true) (hp : Rd w vp p) :
    Calls Tryd.prog 17 #[.int .i64 d, .int .i64 q, vm, .int .i64 k, vp] w fun e w' => e = .returned (.bool true) ∧ Below w.heap.size w w' := by
  have Pm := hide hm
  obtain ⟨am, capm, rfl, _⟩ := hm
  have Pp := hide hp
  obtain ⟨ap, capp, rfl, _⟩ := hp
  have T := hide hT
  clear hT
  by_cases hnp : p.length ≤ 1048576
  case neg =>
    have h' : (1048576 : Int) < (p.length : Int) := by omega
    go_enter Tryd.func17, Tryd.ntmps17
    go_wp2
    go_ret
    exact ⟨rfl, Below.refl _ _⟩
  have hnp' : ¬ (1048576 : Int) < (p.length : Int) := by omega
  by_cases hnm : (m.length : Int) + tot m ≤ 1048576
  case neg =>
    go_enter Tryd.func17, Tryd.ntmps17
    go_wp2_with fail
    refine (szIntSS_calls _ m _ _ Pm.out (by omega) (by omega)).mono ?_
    rw [if_neg (by omega)]
    rintro e w' ⟨rfl, rfl⟩
    go_wp2
    go_ret
    exact ⟨rfl, Below.refl _ _⟩
  obtain ⟨left0, hleft0⟩ : ∃ left : Int, left = 1048576 - ((m.length : Int) + tot m) := ⟨_, rfl⟩
  have hl0 : 0 ≤ left0 := by omega
  have hm0 : left0 ≤ 1048576 := by omega
  have Hnm : Hid (m.length + tot m ≤ 1048576) := by show m.length + tot m ≤ 1048576; omega
  have HCm := hide hnm
  have HL0 := hide hleft0
  clear hleft0 hnm
  have S0 := hide (Hands.start w)
  go_enter Tryd.func17, Tryd.ntmps17
  go_wp2_with fail
  refine (szIntSS_calls _ m _ _ Pm.out (by omega) (by omega)).mono ?_
  rw [if_pos HCm.out, ← HL0.out]
  rintro e w' ⟨rfl, rfl⟩
  go_wp2_with fail
  refine (toIntSS_calls _ m _ (Pm.out.below S0.out.below) Hnm.out).mono ?_
  rintro e w1 ⟨tm, rfl, o, b⟩
  have S1 := hide (S0.out.addM b o)
  clear o b S0
  go_wp2_with fail
  refine (toIntS_calls _ p _ (Pp.out.below S1.out.below) hnp).mono ?_
  rintro e w2 ⟨tp, rfl, o, b⟩
  have S2 := hide (S1.out.addI b o)
  clear o b S1
  go_wp2_with fail
  refine (sUpdatePiece_calls d q k _ _ m p _ (S2.out.rdM 1 rfl) (S2.out.rdI 0 rfl)).mono ?_
  rintro e w3 ⟨w0, rfl, o, b⟩
  have S3 := hide (S2.out.addM b o)
  clear o b S2
  go_wp2_with fail
  refine (toIntSS_calls _ m _ (Pm.out.below S3.out.below) Hnm.out).mono ?_
  rintro e w4 ⟨xm, rfl, o, b⟩
  have S4 := hide (S3.out.addM b o)
  clear o b S3
  go_wp2_with fail
  refine (toIntS_calls _ p _ (Pp.out.below S4.out.below) hnp).mono ?_
  rintro e w5 ⟨xp, rfl, o, b⟩
  have S5 := hide (S4.out.addI b o)
  clear o b S4
  go_wp2_with fail
  refine (updatePiece_calls d q k _ _ m p _ (Gf.Tab.below T.out S5.out.below) (S5.out.rdM 1 rfl) (S5.out.rdI 0 rfl)).mono ?_
  rintro e w6 ⟨g0, rfl, o, b⟩
  have S6 := hide (S5.out.addM b o)
  clear o b S5
  go_wp2_with fail
  refine (eqIntSS_same g0 w0 (updR d q m k p).1 _ (S6.out.rdM 0 rfl) (S6.out.rdM 3 rfl)).mono ?_
  rintro e w7 ⟨rfl, b⟩
  have S7 := hide (S6.out.step b)
  clear b S6
  go_wp2_with fail
  refine (toIntSS_calls _ m _ (Pm.out.below S7.out.below) Hnm.out).mono ?_
  rintro e w8 ⟨ym, rfl, o, b⟩
  have S8 := hide (S7.out.addM b o)
  clear o b S7
  go_wp2_with fail
  refine (eqIntSS_same xm ym m _ (S8.out.rdM 3 rfl) (S8.out.rdM 0 rfl)).mono ?_
  rintro e w9 ⟨rfl, b⟩
  have S9 := hide (S8.out.step b)
  clear b S8
  go_wp2_with fail
  refine (toIntS_calls _ p _ (Pp.out.below S9.out.below) hnp).mono ?_
  rintro e w10 ⟨yp, rfl, o, b⟩
  have S10 := hide (S9.out.addI b o)
  clear o b S9
  go_wp2_with fail
  refine (eqIntS_same xp yp p _ (S10.out.rdI 3 rfl) (S10.out.rdI 0 rfl)).mono ?_
  rintro e w11 ⟨rfl, b⟩
  have S11 := hide (S10.out.step b)
  clear b S10
  obtain ⟨lo12, hi12, ok12, lb12, ub12, put12⟩ := S11.out.open 4 rfl
  have OK12 := hide ok12
  have PUT12 := hide put12
  clear ok12 put12 lb12 ub12
  go_wp2_with fail
  refine (markIntSS_calls xm m 1 lo12 hi12 _ OK12.out (by omega) (by omega) Hnm.out).mono ?_
  rintro e w12 ⟨rfl, o, g⟩
  have S12 := hide (PUT12.out _ (.mat (marksM 1 m)) o g)
  clear o g S11 OK12 PUT12
  obtain ⟨lo13, hi13, ok13, lb13, ub13, put13⟩ := S12.out.open 3 rfl
  have OK13 := hide ok13
  have PUT13 := hide put13
  clear ok13 put13 lb13 ub13
  go_wp2_with fail
  refine (markIntS_calls xp p (1 + tot m) lo13 _ OK13.out.1 (by have := Hnm.out; omega) (by have := Hnm.out; omega) hnp).mono ?_
  rintro e w13 ⟨rfl, o, g⟩
  have S13 := hide (PUT13.out _ (.ints (marks (1 + tot m) p.length)) ⟨o, OK13.out.2⟩ (Chg.ofGrown g (fun k hk => ⟨(World.ownsRow.lt OK13.out.1 k hk).1, OK13.out.2 k hk⟩)))
  clear o g S12 OK13 PUT13
  have kk : ¬ (((1 + tot m) + p.length) : Int) < 0 := by omega
  go_wp2_with fail
  refine (eqIntSS_same g0 w0 (updR d q m k p).1 _ (S13.out.rdM 2 rfl) (S13.out.rdM 5 rfl)).mono ?_
  rintro e w14 ⟨rfl, b⟩
  have S14 := hide (S13.out.step b)
  clear b S13
  obtain ⟨lo15, hi15, ok15, lb15, ub15, put15⟩ := S14.out.open 2 rfl
  have OK15 := hide ok15
  have PUT15 := hide put15
  clear ok15 put15 lb15 ub15
  go_wp2_with fail
  refine (markIntSS_calls g0 (updR d q m k p).1 1 lo15 hi15 _ OK15.out (by omega) (by omega) (updR_tot d q m k p)).mono ?_
  rintro e w15 ⟨rfl, o, g⟩
  have S15 := hide (PUT15.out _ (.mat (marksM 1 (updR d q m k p).1)) o g)
  clear o g S14 OK15 PUT15
  go_wp2_with fail
  refine (heldIntSS_calls g0 (updR d q m k p).1 1 _ (S15.out.rdM 2 rfl) (by omega) (by omega) (updR_tot d q m k p)).mono ?_
  rintro e w16 ⟨rfl, rfl⟩
  have qq : ¬ ((1 : Int) + (tot (updR d q m k p).1 : Nat) < 0) := by omega
  go_wp2_with fail
  refine (toIntSS_calls _ m _ (Pm.out.below S15.out.below) Hnm.out).mono ?_
  rintro e w17 ⟨zm, rfl, o, b⟩
  have S17 := hide (S15.out.addM b o)
  clear o b S15
  go_wp2_with fail
  refine (toIntS_calls _ p _ (Pp.out.below S17.out.below) hnp).mono ?_
  rintro e w18 ⟨zp, rfl, o, b⟩
  have S18 := hide (S17.out.addI b o)
  clear o b S17
  go_wp2_with fail
  refine (updatePiece_calls d q k _ _ m p _ (Gf.Tab.below T.out S18.out.below) (S18.out.rdM 1 rfl) (S18.out.rdI 0 rfl)).mono ?_
  rintro e w19 ⟨h0, rfl, o, b⟩
  have S19 := hide (S18.out.addM b o)
  clear o b S18
  go_wp2_with fail
  refine (eqIntSS_same h0 w0 (updR d q m k p).1 _ (S19.out.rdM 0 rfl) (S19.out.rdM 8 rfl)).mono ?_
  rintro e w20 ⟨rfl, b⟩
  have S20 := hide (S19.out.step b)
  clear b S19
  go_wp2_with fail
  refine (heldIntSS_calls g0 (updR d q m k p).1 1 _ (S20.out.rdM 5 rfl) (by omega) (by omega) (updR_tot d q m k p)).mono ?_
  rintro e w21 ⟨rfl, rfl⟩
  go_wp2
  go_ret
  exact ⟨rfl, S20.out.below⟩
end Go.Proofs.YtoipcoidcaijjaaDoor

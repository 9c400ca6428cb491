/-
  The law that holds the program's EncodePieces against its model's: at all arguments that can be read the call returns true, and nothing that was there is written. The program's table of rests must hold its seven numbers.
-/
import Derived.Test.YtoipcoidcaijjaaDoorEncP
namespace Go.Proofs.YtoipcoidcaijjaaDoor
open Go.RowKit

set_option maxRecDepth 100000 in
set_option maxHeartbeats 3200000 in
theorem fnExactEncodePieces_walk (vm : Value) (m : List (List Int)) (q : Int) (w : World) (hT : Gf.Tab w) (hm : RdM w vm m) (_ : (Lit.int .i64 q).wf = true) :
    Calls Tryd.prog 14 #[vm, .int .i64 q] w fun e w' => e = .returned (.bool true) ∧ Below w.heap.size w w' := by
  have Pm := hide hm
  obtain ⟨am, capm, rfl, _⟩ := hm
  have T := hide hT
  clear hT
  by_cases hnm : (m.length : Int) + tot m ≤ 1048576
  case neg =>
    go_enter Tryd.func14, Tryd.ntmps14
    go_wp2_with fail
    refine (szIntSS_calls _ m _ _ Pm.out (by omega) (by omega)).mono ?_
    rw [if_neg (by omega)]
    rintro e w' ⟨rfl, rfl⟩
    go_wp2
    go_ret
    exact ⟨rfl, Below.refl _ _⟩
  obtain ⟨left0, hleft0⟩ : ∃ left : Int, left = 1048576 - ((m.length : Int) + tot m) := ⟨_, rfl⟩
  have hl0 : 0 ≤ left0 := by omega
  have hm0 : left0 ≤ 1048576 := by omega
  have Hnm : Hid (m.length + tot m ≤ 1048576) := by show m.length + tot m ≤ 1048576; omega
  have HCm := hide hnm
  have HL0 := hide hleft0
  clear hleft0 hnm
  have S0 := hide (Hands.start w)
  go_enter Tryd.func14, Tryd.ntmps14
  go_wp2_with fail
  refine (szIntSS_calls _ m _ _ Pm.out (by omega) (by omega)).mono ?_
  rw [if_pos HCm.out, ← HL0.out]
  rintro e w' ⟨rfl, rfl⟩
  go_wp2_with fail
  refine (toIntSS_calls _ m _ (Pm.out.below S0.out.below) Hnm.out).mono ?_
  rintro e w1 ⟨tm, rfl, o, b⟩
  have S1 := hide (S0.out.addM b o)
  clear o b S0
  go_wp2_with fail
  refine (sEncodePieces_calls _ m q _ (S1.out.rdM 0 rfl)).mono ?_
  rintro e w2 ⟨w0, rfl, o, b⟩
  have S2 := hide (S1.out.addM b o)
  clear o b S1
  go_wp2_with fail
  refine (toIntSS_calls _ m _ (Pm.out.below S2.out.below) Hnm.out).mono ?_
  rintro e w3 ⟨xm, rfl, o, b⟩
  have S3 := hide (S2.out.addM b o)
  clear o b S2
  go_wp2_with fail
  refine (encodePieces_calls _ m q _ (Gf.Tab.below T.out S3.out.below) (S3.out.rdM 0 rfl)).mono ?_
  rintro e w4 ⟨g0, rfl, o, b⟩
  have S4 := hide (S3.out.addM b o)
  clear o b S3
  go_wp2_with fail
  refine (eqIntSS_same g0 w0 (encR m q).1 _ (S4.out.rdM 0 rfl) (S4.out.rdM 2 rfl)).mono ?_
  rintro e w5 ⟨rfl, b⟩
  have S5 := hide (S4.out.step b)
  clear b S4
  go_wp2_with fail
  refine (toIntSS_calls _ m _ (Pm.out.below S5.out.below) Hnm.out).mono ?_
  rintro e w6 ⟨ym, rfl, o, b⟩
  have S6 := hide (S5.out.addM b o)
  clear o b S5
  go_wp2_with fail
  refine (eqIntSS_same xm ym m _ (S6.out.rdM 2 rfl) (S6.out.rdM 0 rfl)).mono ?_
  rintro e w7 ⟨rfl, b⟩
  have S7 := hide (S6.out.step b)
  clear b S6
  obtain ⟨lo8, hi8, ok8, lb8, ub8, put8⟩ := S7.out.open 2 rfl
  have OK8 := hide ok8
  have PUT8 := hide put8
  clear ok8 put8 lb8 ub8
  go_wp2_with fail
  refine (markIntSS_calls xm m 1 lo8 hi8 _ OK8.out (by omega) (by omega) Hnm.out).mono ?_
  rintro e w8 ⟨rfl, o, g⟩
  have S8 := hide (PUT8.out _ (.mat (marksM 1 m)) o g)
  clear o g S7 OK8 PUT8
  have kk : ¬ ((1 + tot m) : Int) < 0 := by omega
  go_wp2_with fail
  refine (eqIntSS_same g0 w0 (encR m q).1 _ (S8.out.rdM 1 rfl) (S8.out.rdM 3 rfl)).mono ?_
  rintro e w9 ⟨rfl, b⟩
  have S9 := hide (S8.out.step b)
  clear b S8
  obtain ⟨lo10, hi10, ok10, lb10, ub10, put10⟩ := S9.out.open 1 rfl
  have OK10 := hide ok10
  have PUT10 := hide put10
  clear ok10 put10 lb10 ub10
  go_wp2_with fail
  refine (markIntSS_calls g0 (encR m q).1 1 lo10 hi10 _ OK10.out (by omega) (by omega) (encR_tot m q)).mono ?_
  rintro e w10 ⟨rfl, o, g⟩
  have S10 := hide (PUT10.out _ (.mat (marksM 1 (encR m q).1)) o g)
  clear o g S9 OK10 PUT10
  go_wp2_with fail
  refine (heldIntSS_calls g0 (encR m q).1 1 _ (S10.out.rdM 1 rfl) (by omega) (by omega) (encR_tot m q)).mono ?_
  rintro e w11 ⟨rfl, rfl⟩
  have qq : ¬ ((1 : Int) + (tot (encR m q).1 : Nat) < 0) := by omega
  go_wp2_with fail
  refine (toIntSS_calls _ m _ (Pm.out.below S10.out.below) Hnm.out).mono ?_
  rintro e w12 ⟨zm, rfl, o, b⟩
  have S12 := hide (S10.out.addM b o)
  clear o b S10
  go_wp2_with fail
  refine (encodePieces_calls _ m q _ (Gf.Tab.below T.out S12.out.below) (S12.out.rdM 0 rfl)).mono ?_
  rintro e w13 ⟨h0, rfl, o, b⟩
  have S13 := hide (S12.out.addM b o)
  clear o b S12
  go_wp2_with fail
  refine (eqIntSS_same h0 w0 (encR m q).1 _ (S13.out.rdM 0 rfl) (S13.out.rdM 5 rfl)).mono ?_
  rintro e w14 ⟨rfl, b⟩
  have S14 := hide (S13.out.step b)
  clear b S13
  go_wp2_with fail
  refine (heldIntSS_calls g0 (encR m q).1 1 _ (S14.out.rdM 3 rfl) (by omega) (by omega) (encR_tot m q)).mono ?_
  rintro e w15 ⟨rfl, rfl⟩
  go_wp2
  go_ret
  exact ⟨rfl, S14.out.below⟩
end Go.Proofs.YtoipcoidcaijjaaDoor

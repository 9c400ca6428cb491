/-
  The law that holds the program's DecodeWord against its model's: at all arguments that can be read the call returns true, and nothing that was there is written. The program's table of rests must hold its seven numbers.
-/
import Derived.Test.YtogopakmebiomaaDoorDecwI
import Derived.Test.YtogopakmebiomaaDoorDecwS
namespace Go.Proofs.YtogopakmebiomaaDoor
open Go.RowKit

set_option maxRecDepth 100000 in
set_option maxHeartbeats 3200000 in
theorem fnExactDecodeWord_walk (vm : Value) (m : List Int) (k : Int) (w : World) (hT : Gf.Tab w) (hm : Rd w vm m) (_ : (Lit.int .i64 k).wf = true) :
    Calls Tryd.prog 8 #[vm, .int .i64 k] w fun e w' => e = .returned (.bool true) ∧ Below w.heap.size w w' := by
  have Pm := hide hm
  obtain ⟨am, capm, rfl, _⟩ := hm
  have T := hide hT
  clear hT
  by_cases hnm : m.length ≤ 1048576
  case neg =>
    have h' : (1048576 : Int) < (m.length : Int) := by omega
    go_enter Tryd.func8, Tryd.ntmps8
    go_wp2
    go_ret
    exact ⟨rfl, Below.refl _ _⟩
  have hnm' : ¬ (1048576 : Int) < (m.length : Int) := by omega
  have S0 := hide (Hands.start w)
  go_enter Tryd.func8, Tryd.ntmps8
  go_wp2_with fail
  refine (toIntS_calls _ m _ (Pm.out.below S0.out.below) hnm).mono ?_
  rintro e w1 ⟨tm, rfl, o, b⟩
  have S1 := hide (S0.out.addI b o)
  clear o b S0
  go_wp2_with fail
  refine (sDecodeWord_calls _ m k _ (S1.out.rdI 0 rfl)).mono ?_
  rintro e w2 ⟨w0, rfl, o, b⟩
  have S2 := hide (S1.out.addI b o)
  clear o b S1
  go_wp2_with fail
  refine (toIntS_calls _ m _ (Pm.out.below S2.out.below) hnm).mono ?_
  rintro e w3 ⟨xm, rfl, o, b⟩
  have S3 := hide (S2.out.addI b o)
  clear o b S2
  go_wp2_with fail
  refine (decodeWord_calls _ m k _ (Gf.Tab.below T.out S3.out.below) (S3.out.rdI 0 rfl)).mono ?_
  rintro e w4 ⟨g0, rfl, o, b⟩
  have S4 := hide (S3.out.addI b o)
  clear o b S3
  go_wp2_with fail
  refine (eqIntS_same g0 w0 (decW m k).1 _ (S4.out.rdI 0 rfl) (S4.out.rdI 2 rfl)).mono ?_
  rintro e w5 ⟨rfl, b⟩
  have S5 := hide (S4.out.step b)
  clear b S4
  go_wp2_with fail
  refine (toIntS_calls _ m _ (Pm.out.below S5.out.below) hnm).mono ?_
  rintro e w6 ⟨ym, rfl, o, b⟩
  have S6 := hide (S5.out.addI b o)
  clear o b S5
  go_wp2_with fail
  refine (eqIntS_same xm ym m _ (S6.out.rdI 2 rfl) (S6.out.rdI 0 rfl)).mono ?_
  rintro e w7 ⟨rfl, b⟩
  have S7 := hide (S6.out.step b)
  clear b S6
  obtain ⟨lo8, hi8, ok8, lb8, ub8, put8⟩ := S7.out.open 2 rfl
  have OK8 := hide ok8
  have PUT8 := hide put8
  clear ok8 put8 lb8 ub8
  go_wp2_with fail
  refine (markIntS_calls xm m 1 lo8 _ OK8.out.1 (by omega) (by omega) hnm).mono ?_
  rintro e w8 ⟨rfl, o, g⟩
  have S8 := hide (PUT8.out _ (.ints (marks 1 m.length)) ⟨o, OK8.out.2⟩ (Chg.ofGrown g (fun k hk => ⟨(World.ownsRow.lt OK8.out.1 k hk).1, OK8.out.2 k hk⟩)))
  clear o g S7 OK8 PUT8
  have kk : ¬ ((1 + m.length) : Int) < 0 := by omega
  go_wp2_with fail
  refine (eqIntS_same g0 w0 (decW m k).1 _ (S8.out.rdI 1 rfl) (S8.out.rdI 3 rfl)).mono ?_
  rintro e w9 ⟨rfl, b⟩
  have S9 := hide (S8.out.step b)
  clear b S8
  obtain ⟨lo10, hi10, ok10, lb10, ub10, put10⟩ := S9.out.open 1 rfl
  have OK10 := hide ok10
  have PUT10 := hide put10
  clear ok10 put10 lb10 ub10
  go_wp2_with fail
  refine (markIntS_calls g0 (decW m k).1 1 lo10 _ OK10.out.1 (by omega) (by omega) (decW_len m k)).mono ?_
  rintro e w10 ⟨rfl, o, g⟩
  have S10 := hide (PUT10.out _ (.ints (marks 1 (decW m k).1.length)) ⟨o, OK10.out.2⟩ (Chg.ofGrown g (fun k hk => ⟨(World.ownsRow.lt OK10.out.1 k hk).1, OK10.out.2 k hk⟩)))
  clear o g S9 OK10 PUT10
  go_wp2_with fail
  refine (heldIntS_calls g0 (decW m k).1.length 1 _ (S10.out.rdI 1 rfl) (by omega) (by omega) (decW_len m k)).mono ?_
  rintro e w11 ⟨rfl, rfl⟩
  have qq : ¬ ((1 : Int) + ((decW m k).1.length : Nat) < 0) := by omega
  go_wp2_with fail
  refine (toIntS_calls _ m _ (Pm.out.below S10.out.below) hnm).mono ?_
  rintro e w12 ⟨zm, rfl, o, b⟩
  have S12 := hide (S10.out.addI b o)
  clear o b S10
  go_wp2_with fail
  refine (decodeWord_calls _ m k _ (Gf.Tab.below T.out S12.out.below) (S12.out.rdI 0 rfl)).mono ?_
  rintro e w13 ⟨h0, rfl, o, b⟩
  have S13 := hide (S12.out.addI b o)
  clear o b S12
  go_wp2_with fail
  refine (eqIntS_same h0 w0 (decW m k).1 _ (S13.out.rdI 0 rfl) (S13.out.rdI 5 rfl)).mono ?_
  rintro e w14 ⟨rfl, b⟩
  have S14 := hide (S13.out.step b)
  clear b S13
  go_wp2_with fail
  refine (heldIntS_calls g0 (decW m k).1.length 1 _ (S14.out.rdI 3 rfl) (by omega) (by omega) (decW_len m k)).mono ?_
  rintro e w15 ⟨rfl, rfl⟩
  go_wp2
  go_ret
  exact ⟨rfl, S14.out.below⟩
end Go.Proofs.YtogopakmebiomaaDoor

/-
  The law that holds the program's NewDisk against its model's: at every number the call returns true, and nothing that was there is written. No condition.
-/
import Derived.Test.YtnjpkfgljabdaaaDnw
namespace Go.Proofs.Ytnjpkfgljabdaaa
open Go.RowKit
set_option linter.unusedVariables false

set_option maxRecDepth 100000 in
set_option maxHeartbeats 1600000 in
theorem fnExactNewDisk_walk (n : Int) (w : World) (hn : (Lit.int .i64 n).wf = true) :
    Calls Try.prog 3 #[.int .i64 n] w fun e w' => e = .returned (.bool true) ∧ Below w.heap.size w w' := by
  have C1 := hide (fun W => sNewDisk_calls n W)
  have C2 := hide (fun W => newDisk_calls n W)
  have SZ := hide (nd_len n)
  generalize ndT n = X at C1 C2 SZ
  generalize ndZ n = Y at C1 C2 SZ
  generalize ndK n = ok at C1 C2
  have A0 := hide (Hand.start w)
  go_enter Try.func3, Try.ntmps3
  go_wp2_with fail
  refine (C1.out _).mono ?_
  rintro e w1 ⟨p1, h1, b1, rfl, d1, q1⟩
  obtain ⟨ap1, cp1, ah1, ch1, ab1, cb1, rfl, rfl, rfl⟩ := d1.sl
  have A1 := hide ((A0.out.add q1 (TDsk.st _ _ _ _ _ _) d1).box #[.slice ap1 X.length cp1, .slice ah1 X.length ch1, .slice ab1 Y.length cb1] 25)
  clear q1 d1 A0
  go_wp2_with fail
  refine (C2.out _).mono ?_
  rintro e w2 ⟨p2, h2, b2, rfl, d2, q2⟩
  have l2 : w1.heap.size < w2.heap.size := by have := q2.size; simp at this; omega
  obtain ⟨ap2, cp2, ah2, ch2, ab2, cb2, rfl, rfl, rfl⟩ := d2.sl
  have A2 := hide ((A1.out.add q2 (TDsk.st _ _ _ _ _ _) d2).box #[.slice ap2 X.length cp2, .slice ah2 X.length ch2, .slice ab2 Y.length cb2] 25)
  clear q2 d2 A1
  obtain ⟨c0, c1, c2⟩ := (A2.out.atBox 2 rfl).c3
  obtain ⟨lo2, hi2, d2⟩ := A2.out.get 1 rfl
  obtain ⟨lo1, hi1, d1⟩ := A2.out.get 3 rfl
  have D2 : Hid (DskV _ lo2 hi2 _ _ _ X X Y) := d2
  have D1 : Hid (DskV _ lo1 hi1 _ _ _ X X Y) := d1
  clear d1 d2
  go_wp2_with fail
  refine (eqDisk_same _ _ _ _ _ _ X X Y _ D2.out.rp D2.out.rh D2.out.rb D1.out.rp D1.out.rh D1.out.rb).mono ?_
  rintro e w3 ⟨rfl, q⟩
  have A3 := hide (A2.out.step q)
  clear q A2 D1 D2 lo1 hi1 lo2 hi2 c0 c1 c2
  obtain ⟨c0, c1, c2⟩ := (A3.out.atBox 0 rfl).c3
  obtain ⟨lo2, hi2, d2, lw, hw, put⟩ := A3.out.open 1 rfl
  have D2 : Hid (DskV _ lo2 hi2 _ _ _ X X Y) := d2
  have PUT := hide put
  clear d2 put lw
  go_wp2_with fail
  refine (markDisk_calls _ _ _ X X Y 1 lo2 hi2 _ D2.out hw (by omega) (by omega) SZ.out).mono ?_
  rintro e w4 ⟨rfl, d4, q⟩
  have A4 := hide (PUT.out _ (TDsk _ _ _ _ _ _) (TDsk.st _ _ _ _ _ _) d4 q)
  clear q A3 D2 PUT hw lo2 hi2 d4 c0 c1 c2
  obtain ⟨c0, c1, c2⟩ := (A4.out.atBox 0 rfl).c3
  obtain ⟨lo2, hi2, d2⟩ := A4.out.get 1 rfl
  have D2 : Hid (DskV _ lo2 hi2 _ _ _ (marksT 1 X.length) (marksT (1 + X.length) X.length) (marksZ ((1 + X.length + X.length : Nat) : Int) Y.length)) := d2
  clear d2
  go_wp2_with fail
  refine (heldDisk_calls _ _ _ X.length X.length Y.length 1 _ D2.out.rp D2.out.rh D2.out.rb (by omega) (by omega) SZ.out.1 SZ.out.2.1 SZ.out.2.2).mono ?_
  rintro e w5 ⟨rfl, q⟩
  have A5 := hide (A4.out.step q)
  clear q A4 D2 lo2 hi2 c0 c1 c2
  go_wp2_with fail
  refine (C2.out _).mono ?_
  rintro e w6 ⟨p6, h6, b6, rfl, d6, q6⟩
  obtain ⟨ap6, cp6, ah6, ch6, ab6, cb6, rfl, rfl, rfl⟩ := d6.sl
  have A6 := hide ((A5.out.add q6 (TDsk.st _ _ _ _ _ _) d6).box #[.slice ap6 X.length cp6, .slice ah6 X.length ch6, .slice ab6 Y.length cb6] 25)
  clear q6 d6 A5
  obtain ⟨c0, c1, c2⟩ := (A6.out.atBox 4 rfl).c3
  obtain ⟨lo2, hi2, d2⟩ := A6.out.get 1 rfl
  obtain ⟨lo1, hi1, d1⟩ := A6.out.get 5 rfl
  have D2 : Hid (DskV _ lo2 hi2 _ _ _ X X Y) := d2
  have D1 : Hid (DskV _ lo1 hi1 _ _ _ X X Y) := d1
  clear d1 d2
  go_wp2_with fail
  refine (eqDisk_same _ _ _ _ _ _ X X Y _ D2.out.rp D2.out.rh D2.out.rb D1.out.rp D1.out.rh D1.out.rb).mono ?_
  rintro e w7 ⟨rfl, q⟩
  have A7 := hide (A6.out.step q)
  clear q A6 D1 D2 lo1 hi1 lo2 hi2 c0 c1 c2
  obtain ⟨c0, c1, c2⟩ := (A7.out.atBox 2 rfl).c3
  obtain ⟨lo2, hi2, d2⟩ := A7.out.get 3 rfl
  have D2 : Hid (DskV _ lo2 hi2 _ _ _ (marksT 1 X.length) (marksT (1 + X.length) X.length) (marksZ ((1 + X.length + X.length : Nat) : Int) Y.length)) := d2
  clear d2
  go_wp2_with fail
  refine (heldDisk_calls _ _ _ X.length X.length Y.length 1 _ D2.out.rp D2.out.rh D2.out.rb (by omega) (by omega) SZ.out.1 SZ.out.2.1 SZ.out.2.2).mono ?_
  rintro e w8 ⟨rfl, q⟩
  have A8 := hide (A7.out.step q)
  clear q A7 D2 lo2 hi2 c0 c1 c2
  go_wp2
  go_ret
  exact ⟨rfl, A8.out.below⟩
end Go.Proofs.Ytnjpkfgljabdaaa

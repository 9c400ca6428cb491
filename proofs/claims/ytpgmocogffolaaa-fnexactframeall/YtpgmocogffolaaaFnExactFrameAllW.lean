/-
  The law that holds the program's FrameAll against its model's: at all numbers and every text the call returns true, and nothing that was there is written. No condition.
-/
import Derived.Test.YtpgmocogffolaaaFra
namespace Go.Proofs.Ytpgmocogffolaaa
open Go.RowKit
set_option linter.unusedVariables false

set_option maxRecDepth 100000 in
set_option maxHeartbeats 800000 in
theorem fnExactFrameAll_walk (k : Int) (p : Int) (l : Int) (s : ByteArray) (w : World) (hk : (Lit.int .i64 k).wf = true) (hp : (Lit.int .i64 p).wf = true) (hl : (Lit.int .i64 l).wf = true) (hs : s.size ≤ maxLen) :
    Calls Try.prog 13 #[.int .i64 k, .int .i64 p, .int .i64 l, .string s] w fun e w' => e = .returned (.bool true) ∧ Below w.heap.size w w' := by
  have ms := hs
  unfold maxLen at ms
  by_cases ns : s.size ≤ 1048576
  case neg =>
    have h' : (1048576 : Int) < (s.size : Int) := by omega
    go_enter Try.func13, Try.ntmps13
    go_wp2
    go_ret
    exact ⟨rfl, Below.refl _ _⟩
  have ns' : ¬ (1048576 : Int) < (s.size : Int) := by omega
  obtain ⟨hn, hsm⟩ := faR_facts k p l s
  have C1 := hide (fun W => sFrameAll_calls k p l s W hs)
  have C2 := hide (fun W => frameAll_calls k p l s W hs)
  generalize (faR k p l s).1 = xs at hn hsm C1 C2
  generalize (faR k p l s).2 = ok at C1 C2
  have SM := hide hsm
  clear hsm
  go_enter Try.func13, Try.ntmps13
  go_wp2_with fail
  refine (C1.out _).mono ?_
  rintro e w1 ⟨v1, rfl, o1, b1⟩
  have S1 := hide b1
  have R1 := hide (o1.rd SM.out)
  obtain ⟨a1, c1, rfl⟩ := own_slice o1
  clear b1 o1
  go_wp2_with fail
  refine (C2.out _).mono ?_
  rintro e w2 ⟨v2, rfl, o2, b2⟩
  have D2 := hide b2
  have O2 := hide o2
  have R2 := hide (o2.rd SM.out)
  have G2 := hide (own_ge o2)
  obtain ⟨a2, c2, rfl⟩ := own_slice o2
  clear b2 o2
  go_wp2_with fail
  refine (eqStringS_same _ _ xs _ R2.out (R1.out.below D2.out)).mono ?_
  rintro e w3 ⟨rfl, b3⟩
  have D3 := hide (D2.out.trans (b3.mono D2.out.size))
  have O3 := hide (O2.out.below b3)
  clear b3 R2 O2 D2
  go_wp2_with fail
  refine (markStringS_calls _ xs 1 w1.heap.size _ O3.out (by omega) (by omega) (by omega)).mono ?_
  rintro e w4 ⟨rfl, o4, g4⟩
  have D4 := hide (D3.out.grown g4 D3.out.size G2.out)
  have R4 := hide (o4.rd (marksT_small 1 xs.length (by omega)))
  clear o4 g4 O3 D3
  go_wp2_with fail
  refine (heldStringS_calls _ xs.length 1 _ R4.out (by omega) (by omega) (by omega)).mono ?_
  rintro e w5 ⟨rfl, b5⟩
  have D5 := hide (D4.out.trans (b5.mono D4.out.size))
  have R5 := hide (R4.out.below b5)
  clear b5 R4 D4
  go_wp2_with fail
  refine (C2.out _).mono ?_
  rintro e w6 ⟨v6, rfl, o6, b6⟩
  have D6 := hide (D5.out.trans (b6.mono D5.out.size))
  have R6 := hide (R5.out.below b6)
  have Q6 := hide (o6.rd SM.out)
  obtain ⟨a6, c6, rfl⟩ := own_slice o6
  clear b6 o6 R5 D5
  go_wp2_with fail
  refine (eqStringS_same _ _ xs _ Q6.out (R1.out.below D6.out)).mono ?_
  rintro e w7 ⟨rfl, b7⟩
  have D7 := hide (D6.out.trans (b7.mono D6.out.size))
  have R7 := hide (R6.out.below b7)
  clear b7 R6 D6 Q6
  go_wp2_with fail
  refine (heldStringS_calls _ xs.length 1 _ R7.out (by omega) (by omega) (by omega)).mono ?_
  rintro e w8 ⟨rfl, b8⟩
  have D8 := hide (D7.out.trans (b8.mono D7.out.size))
  clear b8 R7 D7
  go_wp2
  go_ret
  exact ⟨rfl, S1.out.trans (D8.out.mono S1.out.size)⟩
end Go.Proofs.Ytpgmocogffolaaa

/-
  The law that holds the program's ReadAll against its model's: at all texts and numbers the call returns true, and nothing that was there is written. No condition.
-/
import Derived.Test.YtpgmocogffolaaaRda
namespace Go.Proofs.Ytpgmocogffolaaa
open Go.RowKit
set_option linter.unusedVariables false

set_option maxRecDepth 100000 in
set_option maxHeartbeats 800000 in
theorem fnExactReadAll_walk (v : Value) (xs : List ByteArray) (k : Int) (p : Int) (l : Int) (w : World) (hr : RdT w v xs) (hk : (Lit.int .i64 k).wf = true) (hp : (Lit.int .i64 p).wf = true) (hl : (Lit.int .i64 l).wf = true) :
    Calls Try.prog 14 #[v, .int .i64 k, .int .i64 p, .int .i64 l] w fun e w' => e = .returned (.bool true) ∧ Below w.heap.size w w' := by
  have R0 := hide hr
  obtain ⟨a0, cap0, rfl, _, _, hsm, _⟩ := hr
  have SM := hide hsm
  clear hsm
  go_enter Try.func14, Try.ntmps14
  go_wp2_with fail
  refine (szStringS_calls _ xs _ R0.out).mono ?_
  rintro e w1 ⟨⟨r, rfl, hsz⟩, rfl⟩
  rcases hsz with hneg | ⟨hpos, hn, _⟩
  · go_wp2
    go_ret
    exact ⟨rfl, Below.refl _ _⟩
  have hpos' : ¬ r < 0 := by omega
  go_wp2_with fail
  refine (toStringS_calls _ xs _ R0.out hn).mono ?_
  rintro e w1 ⟨v1, rfl, o1, b1⟩
  have S1 := hide b1
  have R1 := hide (o1.rd SM.out)
  obtain ⟨a1, c1, rfl⟩ := own_slice o1
  clear b1 o1
  go_wp2_with fail
  refine (sReadAll_calls _ xs k p l _ R1.out).mono ?_
  rintro e w2 ⟨rfl, b2⟩
  have S2 := hide (S1.out.trans (b2.mono S1.out.size))
  clear b2
  go_wp2_with fail
  refine (toStringS_calls _ xs _ (R0.out.below S2.out) hn).mono ?_
  rintro e w3 ⟨v3, rfl, o3, b3⟩
  have S3 := hide (S2.out.trans (b3.mono S2.out.size))
  have R3 := hide (o3.rd SM.out)
  obtain ⟨a3, c3, rfl⟩ := own_slice o3
  clear b3 o3
  go_wp2_with fail
  refine (readAll_calls _ xs k p l _ R3.out).mono ?_
  rintro e w4 ⟨rfl, b4⟩
  have S4 := hide (S3.out.trans (b4.mono S3.out.size))
  have R4 := hide (R3.out.below b4)
  clear b4
  generalize (raR xs k p l).1 = r0
  generalize (raR xs k p l).2.1 = r1
  generalize (raR xs k p l).2.2 = r2
  go_wp2_with fail
  refine (toStringS_calls _ xs _ (R0.out.below S4.out) hn).mono ?_
  rintro e w5 ⟨v5, rfl, o5, b5⟩
  have S5 := hide (S4.out.trans (b5.mono S4.out.size))
  have R5 := hide (o5.rd SM.out)
  have Q5 := hide (R4.out.below b5)
  obtain ⟨a5, c5, rfl⟩ := own_slice o5
  clear b5 o5
  go_wp2_with fail
  refine (eqStringS_same _ _ xs _ Q5.out R5.out).mono ?_
  rintro e w6 ⟨rfl, b6⟩
  have S6 := hide (S5.out.trans (b6.mono S5.out.size))
  clear b6
  go_wp2
  go_ret
  exact ⟨rfl, S6.out⟩
end Go.Proofs.Ytpgmocogffolaaa

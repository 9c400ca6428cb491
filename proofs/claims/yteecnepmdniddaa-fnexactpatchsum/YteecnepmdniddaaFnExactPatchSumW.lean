/-
  The law that holds the program's PatchSum against its model's: at all texts and every number the call returns true, and nothing that was there is written. No condition.
-/
import Derived.Test.YteecnepmdniddaaPtch
namespace Go.Proofs.Yteecnepmdniddaa
open Go.RowKit
set_option linter.unusedVariables false

set_option maxRecDepth 100000 in
set_option maxHeartbeats 800000 in
theorem fnExactPatchSum_walk (s : ByteArray) (p : Int) (t : ByteArray) (w : World) (hs : s.size ≤ maxLen) (hp : (Lit.int .i64 p).wf = true) (ht : t.size ≤ maxLen) :
    Calls Try.prog 8 #[.string s, .int .i64 p, .string t] w fun e w' => e = .returned (.bool true) ∧ Below w.heap.size w w' := by
  have ms := hs
  unfold maxLen at ms
  have mt := ht
  unfold maxLen at mt
  by_cases ns : s.size ≤ 1048576
  case neg =>
    have h' : (1048576 : Int) < (s.size : Int) := by omega
    go_enter Try.func8, Try.ntmps8
    go_wp2
    go_ret
    exact ⟨rfl, Below.refl _ _⟩
  have ns' : ¬ (1048576 : Int) < (s.size : Int) := by omega
  by_cases nt : t.size ≤ 1048576
  case neg =>
    have h' : (1048576 : Int) < (t.size : Int) := by omega
    go_enter Try.func8, Try.ntmps8
    go_wp2
    go_ret
    exact ⟨rfl, Below.refl _ _⟩
  have nt' : ¬ (1048576 : Int) < (t.size : Int) := by omega
  have S0 := hide (Below.refl w.heap.size w)
  go_enter Try.func8, Try.ntmps8
  go_wp2_with fail
  refine Calls.mono (sPatchSum_calls s p t _ hs ht) ?_
  rintro e w1 ⟨rfl, b⟩
  have S1 := hide (S0.out.trans (b.mono S0.out.size))
  clear b S0
  go_wp2_with fail
  refine (patchSum_calls s p t _ hs ht).mono ?_
  rintro e w2 ⟨rfl, b⟩
  have S2 := hide (S1.out.trans (b.mono S1.out.size))
  clear b S1
  generalize (patchR s p t).1 = x0
  generalize (patchR s p t).2.1 = x1
  generalize (patchR s p t).2.2 = x2
  go_wp2
  go_ret
  exact ⟨rfl, S2.out⟩
end Go.Proofs.Yteecnepmdniddaa

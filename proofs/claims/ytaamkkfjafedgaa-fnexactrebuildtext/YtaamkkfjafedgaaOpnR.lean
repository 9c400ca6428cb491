/-
  Arguments opened: a recipe. No condition; no call is walked here.
-/
import Derived.Test.YtaamkkfjafedgaaFrm
import Derived.Test.YtaamkkfjafedgaaOpen
import Derived.Test.YtaamkkfjafedgaaTxm
import Derived.Lib.SmallJoins
import Derived.SliceStrings
namespace Go.Proofs.Ytaamkkfjafedgaa.Frame
open Go.ChangeShapes Go.WideShapes Go.ChangeAt Go.RowKit
set_option linter.unusedVariables false
section
variable {H : Type} {enc : TypeId × Value → H} {W : World}

theorem rdT_of9 {n : Nat} {v : Value} {y : DataW H × List MemPlace} (h : DataW.trod enc Try.prog W 0 (fun _ => true) true n 27 [v] = some y) : ∃ xs, RdT W v xs := by
  rcases open_strings Try.underlying27 Try.underlying9 (by kernel_rfl) h with ⟨hcs, _⟩ | ⟨x, l, c, ss, hcs, _, hl, hm, hz, hx, hcell, hwz⟩
  · simp only [List.cons.injEq, and_true] at hcs
    subst hcs
    exact ⟨[], rdT_nil W⟩
  · simp only [List.cons.injEq, and_true] at hcs
    subst hcs
    exact ⟨_, rdT_open hl hm (by simpa using hz) hcell hwz⟩
theorem rdM_of9 {n : Nat} {v : Value} {y : DataW H × List MemPlace} (h : DataW.trod enc Try.prog W 0 (fun _ => true) true n 42 [v] = some y) : ∃ m, RdM W v m := by
  obtain ⟨a, l, c, rfl⟩ : ∃ a l c, v = .slice a l c := by
    rcases Go.Deep.open_int_rows Try.underlying42 Try.underlying24 Try.underlying3 (by kernel_rfl) (by kernel_rfl) h with ⟨hcs, _⟩ | ⟨x, l, c, A, L, C, Z, hcs, _⟩
    · simp only [List.cons.injEq, and_true] at hcs
      exact ⟨_, _, _, hcs⟩
    · simp only [List.cons.injEq, and_true] at hcs
      exact ⟨_, _, _, hcs⟩
  exact rdM_of h rfl
set_option maxRecDepth 100000 in
theorem rcp_of {r : Reach} {b0 : Nat} {v : Value} {d : DataW H} {p : List MemPlace} (hv : Value.okWide Try.prog W r b0 60 v) (h : DataW.Trod enc Try.prog W 0 (fun _ => true) true 60 v d p) :
    ∃ vc vu C U, v = .agg #[vc, vu] ∧ RdT W vc C ∧ RdM W vu U := by
  obtain ⟨c0, c1, y0, y1, n, rfl, rfl, rfl, g0, g1⟩ := Go.Joins.open_agg2 Try.underlying60 (by kernel_rfl) (by kernel_rfl) hv h
  obtain ⟨C, hC⟩ := rdT_of9 g0
  obtain ⟨U, hU⟩ := rdM_of9 g1
  exact ⟨c0, c1, C, U, rfl, hC, hU⟩
end
end Go.Proofs.Ytaamkkfjafedgaa.Frame

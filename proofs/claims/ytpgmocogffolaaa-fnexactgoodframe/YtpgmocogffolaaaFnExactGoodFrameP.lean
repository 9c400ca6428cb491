/-
  At every frame the program's GoodFrame answers as its model. No condition.
-/
import Derived.Test.YtpgmocogffolaaaFrm
import Derived.Test.YtpgmocogffolaaaFnExactGoodFrameW
import Derived.Lib.SmallJoins
namespace Go.Proofs.Ytpgmocogffolaaa.fnExactGoodFrame
open Go.ChangeShapes Go.WideShapes Go.ChangeAt Go.RowKit Go.Proofs.Ytpgmocogffolaaa.Frame
set_option linter.unusedVariables false

set_option maxRecDepth 100000 in
theorem lifted (os : Os) (started : os.Started) (H : Type) (enc : TypeId × Value → H) :
    ReturnsInHanded {} Try.checked os 9 .any (Rows.fnExactGoodFrameSpec.pre6 enc Try.prog Try.f9 Rows.fnExactGoodFrameRow.domain false) (Rows.fnExactGoodFrameSpec.post enc Try.prog Try.f9 false true false false) := by
  refine returnsInHanded_of_change (C := Try.checked) own started (by kernel_rfl) Try.func9
    (ChangeSpec.witness6 (enc := enc) (C := Try.checked) false ⟨#[], #[.agg #[.int .i64 0, .int .i64 0, .int .i64 0, .string ⟨#[]⟩]], []⟩ 8 (by kernel_rfl) (by kernel_rfl) (by kernel_rfl) (by kernel_rfl)) ?_
  intro W base args ds gs before hval0 hW hcnd _
  have hval : ∀ (j : Nat) t v, Try.f9.params[j]? = some t → args[j]? = some v → Value.okWide Try.prog W .any base t v := hval0
  have hW' := hW
  obtain ⟨p, q, hA0, hV, rfl, hfz, hnd⟩ := hW
  have hA : DataW.TrodAll enc Try.prog W 0 (fun _ => true) true Try.f9.params.toList args.toList ds p := hA0
  rw [Try.params9] at hA hval
  obtain ⟨v0, vs0, d0, ds0, p0, q0, hargs, rfl, rfl, h0, r0⟩ := trodAll_cons hA
  obtain ⟨rfl, rfl, rfl⟩ := trodAll_nil r0
  obtain rfl : args = #[v0] := by cases args; simp_all
  obtain ⟨rfl, rfl⟩ := trodVars_none hV
  obtain ⟨c0, c1, c2, c3, y0, y1, y2, y3, n0, rfl, rfl, rfl, g0, g1, g2, g3⟩ := Go.Joins.open_agg4 Try.underlying66 (by kernel_rfl) (by kernel_rfl) (hval 0 66 v0 rfl rfl) h0
  obtain ⟨K0, e0, rfl, _⟩ := DataW.trod_int Try.underlying3 g0
  obtain ⟨A0, e1, rfl, _⟩ := DataW.trod_int Try.underlying3 g1
  obtain ⟨E0, e2, rfl, _⟩ := DataW.trod_int Try.underlying3 g2
  obtain ⟨b0, e3, rfl, w0⟩ := DataW.trod_string Try.underlying9 g3
  obtain rfl : c0 = .int .i64 K0 := by simpa using e0
  obtain rfl : c1 = .int .i64 A0 := by simpa using e1
  obtain rfl : c2 = .int .i64 E0 := by simpa using e2
  obtain rfl : c3 = .string b0 := by simpa using e3
  refine (fnExactGoodFrame_walk K0 A0 E0 b0 W w0).mono fun e W' ⟨he, hb⟩ => ?_
  subst he
  exact ⟨_, rfl, law_post (by kernel_rfl) noVars (by kernel_rfl) rfl hW' hb⟩

theorem proved : Rows.FnExactGoodFrameSaid :=
  OpenClaim.holds_of_wide 9 Try.f9 rfl rfl rfl rfl rfl rfl rfl ⟨rfl, rfl, rfl, rfl, rfl⟩ rfl rfl rfl rfl rfl (by kernel_rfl) Try.func9 (by kernel_rfl)
    (of_decide_eq_true (by kernel_rfl)) (by unfold Func.isWrapper; first | (rw [if_pos (by decide +kernel)]; kernel_rfl) | (rw [if_neg (by decide +kernel)]; exact ⟨rfl, rfl⟩))
    (fun os started H enc _ => lifted os started H enc)
#print axioms proved
end Go.Proofs.Ytpgmocogffolaaa.fnExactGoodFrame

/-
  Arguments opened: a filter. No condition; no call is walked here.
-/
import Derived.Test.YtehjfjplajimfaaOpn
import Derived.Test.YtehjfjplajimfaaFla
namespace Go.Proofs.Ytehjfjplajimfaa.Frame
open Go.ChangeShapes Go.WideShapes Go.ChangeAt Go.RowKit
set_option linter.unusedVariables false
section
variable {H : Type} {enc : TypeId × Value → H} {W : World}
theorem array1 {α : Type} {cs : Array α} (h : cs.size = 1) : ∃ c0, cs = #[c0] := by
  obtain ⟨l⟩ := cs
  match l, h with
  | [c0], _ => exact ⟨c0, rfl⟩
set_option maxRecDepth 100000 in
theorem fil_of {r : Reach} {b0 : Nat} {v : Value} {d : DataW H} {p : List MemPlace} (hv : Value.okWide Try.prog W r b0 51 v) (h : DataW.Trod enc Try.prog W 0 (fun _ => true) true 51 v d p) :
    ∃ (vb : Value) (bs : List Bool), v = .agg #[vb] ∧ RdZ W vb bs := by
  obtain ⟨cs, rfl, hsz⟩ := okWide_struct Try.underlying51 hv
  obtain ⟨c0, rfl⟩ := array1 (hsz.trans (by kernel_rfl))
  obtain ⟨fuel, hf⟩ := h
  obtain ⟨y0, n, _, _, h0⟩ := trod_struct1 Try.underlying51 hf
  have k1 : Try.prog.cellsOf 36 = 1 := by kernel_rfl
  simp only [k1, Value.cells, List.drop_zero] at h0
  obtain ⟨bs, hb⟩ := rdZ_of (by simpa using h0)
  exact ⟨c0, bs, rfl, hb⟩
end
end Go.Proofs.Ytehjfjplajimfaa.Frame

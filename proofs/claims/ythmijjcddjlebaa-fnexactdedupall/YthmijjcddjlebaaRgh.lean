/-
  A region that draws its order, in a round of a range over a function, by what holds of it outside of all loops: the road to the laws of held regions. No program.
-/
import Derived.Test.YthmijjcddjlebaaRgf
import Derived.Deep.RegionHeld3
namespace Go.Proofs.Ythmijjcddjlebaa
open Go.RowKit
set_option linter.unusedVariables false

theorem operIn_wide {n : Nat} {P : Program} {o : Oper} {a : Act} {w : World} {K : Act → World → Prop} {Q : Exit → Act → World → Prop} (h : o.wp P a w K Q) : o.wpIn Fence.wide n P a w K Q := by
  unfold Oper.wp at h
  refine ⟨fun _ _ => trivial, ?_⟩
  show o.uponIn Fence.wide n P a K Q ((execOp a.eval o).run P w)
  generalize (execOp a.eval o).run P w = r at h ⊢
  have hd : Fence.wide.depth.isSome = true → 1 ≤ n := fun h => by simp [Fence.wide] at h
  cases r with
  | ok nx w' =>
    cases nx with
    | value v => exact h
    | skip => exact h
    | defer d => exact h
    | enter f args => exact ⟨hd, callsIn_wide.2 h⟩
    | row row args => exact ⟨hd, fun c cs _ => let ⟨v, w', r, s⟩ := h c cs; ⟨v, w', r, stepsIn_wide.2 s⟩⟩
    | _ => exact h.elim
  | halt hl w' => cases hl <;> first | exact h | exact h.elim
/-- Operations that draw their order, where none lets the memory run out. -/
theorem wpAnyIn_plain {n : Nat} {P : Program} {md : Region.Mode} {ops : Array Oper} {Q : Exit → Act → World → Prop} (hL : ¬ LetsOut Q) :
    ∀ (fuel : Nat) (listed : Array Bool) (a : Act) (w : World), wpAny P md ops Q fuel listed a w → wpAnyIn Fence.wide n P md ops Q fuel listed a w := by
  intro fuel
  induction fuel with
  | zero => exact fun listed a w h => h
  | succ fuel ih =>
    intro listed a w h
    refine ⟨h.1, fun i hi => ?_⟩
    have hh := h.2 i hi
    unfold wpOp at hh
    unfold wpOpIn
    cases ho : ops[i]? with
    | none => rw [ho] at hh; exact ih _ _ _ hh
    | some o =>
      rw [ho] at hh
      simp only at hh ⊢
      split at hh
      · rename_i hw
        rw [if_pos hw]
        rcases hh with hh | hh
        · exact Oper.wpIn_mono (fun a w h => ih _ a w h) (operIn_wide hh)
        · exact absurd hh.2 hL
      · rename_i hw
        rw [if_neg hw]
        exact ⟨fun _ _ => trivial, ih _ _ _ hh⟩
/-- A region in a round, held: S holds behind every operation. -/
theorem wpIn_region_held_rd {n l id : Nat} {P : Program} {ops : Array Oper} {R : Act → World → Prop} {a : Act} {w : World} {S : World → Prop} (hm : P.follows .mixedOrders = true) (hd : noDefer ops = true)
    (h : wpAnyH P .any ops (fun e a w => e = .normal ∧ R a w) S ops.size (Array.replicate ops.size false) a w.drew) : (Code.region id ops true).wpIn (Fence.wide.inRound l) n P (fun e a w => e = .normal ∧ R a w) a w :=
  by
  refine wpIn_region_rd hm hd (wpAnyIn_plain ?_ _ _ _ _ (wpAny_of_held _ _ _ _ h))
  rintro ⟨_, _, h, _⟩
  exact Exit.noConfusion h
end Go.Proofs.Ythmijjcddjlebaa

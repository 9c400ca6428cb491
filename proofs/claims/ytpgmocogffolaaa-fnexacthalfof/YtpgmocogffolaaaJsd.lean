/-
  Lists of texts as things that a law holds, and what StateBytes and StateFrom answer, by size. No call is walked here.
-/
import Derived.Test.YtpgmocogffolaaaJsc
namespace Go.Proofs.Ytpgmocogffolaaa
open Go.RowKit
set_option linter.unusedVariables false

/-- A list of texts of the call's own. -/
def TTxs (v : Value) (xs : List ByteArray) : Tg := fun lo hi w => OwnT w lo v xs ∧ ∀ k, v.ownBlock = some k → k < hi
theorem TTxs.st (v : Value) (xs : List ByteArray) : (TTxs v xs).st := fun lo hi a b w w' h hc hd => ⟨ownsRow_chg h.1 h.2 hc hd, h.2⟩
theorem sbR_facts (t : Bool) (vs : List Int) (ht : t = true ↔ jsP vs) : (sbR t vs).length ≤ 2 ∧ ∀ s ∈ sbR t vs, s.size ≤ maxLen := by
  cases t with
  | false => exact ⟨by simp [sbR], by simp [sbR]⟩
  | true =>
    refine ⟨Nat.le_refl _, fun s hs => ?_⟩
    have := jsT_size vs (ht.1 rfl).2 s hs
    unfold maxLen
    omega
theorem sfR_facts (t : Bool) (l : List ByteArray) : (sfR t l).length ≤ 6 := by
  cases t with
  | false => simp [sfR]
  | true => exact Nat.le_of_eq (jsV_len l)
end Go.Proofs.Ytpgmocogffolaaa

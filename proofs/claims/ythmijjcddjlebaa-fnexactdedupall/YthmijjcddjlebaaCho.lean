/-
  The chunks of a text by the program, call by call. No condition but that it is a text.
-/
import Derived.Test.YthmijjcddjlebaaCus
import Derived.Test.YthmijjcddjlebaaCln
namespace Go.Proofs.Ythmijjcddjlebaa
open Go.RowKit Go.Shelf
set_option linter.unusedVariables false
attribute [local go_sem] Oper.semAt_some

/-- The chunks of a text. -/
def chunksT (s : ByteArray) : List ByteArray := (pairsN (bs s) s.size).map fun p : Nat × Nat => s.extract p.1 p.2
def chunksV (s : ByteArray) : List Value := (chunksT s).map Value.string
theorem chunksV_length (s : ByteArray) : (chunksV s).length = (chunksT s).length := by unfold chunksV; rw [List.length_map]
def chunksR (s : ByteArray) : List ByteArray × Bool := if s.size ≤ 300 then (chunksT s, true) else ([], false)
theorem chunksT_at {s : ByteArray} {i : Nat} {p : Nat × Nat} (h : (pairsN (bs s) s.size)[i]? = some p) : (chunksT s)[i]? = some (s.extract p.1 p.2) := by unfold chunksT; rw [List.getElem?_map, h]; rfl
theorem chunksV_step {s : ByteArray} {i : Nat} {p : Nat × Nat} (h : (pairsN (bs s) s.size)[i]? = some p) : (chunksV s).take (i + 1) = (chunksV s).take i ++ [.string (s.extract p.1 p.2)] := by
  have h1 : (chunksV s)[i]? = some (.string (s.extract p.1 p.2)) := by unfold chunksV; rw [List.getElem?_map, chunksT_at h]; rfl
  obtain ⟨hl, he⟩ := List.getElem?_eq_some_iff.1 h1
  rw [List.take_succ_eq_append_getElem hl, he]
theorem chunkArgs_cuts9 (s : ByteArray) : (chunkArgs s).length = (chunksT s).length := by rw [chunkArgs_length, chunksT, List.length_map]
theorem chunksT_length (s : ByteArray) : (chunksT s).length ≤ s.size := by rw [← chunkArgs_cuts9, chunkArgs_cuts]; exact cutsI_length s
theorem ext_le9 (s : ByteArray) (i j : Nat) : (s.extract i j).size ≤ s.size := by
  rw [← bs_length, bs_mid9, List.length_drop, List.length_take, bs_length]
  omega

end Go.Proofs.Ythmijjcddjlebaa

/-
  The cuts of a text by the program, call by call. No condition but that it is a text.
-/
import Derived.Test.YthmijjcddjlebaaChi
import Derived.Test.YthmijjcddjlebaaCbx
import Derived.Test.YthmijjcddjlebaaInts
namespace Go.Proofs.Ythmijjcddjlebaa
open Go.RowKit Go.Shelf
set_option linter.unusedVariables false
attribute [local go_sem] Oper.semAt_some

set_option maxRecDepth 100000 in
theorem isCutText_calls (s : ByteArray) (w : World) (hn : s.size ≤ maxLen) : Calls Try.prog 62 #[.string s] w fun e w' => e = .returned (.bool (decide (s.size ≤ 300))) ∧ w = w' := by
  unfold maxLen at hn
  have e : decide (s.size ≤ 300) = decide ((s.size : Int) ≤ 300) := decide_eq_decide.2 (by omega)
  rw [e]
  clear e
  go_enter Try.func62, Try.ntmps62
  go_wp2
  go_ret
  exact ⟨rfl, rfl⟩

/-- The cuts as numbers. -/
def cutsI (s : ByteArray) : List Int := (cutsN (bs s) s.size).map fun c : Nat => (c : Int)
def cutsV (s : ByteArray) : List Value := (cutsI s).map (Value.int .i64)
theorem cutsV_length (s : ByteArray) : (cutsV s).length = (cutsI s).length := by unfold cutsV; rw [List.length_map]
def cutsR (s : ByteArray) : List Int × Bool := if s.size ≤ 300 then (cutsI s, true) else ([], false)
theorem chunkArgs_cut {s : ByteArray} {i : Nat} {p : Nat × Nat} (h : (pairsN (bs s) s.size)[i]? = some p) : (cutsI s).take (i + 1) = (cutsI s).take i ++ [(p.2 : Int)] := by
  have hc : (cutsN (bs s) s.size)[i]? = some p.2 := by rw [← pairsN_cuts, List.getElem?_map, h]; rfl
  have hl : i < (cutsI s).length := by unfold cutsI; rw [List.length_map]; exact (List.getElem?_eq_some_iff.1 hc).1
  rw [List.take_succ_eq_append_getElem hl]
  congr 2
  have := List.getElem?_eq_getElem hl
  unfold cutsI at this ⊢
  rw [List.getElem?_map, hc] at this
  exact (Option.some.inj this).symm
theorem cutsV_step {s : ByteArray} {i : Nat} {p : Nat × Nat} (h : (pairsN (bs s) s.size)[i]? = some p) : (cutsV s).take (i + 1) = (cutsV s).take i ++ [.int .i64 (p.2 : Int)] := by
  unfold cutsV
  rw [← List.map_take, chunkArgs_cut h, List.map_append, List.map_take]
  rfl
theorem chunkArgs_cuts (s : ByteArray) : (chunkArgs s).length = (cutsI s).length := by
  rw [chunkArgs_length, cutsI, List.length_map, ← pairsN_cuts, List.length_map]
theorem cutsI_length (s : ByteArray) : (cutsI s).length ≤ s.size := by unfold cutsI; rw [List.length_map]; exact cutsN_len _ _

end Go.Proofs.Ythmijjcddjlebaa

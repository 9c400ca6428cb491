/-
  No cell of these rows narrows 'for every input' (looked for: loops, veiled, ifaces, maps, wideKeys, modest, calm, conditions, laid).
  DERIVED. THE GIVEN ROWS OF THIS SEAT. 9 by the template 'for every input the law returns true; each argument reads behind the call as it read before'; 0 by the template 'total and deterministic' (their statements: YtkhpgeeacanpdaaTotals.lean).
  GIVEN WITH THE SEED: the statements are not yours to turn. If you find one false, say at which input.
  Laid BY PROGRAM, IN A SANDBOX (cutbox-rows.mjs): the forced cells as the released guide's own fill.sh prints them over the translation b4d41c9d4a045098… (all of the seat's roots in one cut). By AI agents, Wed Nov 11 2026. No macro, syntax, notation, axiom, sorry.
-/
import Derived.Test.YtkhpgeeacanpdaaChecked
import GoSem.Claim
import GoSem.ClaimJoined
import GoSem.ClaimMapViews
import Derived.JoinedTies
import Derived.KernelRfl
namespace Go.Proofs.Ytkhpgeeacanpdaa
/- THE CELL 'sum', in the pinned program and in every row, IS THE sha256 OF THE DUMP (.gsa) THAT YtkhpgeeacanpdaaProg.lean LOADS. Nothing in Lean hashes anything: it is a label: what it is worth is what the hold of that sum in a sandbox is worth. -/
noncomputable def Try.pinned : Pinned := { name := "ytkhpgeeacanpdaa", sum := "b4d41c9d4a0450980453521a56c6f427bfa86aa04830443d8e5501814777274c", checked := Try.checked }
namespace Rows
def none {H : Type} : Left H := { results := [], args := [] }

/-- 'laws.FnBodies': WHATEVER THE INPUT: true; the input reads as it did. -/
def fnBodiesSpec : ChangeSpec := { name := "fnBodies", fn := fun _ => fun
  | [d1, d2] => { results := [.lit (.bool true)], args := [d1, d2] }
  | _ => none }
def fnBodiesRow : OpenClaim := { program := "ytkhpgeeacanpdaa", sum := "b4d41c9d4a0450980453521a56c6f427bfa86aa04830443d8e5501814777274c", func := "loop.example/g00405/laws.FnBodies", spec := "fnBodies", unfollowed := true, recurses := true, apart := false }
def FnBodiesSaid : Prop := fnBodiesRow.holds Try.pinned (OpenSpec.ofChange fnBodiesSpec)

/-- ITS FALSE NEIGHBOUR: 'it returns false'. Refute it at one input. -/
def fnBodiesWrong : ChangeSpec := { name := "fnBodies", fn := fun _ => fun
  | [d1, d2] => { results := [.lit (.bool false)], args := [d1, d2] }
  | _ => none }
def FnBodiesWrongFalsely : Prop := fnBodiesRow.holds Try.pinned (OpenSpec.ofChange fnBodiesWrong)

/-- 'laws.FnExactGoodFrame': WHATEVER THE INPUT: true; the input reads as it did. -/
def fnExactGoodFrameSpec : ChangeSpec := { name := "fnExactGoodFrame", fn := fun _ => fun
  | [d] => { results := [.lit (.bool true)], args := [d] }
  | _ => none }
def fnExactGoodFrameRow : OpenClaim := { program := "ytkhpgeeacanpdaa", sum := "b4d41c9d4a0450980453521a56c6f427bfa86aa04830443d8e5501814777274c", func := "loop.example/g00405/laws.FnExactGoodFrame", spec := "fnExactGoodFrame", apart := false }
def FnExactGoodFrameSaid : Prop := fnExactGoodFrameRow.holds Try.pinned (OpenSpec.ofChange fnExactGoodFrameSpec)

/-- ITS FALSE NEIGHBOUR: 'it returns false'. Refute it at one input. -/
def fnExactGoodFrameWrong : ChangeSpec := { name := "fnExactGoodFrame", fn := fun _ => fun
  | [d] => { results := [.lit (.bool false)], args := [d] }
  | _ => none }
def FnExactGoodFrameWrongFalsely : Prop := fnExactGoodFrameRow.holds Try.pinned (OpenSpec.ofChange fnExactGoodFrameWrong)

/-- 'laws.FnExactFrameBytes': WHATEVER THE INPUT: true; the input reads as it did. -/
def fnExactFrameBytesSpec : ChangeSpec := { name := "fnExactFrameBytes", fn := fun _ => fun
  | [d] => { results := [.lit (.bool true)], args := [d] }
  | _ => none }
def fnExactFrameBytesRow : OpenClaim := { program := "ytkhpgeeacanpdaa", sum := "b4d41c9d4a0450980453521a56c6f427bfa86aa04830443d8e5501814777274c", func := "loop.example/g00405/laws.FnExactFrameBytes", spec := "fnExactFrameBytes", apart := false }
def FnExactFrameBytesSaid : Prop := fnExactFrameBytesRow.holds Try.pinned (OpenSpec.ofChange fnExactFrameBytesSpec)

/-- ITS FALSE NEIGHBOUR: 'it returns false'. Refute it at one input. -/
def fnExactFrameBytesWrong : ChangeSpec := { name := "fnExactFrameBytes", fn := fun _ => fun
  | [d] => { results := [.lit (.bool false)], args := [d] }
  | _ => none }
def FnExactFrameBytesWrongFalsely : Prop := fnExactFrameBytesRow.holds Try.pinned (OpenSpec.ofChange fnExactFrameBytesWrong)

/-- 'laws.FnExactReadFrame': WHATEVER THE INPUT: true; the input reads as it did. -/
def fnExactReadFrameSpec : ChangeSpec := { name := "fnExactReadFrame", fn := fun _ => fun
  | [d] => { results := [.lit (.bool true)], args := [d] }
  | _ => none }
def fnExactReadFrameRow : OpenClaim := { program := "ytkhpgeeacanpdaa", sum := "b4d41c9d4a0450980453521a56c6f427bfa86aa04830443d8e5501814777274c", func := "loop.example/g00405/laws.FnExactReadFrame", spec := "fnExactReadFrame", apart := false }
def FnExactReadFrameSaid : Prop := fnExactReadFrameRow.holds Try.pinned (OpenSpec.ofChange fnExactReadFrameSpec)

/-- ITS FALSE NEIGHBOUR: 'it returns false'. Refute it at one input. -/
def fnExactReadFrameWrong : ChangeSpec := { name := "fnExactReadFrame", fn := fun _ => fun
  | [d] => { results := [.lit (.bool false)], args := [d] }
  | _ => none }
def FnExactReadFrameWrongFalsely : Prop := fnExactReadFrameRow.holds Try.pinned (OpenSpec.ofChange fnExactReadFrameWrong)

/-- 'laws.FnExactCheckFrame': WHATEVER THE INPUT: true; the input reads as it did. -/
def fnExactCheckFrameSpec : ChangeSpec := { name := "fnExactCheckFrame", fn := fun _ => fun
  | [d1, d2, d3, d4] => { results := [.lit (.bool true)], args := [d1, d2, d3, d4] }
  | _ => none }
def fnExactCheckFrameRow : OpenClaim := { program := "ytkhpgeeacanpdaa", sum := "b4d41c9d4a0450980453521a56c6f427bfa86aa04830443d8e5501814777274c", func := "loop.example/g00405/laws.FnExactCheckFrame", spec := "fnExactCheckFrame", apart := false }
def FnExactCheckFrameSaid : Prop := fnExactCheckFrameRow.holds Try.pinned (OpenSpec.ofChange fnExactCheckFrameSpec)

/-- ITS FALSE NEIGHBOUR: 'it returns false'. Refute it at one input. -/
def fnExactCheckFrameWrong : ChangeSpec := { name := "fnExactCheckFrame", fn := fun _ => fun
  | [d1, d2, d3, d4] => { results := [.lit (.bool false)], args := [d1, d2, d3, d4] }
  | _ => none }
def FnExactCheckFrameWrongFalsely : Prop := fnExactCheckFrameRow.holds Try.pinned (OpenSpec.ofChange fnExactCheckFrameWrong)

/-- 'laws.FnExactSplitBody': WHATEVER THE INPUT: true; the input reads as it did. -/
def fnExactSplitBodySpec : ChangeSpec := { name := "fnExactSplitBody", fn := fun _ => fun
  | [d] => { results := [.lit (.bool true)], args := [d] }
  | _ => none }
def fnExactSplitBodyRow : OpenClaim := { program := "ytkhpgeeacanpdaa", sum := "b4d41c9d4a0450980453521a56c6f427bfa86aa04830443d8e5501814777274c", func := "loop.example/g00405/laws.FnExactSplitBody", spec := "fnExactSplitBody", apart := false }
def FnExactSplitBodySaid : Prop := fnExactSplitBodyRow.holds Try.pinned (OpenSpec.ofChange fnExactSplitBodySpec)

/-- ITS FALSE NEIGHBOUR: 'it returns false'. Refute it at one input. -/
def fnExactSplitBodyWrong : ChangeSpec := { name := "fnExactSplitBody", fn := fun _ => fun
  | [d] => { results := [.lit (.bool false)], args := [d] }
  | _ => none }
def FnExactSplitBodyWrongFalsely : Prop := fnExactSplitBodyRow.holds Try.pinned (OpenSpec.ofChange fnExactSplitBodyWrong)

/-- 'laws.FnExactJoinBody': WHATEVER THE INPUT: true; the input reads as it did. -/
def fnExactJoinBodySpec : ChangeSpec := { name := "fnExactJoinBody", fn := fun _ => fun
  | [d] => { results := [.lit (.bool true)], args := [d] }
  | _ => none }
def fnExactJoinBodyRow : OpenClaim := { program := "ytkhpgeeacanpdaa", sum := "b4d41c9d4a0450980453521a56c6f427bfa86aa04830443d8e5501814777274c", func := "loop.example/g00405/laws.FnExactJoinBody", spec := "fnExactJoinBody", unfollowed := true, recurses := true, apart := false }
def FnExactJoinBodySaid : Prop := fnExactJoinBodyRow.holds Try.pinned (OpenSpec.ofChange fnExactJoinBodySpec)

/-- ITS FALSE NEIGHBOUR: 'it returns false'. Refute it at one input. -/
def fnExactJoinBodyWrong : ChangeSpec := { name := "fnExactJoinBody", fn := fun _ => fun
  | [d] => { results := [.lit (.bool false)], args := [d] }
  | _ => none }
def FnExactJoinBodyWrongFalsely : Prop := fnExactJoinBodyRow.holds Try.pinned (OpenSpec.ofChange fnExactJoinBodyWrong)

/-- 'laws.FnExactFrameAll': WHATEVER THE INPUT: true; the input reads as it did. -/
def fnExactFrameAllSpec : ChangeSpec := { name := "fnExactFrameAll", fn := fun _ => fun
  | [d1, d2, d3, d4] => { results := [.lit (.bool true)], args := [d1, d2, d3, d4] }
  | _ => none }
def fnExactFrameAllRow : OpenClaim := { program := "ytkhpgeeacanpdaa", sum := "b4d41c9d4a0450980453521a56c6f427bfa86aa04830443d8e5501814777274c", func := "loop.example/g00405/laws.FnExactFrameAll", spec := "fnExactFrameAll", apart := false }
def FnExactFrameAllSaid : Prop := fnExactFrameAllRow.holds Try.pinned (OpenSpec.ofChange fnExactFrameAllSpec)

/-- ITS FALSE NEIGHBOUR: 'it returns false'. Refute it at one input. -/
def fnExactFrameAllWrong : ChangeSpec := { name := "fnExactFrameAll", fn := fun _ => fun
  | [d1, d2, d3, d4] => { results := [.lit (.bool false)], args := [d1, d2, d3, d4] }
  | _ => none }
def FnExactFrameAllWrongFalsely : Prop := fnExactFrameAllRow.holds Try.pinned (OpenSpec.ofChange fnExactFrameAllWrong)

/-- 'laws.FnExactReadAll': WHATEVER THE INPUT: true; the input reads as it did. -/
def fnExactReadAllSpec : ChangeSpec := { name := "fnExactReadAll", fn := fun _ => fun
  | [d1, d2, d3, d4] => { results := [.lit (.bool true)], args := [d1, d2, d3, d4] }
  | _ => none }
def fnExactReadAllRow : OpenClaim := { program := "ytkhpgeeacanpdaa", sum := "b4d41c9d4a0450980453521a56c6f427bfa86aa04830443d8e5501814777274c", func := "loop.example/g00405/laws.FnExactReadAll", spec := "fnExactReadAll", unfollowed := true, recurses := true, apart := false }
def FnExactReadAllSaid : Prop := fnExactReadAllRow.holds Try.pinned (OpenSpec.ofChange fnExactReadAllSpec)

/-- ITS FALSE NEIGHBOUR: 'it returns false'. Refute it at one input. -/
def fnExactReadAllWrong : ChangeSpec := { name := "fnExactReadAll", fn := fun _ => fun
  | [d1, d2, d3, d4] => { results := [.lit (.bool false)], args := [d1, d2, d3, d4] }
  | _ => none }
def FnExactReadAllWrongFalsely : Prop := fnExactReadAllRow.holds Try.pinned (OpenSpec.ofChange fnExactReadAllWrong)

/- THE SECOND FORM. 'bulk': how many values and letters a reading holds, each counted each time it is reached (what is shared counts as often as it is met; a slice's spare places count too). A statement '..UptoSaid' is the law's where the arguments, and the package variables that the reading takes, are together of bulk at most 1048576: NARROWER than '..Said'. Prove '..Said' where nothing that the law and all that it calls make is longer than what came in: it says more and counts as full. Else prove '..UptoSaid'. A law counts once. -/
mutual
def uptoBulk {H : Type} : DataW H → Nat
  | .lit (.string bytes) => bytes.length + 1
  | .lit _ => 1
  | .nil => 1
  | .ptr d => uptoBulk d + 1
  | .slice elems spare => uptoBulkAll elems + uptoBulkAll spare + 1
  | .agg parts => uptoBulkAll parts + 1
  | .iface _ d => uptoBulk d + 1
  | .map entries => uptoBulkEntries entries + 1
  | .held _ => 1
def uptoBulkAll {H : Type} : List (DataW H) → Nat
  | [] => 0
  | d :: r => uptoBulk d + uptoBulkAll r
def uptoBulkEntries {H : Type} : List (Lit × DataW H) → Nat
  | [] => 0
  | x :: r => uptoBulkEntry x + uptoBulkEntries r
def uptoBulkEntry {H : Type} : Lit × DataW H → Nat
  | (.string bytes, d) => bytes.length + uptoBulk d + 1
  | (_, d) => uptoBulk d + 1
 end
def uptoSmall : (H : Type) → List (DataW H) → Bool := fun _ ds => decide (uptoBulkAll ds ≤ 1048576)
def OpenSpec.upto (s : _root_.Go.ChangeSpec) : _root_.Go.OpenSpec := { _root_.Go.OpenSpec.ofChange s with cond := some uptoSmall }

/-- 'laws.FnBodies', WHERE WHAT IT READS IS OF BULK AT MOST 1048576: true; the input reads as it did. -/
def fnBodiesUptoRow : OpenClaim := { program := "ytkhpgeeacanpdaa", sum := "b4d41c9d4a0450980453521a56c6f427bfa86aa04830443d8e5501814777274c", func := "loop.example/g00405/laws.FnBodies", spec := "fnBodies", unfollowed := true, recurses := true, apart := false, narrowed := true }
def FnBodiesUptoSaid : Prop := fnBodiesUptoRow.holds Try.pinned (OpenSpec.upto fnBodiesSpec)

/-- 'laws.FnExactGoodFrame', WHERE WHAT IT READS IS OF BULK AT MOST 1048576: true; the input reads as it did. -/
def fnExactGoodFrameUptoRow : OpenClaim := { program := "ytkhpgeeacanpdaa", sum := "b4d41c9d4a0450980453521a56c6f427bfa86aa04830443d8e5501814777274c", func := "loop.example/g00405/laws.FnExactGoodFrame", spec := "fnExactGoodFrame", apart := false, narrowed := true }
def FnExactGoodFrameUptoSaid : Prop := fnExactGoodFrameUptoRow.holds Try.pinned (OpenSpec.upto fnExactGoodFrameSpec)

/-- 'laws.FnExactFrameBytes', WHERE WHAT IT READS IS OF BULK AT MOST 1048576: true; the input reads as it did. -/
def fnExactFrameBytesUptoRow : OpenClaim := { program := "ytkhpgeeacanpdaa", sum := "b4d41c9d4a0450980453521a56c6f427bfa86aa04830443d8e5501814777274c", func := "loop.example/g00405/laws.FnExactFrameBytes", spec := "fnExactFrameBytes", apart := false, narrowed := true }
def FnExactFrameBytesUptoSaid : Prop := fnExactFrameBytesUptoRow.holds Try.pinned (OpenSpec.upto fnExactFrameBytesSpec)

/-- 'laws.FnExactReadFrame', WHERE WHAT IT READS IS OF BULK AT MOST 1048576: true; the input reads as it did. -/
def fnExactReadFrameUptoRow : OpenClaim := { program := "ytkhpgeeacanpdaa", sum := "b4d41c9d4a0450980453521a56c6f427bfa86aa04830443d8e5501814777274c", func := "loop.example/g00405/laws.FnExactReadFrame", spec := "fnExactReadFrame", apart := false, narrowed := true }
def FnExactReadFrameUptoSaid : Prop := fnExactReadFrameUptoRow.holds Try.pinned (OpenSpec.upto fnExactReadFrameSpec)

/-- 'laws.FnExactCheckFrame', WHERE WHAT IT READS IS OF BULK AT MOST 1048576: true; the input reads as it did. -/
def fnExactCheckFrameUptoRow : OpenClaim := { program := "ytkhpgeeacanpdaa", sum := "b4d41c9d4a0450980453521a56c6f427bfa86aa04830443d8e5501814777274c", func := "loop.example/g00405/laws.FnExactCheckFrame", spec := "fnExactCheckFrame", apart := false, narrowed := true }
def FnExactCheckFrameUptoSaid : Prop := fnExactCheckFrameUptoRow.holds Try.pinned (OpenSpec.upto fnExactCheckFrameSpec)

/-- 'laws.FnExactSplitBody', WHERE WHAT IT READS IS OF BULK AT MOST 1048576: true; the input reads as it did. -/
def fnExactSplitBodyUptoRow : OpenClaim := { program := "ytkhpgeeacanpdaa", sum := "b4d41c9d4a0450980453521a56c6f427bfa86aa04830443d8e5501814777274c", func := "loop.example/g00405/laws.FnExactSplitBody", spec := "fnExactSplitBody", apart := false, narrowed := true }
def FnExactSplitBodyUptoSaid : Prop := fnExactSplitBodyUptoRow.holds Try.pinned (OpenSpec.upto fnExactSplitBodySpec)

/-- 'laws.FnExactJoinBody', WHERE WHAT IT READS IS OF BULK AT MOST 1048576: true; the input reads as it did. -/
def fnExactJoinBodyUptoRow : OpenClaim := { program := "ytkhpgeeacanpdaa", sum := "b4d41c9d4a0450980453521a56c6f427bfa86aa04830443d8e5501814777274c", func := "loop.example/g00405/laws.FnExactJoinBody", spec := "fnExactJoinBody", unfollowed := true, recurses := true, apart := false, narrowed := true }
def FnExactJoinBodyUptoSaid : Prop := fnExactJoinBodyUptoRow.holds Try.pinned (OpenSpec.upto fnExactJoinBodySpec)

/-- 'laws.FnExactFrameAll', WHERE WHAT IT READS IS OF BULK AT MOST 1048576: true; the input reads as it did. -/
def fnExactFrameAllUptoRow : OpenClaim := { program := "ytkhpgeeacanpdaa", sum := "b4d41c9d4a0450980453521a56c6f427bfa86aa04830443d8e5501814777274c", func := "loop.example/g00405/laws.FnExactFrameAll", spec := "fnExactFrameAll", apart := false, narrowed := true }
def FnExactFrameAllUptoSaid : Prop := fnExactFrameAllUptoRow.holds Try.pinned (OpenSpec.upto fnExactFrameAllSpec)

/-- 'laws.FnExactReadAll', WHERE WHAT IT READS IS OF BULK AT MOST 1048576: true; the input reads as it did. -/
def fnExactReadAllUptoRow : OpenClaim := { program := "ytkhpgeeacanpdaa", sum := "b4d41c9d4a0450980453521a56c6f427bfa86aa04830443d8e5501814777274c", func := "loop.example/g00405/laws.FnExactReadAll", spec := "fnExactReadAll", unfollowed := true, recurses := true, apart := false, narrowed := true }
def FnExactReadAllUptoSaid : Prop := fnExactReadAllUptoRow.holds Try.pinned (OpenSpec.upto fnExactReadAllSpec)

end Rows
end Go.Proofs.Ytkhpgeeacanpdaa

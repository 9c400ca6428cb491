/-
  No cell of these rows narrows 'for every input' (looked for: loops, veiled, ifaces, maps, wideKeys, modest, calm, conditions, laid).
  DERIVED. THE GIVEN ROWS OF THIS SEAT. 12 by the template 'for every input the law returns true; each argument reads behind the call as it read before'; 0 by the template 'total and deterministic' (their statements: YtpgmocogffolaaaTotals.lean).
  GIVEN WITH THE SEED: the statements are not yours to turn. If you find one false, say at which input.
  Laid BY PROGRAM, IN A SANDBOX (cutbox-rows.mjs): the forced cells as the released guide's own fill.sh prints them over the translation ec3e48a09e91d3bd… (all of the seat's roots in one cut). By AI agents, Wed Nov 11 2026. No macro, syntax, notation, axiom, sorry.
-/
import Derived.Test.YtpgmocogffolaaaChecked
import GoSem.Claim
import GoSem.ClaimJoined
import GoSem.ClaimMapViews
import Derived.JoinedTies
import Derived.KernelRfl
namespace Go.Proofs.Ytpgmocogffolaaa
/- THE CELL 'sum', in the pinned program and in every row, IS THE sha256 OF THE DUMP (.gsa) THAT YtpgmocogffolaaaProg.lean LOADS. Nothing in Lean hashes anything: it is a label: what it is worth is what the hold of that sum in a sandbox is worth. -/
noncomputable def Try.pinned : Pinned := { name := "ytpgmocogffolaaa", sum := "ec3e48a09e91d3bd4194384389f26705a531505b01af6b3cc9471b154925eda5", checked := Try.checked }
namespace Rows
def none {H : Type} : Left H := { results := [], args := [] }

/-- 'laws.FnExactRecoverFrom': WHATEVER THE INPUT: true; the input reads as it did. -/
def fnExactRecoverFromSpec : ChangeSpec := { name := "fnExactRecoverFrom", fn := fun _ => fun
  | [d] => { results := [.lit (.bool true)], args := [d] }
  | _ => none }
def fnExactRecoverFromRow : OpenClaim := { program := "ytpgmocogffolaaa", sum := "ec3e48a09e91d3bd4194384389f26705a531505b01af6b3cc9471b154925eda5", func := "loop.example/g00405/laws.FnExactRecoverFrom", spec := "fnExactRecoverFrom", unfollowed := true, recurses := true, apart := false }
def FnExactRecoverFromSaid : Prop := fnExactRecoverFromRow.holds Try.pinned (OpenSpec.ofChange fnExactRecoverFromSpec)

/-- ITS FALSE NEIGHBOUR: 'it returns false'. Refute it at one input. -/
def fnExactRecoverFromWrong : ChangeSpec := { name := "fnExactRecoverFrom", fn := fun _ => fun
  | [d] => { results := [.lit (.bool false)], args := [d] }
  | _ => none }
def FnExactRecoverFromWrongFalsely : Prop := fnExactRecoverFromRow.holds Try.pinned (OpenSpec.ofChange fnExactRecoverFromWrong)

/-- 'laws.FnExactGoodJournal': WHATEVER THE INPUT: true; the input reads as it did. -/
def fnExactGoodJournalSpec : ChangeSpec := { name := "fnExactGoodJournal", fn := fun _ => fun
  | [d] => { results := [.lit (.bool true)], args := [d] }
  | _ => none }
def fnExactGoodJournalRow : OpenClaim := { program := "ytpgmocogffolaaa", sum := "ec3e48a09e91d3bd4194384389f26705a531505b01af6b3cc9471b154925eda5", func := "loop.example/g00405/laws.FnExactGoodJournal", spec := "fnExactGoodJournal", unfollowed := true, recurses := true, apart := false }
def FnExactGoodJournalSaid : Prop := fnExactGoodJournalRow.holds Try.pinned (OpenSpec.ofChange fnExactGoodJournalSpec)

/-- ITS FALSE NEIGHBOUR: 'it returns false'. Refute it at one input. -/
def fnExactGoodJournalWrong : ChangeSpec := { name := "fnExactGoodJournal", fn := fun _ => fun
  | [d] => { results := [.lit (.bool false)], args := [d] }
  | _ => none }
def FnExactGoodJournalWrongFalsely : Prop := fnExactGoodJournalRow.holds Try.pinned (OpenSpec.ofChange fnExactGoodJournalWrong)

/-- 'laws.FnExactNewJournal': WHATEVER THE INPUT: true; the input reads as it did. -/
def fnExactNewJournalSpec : ChangeSpec := { name := "fnExactNewJournal", fn := fun _ => fun
  | [] => { results := [.lit (.bool true)], args := [] }
  | _ => none }
def fnExactNewJournalRow : OpenClaim := { program := "ytpgmocogffolaaa", sum := "ec3e48a09e91d3bd4194384389f26705a531505b01af6b3cc9471b154925eda5", func := "loop.example/g00405/laws.FnExactNewJournal", spec := "fnExactNewJournal", unfollowed := true, recurses := true, apart := false }
def FnExactNewJournalSaid : Prop := fnExactNewJournalRow.holds Try.pinned (OpenSpec.ofChange fnExactNewJournalSpec)

/-- ITS FALSE NEIGHBOUR: 'it returns false'. Refute it at one input. -/
def fnExactNewJournalWrong : ChangeSpec := { name := "fnExactNewJournal", fn := fun _ => fun
  | [] => { results := [.lit (.bool false)], args := [] }
  | _ => none }
def FnExactNewJournalWrongFalsely : Prop := fnExactNewJournalRow.holds Try.pinned (OpenSpec.ofChange fnExactNewJournalWrong)

/-- 'laws.FnExactHalfOf': WHATEVER THE INPUT: true; the input reads as it did. -/
def fnExactHalfOfSpec : ChangeSpec := { name := "fnExactHalfOf", fn := fun _ => fun
  | [d] => { results := [.lit (.bool true)], args := [d] }
  | _ => none }
def fnExactHalfOfRow : OpenClaim := { program := "ytpgmocogffolaaa", sum := "ec3e48a09e91d3bd4194384389f26705a531505b01af6b3cc9471b154925eda5", func := "loop.example/g00405/laws.FnExactHalfOf", spec := "fnExactHalfOf", apart := false }
def FnExactHalfOfSaid : Prop := fnExactHalfOfRow.holds Try.pinned (OpenSpec.ofChange fnExactHalfOfSpec)

/-- ITS FALSE NEIGHBOUR: 'it returns false'. Refute it at one input. -/
def fnExactHalfOfWrong : ChangeSpec := { name := "fnExactHalfOf", fn := fun _ => fun
  | [d] => { results := [.lit (.bool false)], args := [d] }
  | _ => none }
def FnExactHalfOfWrongFalsely : Prop := fnExactHalfOfRow.holds Try.pinned (OpenSpec.ofChange fnExactHalfOfWrong)

/-- 'laws.FnExactGoodScrub': WHATEVER THE INPUT: true; the input reads as it did. -/
def fnExactGoodScrubSpec : ChangeSpec := { name := "fnExactGoodScrub", fn := fun _ => fun
  | [d] => { results := [.lit (.bool true)], args := [d] }
  | _ => none }
def fnExactGoodScrubRow : OpenClaim := { program := "ytpgmocogffolaaa", sum := "ec3e48a09e91d3bd4194384389f26705a531505b01af6b3cc9471b154925eda5", func := "loop.example/g00405/laws.FnExactGoodScrub", spec := "fnExactGoodScrub", unfollowed := true, recurses := true, apart := false }
def FnExactGoodScrubSaid : Prop := fnExactGoodScrubRow.holds Try.pinned (OpenSpec.ofChange fnExactGoodScrubSpec)

/-- ITS FALSE NEIGHBOUR: 'it returns false'. Refute it at one input. -/
def fnExactGoodScrubWrong : ChangeSpec := { name := "fnExactGoodScrub", fn := fun _ => fun
  | [d] => { results := [.lit (.bool false)], args := [d] }
  | _ => none }
def FnExactGoodScrubWrongFalsely : Prop := fnExactGoodScrubRow.holds Try.pinned (OpenSpec.ofChange fnExactGoodScrubWrong)

/-- 'laws.FnExactRotIn': WHATEVER THE INPUT: true; the input reads as it did. -/
def fnExactRotInSpec : ChangeSpec := { name := "fnExactRotIn", fn := fun _ => fun
  | [d1, d2, d3] => { results := [.lit (.bool true)], args := [d1, d2, d3] }
  | _ => none }
def fnExactRotInRow : OpenClaim := { program := "ytpgmocogffolaaa", sum := "ec3e48a09e91d3bd4194384389f26705a531505b01af6b3cc9471b154925eda5", func := "loop.example/g00405/laws.FnExactRotIn", spec := "fnExactRotIn", unfollowed := true, recurses := true, apart := false }
def FnExactRotInSaid : Prop := fnExactRotInRow.holds Try.pinned (OpenSpec.ofChange fnExactRotInSpec)

/-- ITS FALSE NEIGHBOUR: 'it returns false'. Refute it at one input. -/
def fnExactRotInWrong : ChangeSpec := { name := "fnExactRotIn", fn := fun _ => fun
  | [d1, d2, d3] => { results := [.lit (.bool false)], args := [d1, d2, d3] }
  | _ => none }
def FnExactRotInWrongFalsely : Prop := fnExactRotInRow.holds Try.pinned (OpenSpec.ofChange fnExactRotInWrong)

/-- 'laws.FnExactGoodFrame': WHATEVER THE INPUT: true; the input reads as it did. -/
def fnExactGoodFrameSpec : ChangeSpec := { name := "fnExactGoodFrame", fn := fun _ => fun
  | [d] => { results := [.lit (.bool true)], args := [d] }
  | _ => none }
def fnExactGoodFrameRow : OpenClaim := { program := "ytpgmocogffolaaa", sum := "ec3e48a09e91d3bd4194384389f26705a531505b01af6b3cc9471b154925eda5", func := "loop.example/g00405/laws.FnExactGoodFrame", spec := "fnExactGoodFrame", apart := false }
def FnExactGoodFrameSaid : Prop := fnExactGoodFrameRow.holds Try.pinned (OpenSpec.ofChange fnExactGoodFrameSpec)

/-- ITS FALSE NEIGHBOUR: 'it returns false'. Refute it at one input. -/
def fnExactGoodFrameWrong : ChangeSpec := { name := "fnExactGoodFrame", fn := fun _ => fun
  | [d] => { results := [.lit (.bool false)], args := [d] }
  | _ => none }
def FnExactGoodFrameWrongFalsely : Prop := fnExactGoodFrameRow.holds Try.pinned (OpenSpec.ofChange fnExactGoodFrameWrong)

/-- 'laws.FnExactFrameBytes': WHATEVER THE INPUT: true; the input reads as it did. -/
def fnExactFrameBytesSpec : ChangeSpec := { name := "fnExactFrameBytes", fn := fun _ => fun
  | [d] => { results := [.lit (.bool true)], args := [d] }
  | _ => none }
def fnExactFrameBytesRow : OpenClaim := { program := "ytpgmocogffolaaa", sum := "ec3e48a09e91d3bd4194384389f26705a531505b01af6b3cc9471b154925eda5", func := "loop.example/g00405/laws.FnExactFrameBytes", spec := "fnExactFrameBytes", apart := false }
def FnExactFrameBytesSaid : Prop := fnExactFrameBytesRow.holds Try.pinned (OpenSpec.ofChange fnExactFrameBytesSpec)

/-- ITS FALSE NEIGHBOUR: 'it returns false'. Refute it at one input. -/
def fnExactFrameBytesWrong : ChangeSpec := { name := "fnExactFrameBytes", fn := fun _ => fun
  | [d] => { results := [.lit (.bool false)], args := [d] }
  | _ => none }
def FnExactFrameBytesWrongFalsely : Prop := fnExactFrameBytesRow.holds Try.pinned (OpenSpec.ofChange fnExactFrameBytesWrong)

/-- 'laws.FnExactReadFrame': WHATEVER THE INPUT: true; the input reads as it did. -/
def fnExactReadFrameSpec : ChangeSpec := { name := "fnExactReadFrame", fn := fun _ => fun
  | [d] => { results := [.lit (.bool true)], args := [d] }
  | _ => none }
def fnExactReadFrameRow : OpenClaim := { program := "ytpgmocogffolaaa", sum := "ec3e48a09e91d3bd4194384389f26705a531505b01af6b3cc9471b154925eda5", func := "loop.example/g00405/laws.FnExactReadFrame", spec := "fnExactReadFrame", apart := false }
def FnExactReadFrameSaid : Prop := fnExactReadFrameRow.holds Try.pinned (OpenSpec.ofChange fnExactReadFrameSpec)

/-- ITS FALSE NEIGHBOUR: 'it returns false'. Refute it at one input. -/
def fnExactReadFrameWrong : ChangeSpec := { name := "fnExactReadFrame", fn := fun _ => fun
  | [d] => { results := [.lit (.bool false)], args := [d] }
  | _ => none }
def FnExactReadFrameWrongFalsely : Prop := fnExactReadFrameRow.holds Try.pinned (OpenSpec.ofChange fnExactReadFrameWrong)

/-- 'laws.FnExactCheckFrame': WHATEVER THE INPUT: true; the input reads as it did. -/
def fnExactCheckFrameSpec : ChangeSpec := { name := "fnExactCheckFrame", fn := fun _ => fun
  | [d1, d2, d3, d4] => { results := [.lit (.bool true)], args := [d1, d2, d3, d4] }
  | _ => none }
def fnExactCheckFrameRow : OpenClaim := { program := "ytpgmocogffolaaa", sum := "ec3e48a09e91d3bd4194384389f26705a531505b01af6b3cc9471b154925eda5", func := "loop.example/g00405/laws.FnExactCheckFrame", spec := "fnExactCheckFrame", apart := false }
def FnExactCheckFrameSaid : Prop := fnExactCheckFrameRow.holds Try.pinned (OpenSpec.ofChange fnExactCheckFrameSpec)

/-- ITS FALSE NEIGHBOUR: 'it returns false'. Refute it at one input. -/
def fnExactCheckFrameWrong : ChangeSpec := { name := "fnExactCheckFrame", fn := fun _ => fun
  | [d1, d2, d3, d4] => { results := [.lit (.bool false)], args := [d1, d2, d3, d4] }
  | _ => none }
def FnExactCheckFrameWrongFalsely : Prop := fnExactCheckFrameRow.holds Try.pinned (OpenSpec.ofChange fnExactCheckFrameWrong)

/-- 'laws.FnExactFrameAll': WHATEVER THE INPUT: true; the input reads as it did. -/
def fnExactFrameAllSpec : ChangeSpec := { name := "fnExactFrameAll", fn := fun _ => fun
  | [d1, d2, d3, d4] => { results := [.lit (.bool true)], args := [d1, d2, d3, d4] }
  | _ => none }
def fnExactFrameAllRow : OpenClaim := { program := "ytpgmocogffolaaa", sum := "ec3e48a09e91d3bd4194384389f26705a531505b01af6b3cc9471b154925eda5", func := "loop.example/g00405/laws.FnExactFrameAll", spec := "fnExactFrameAll", apart := false }
def FnExactFrameAllSaid : Prop := fnExactFrameAllRow.holds Try.pinned (OpenSpec.ofChange fnExactFrameAllSpec)

/-- ITS FALSE NEIGHBOUR: 'it returns false'. Refute it at one input. -/
def fnExactFrameAllWrong : ChangeSpec := { name := "fnExactFrameAll", fn := fun _ => fun
  | [d1, d2, d3, d4] => { results := [.lit (.bool false)], args := [d1, d2, d3, d4] }
  | _ => none }
def FnExactFrameAllWrongFalsely : Prop := fnExactFrameAllRow.holds Try.pinned (OpenSpec.ofChange fnExactFrameAllWrong)

/-- 'laws.FnExactReadAll': WHATEVER THE INPUT: true; the input reads as it did. -/
def fnExactReadAllSpec : ChangeSpec := { name := "fnExactReadAll", fn := fun _ => fun
  | [d1, d2, d3, d4] => { results := [.lit (.bool true)], args := [d1, d2, d3, d4] }
  | _ => none }
def fnExactReadAllRow : OpenClaim := { program := "ytpgmocogffolaaa", sum := "ec3e48a09e91d3bd4194384389f26705a531505b01af6b3cc9471b154925eda5", func := "loop.example/g00405/laws.FnExactReadAll", spec := "fnExactReadAll", unfollowed := true, recurses := true, apart := false }
def FnExactReadAllSaid : Prop := fnExactReadAllRow.holds Try.pinned (OpenSpec.ofChange fnExactReadAllSpec)

/-- ITS FALSE NEIGHBOUR: 'it returns false'. Refute it at one input. -/
def fnExactReadAllWrong : ChangeSpec := { name := "fnExactReadAll", fn := fun _ => fun
  | [d1, d2, d3, d4] => { results := [.lit (.bool false)], args := [d1, d2, d3, d4] }
  | _ => none }
def FnExactReadAllWrongFalsely : Prop := fnExactReadAllRow.holds Try.pinned (OpenSpec.ofChange fnExactReadAllWrong)

/- THE SECOND FORM. 'bulk': how many values and letters a reading holds, each counted each time it is reached (what is shared counts as often as it is met; a slice's spare places count too). A statement '..UptoSaid' is the law's where the arguments, and the package variables that the reading takes, are together of bulk at most 1048576: NARROWER than '..Said'. Prove '..Said' where nothing that the law and all that it calls make is longer than what came in: it says more and counts as full. Else prove '..UptoSaid'. A law counts once. -/
mutual
def uptoBulk {H : Type} : DataW H → Nat
  | .lit (.string bytes) => bytes.length + 1
  | .lit _ => 1
  | .nil => 1
  | .ptr d => uptoBulk d + 1
  | .slice elems spare => uptoBulkAll elems + uptoBulkAll spare + 1
  | .agg parts => uptoBulkAll parts + 1
  | .iface _ d => uptoBulk d + 1
  | .map entries => uptoBulkEntries entries + 1
  | .held _ => 1
def uptoBulkAll {H : Type} : List (DataW H) → Nat
  | [] => 0
  | d :: r => uptoBulk d + uptoBulkAll r
def uptoBulkEntries {H : Type} : List (Lit × DataW H) → Nat
  | [] => 0
  | x :: r => uptoBulkEntry x + uptoBulkEntries r
def uptoBulkEntry {H : Type} : Lit × DataW H → Nat
  | (.string bytes, d) => bytes.length + uptoBulk d + 1
  | (_, d) => uptoBulk d + 1
 end
def uptoSmall : (H : Type) → List (DataW H) → Bool := fun _ ds => decide (uptoBulkAll ds ≤ 1048576)
def OpenSpec.upto (s : _root_.Go.ChangeSpec) : _root_.Go.OpenSpec := { _root_.Go.OpenSpec.ofChange s with cond := some uptoSmall }

/-- 'laws.FnExactRecoverFrom', WHERE WHAT IT READS IS OF BULK AT MOST 1048576: true; the input reads as it did. -/
def fnExactRecoverFromUptoRow : OpenClaim := { program := "ytpgmocogffolaaa", sum := "ec3e48a09e91d3bd4194384389f26705a531505b01af6b3cc9471b154925eda5", func := "loop.example/g00405/laws.FnExactRecoverFrom", spec := "fnExactRecoverFrom", unfollowed := true, recurses := true, apart := false, narrowed := true }
def FnExactRecoverFromUptoSaid : Prop := fnExactRecoverFromUptoRow.holds Try.pinned (OpenSpec.upto fnExactRecoverFromSpec)

/-- 'laws.FnExactGoodJournal', WHERE WHAT IT READS IS OF BULK AT MOST 1048576: true; the input reads as it did. -/
def fnExactGoodJournalUptoRow : OpenClaim := { program := "ytpgmocogffolaaa", sum := "ec3e48a09e91d3bd4194384389f26705a531505b01af6b3cc9471b154925eda5", func := "loop.example/g00405/laws.FnExactGoodJournal", spec := "fnExactGoodJournal", unfollowed := true, recurses := true, apart := false, narrowed := true }
def FnExactGoodJournalUptoSaid : Prop := fnExactGoodJournalUptoRow.holds Try.pinned (OpenSpec.upto fnExactGoodJournalSpec)

/-- 'laws.FnExactNewJournal', WHERE WHAT IT READS IS OF BULK AT MOST 1048576: true; the input reads as it did. -/
def fnExactNewJournalUptoRow : OpenClaim := { program := "ytpgmocogffolaaa", sum := "ec3e48a09e91d3bd4194384389f26705a531505b01af6b3cc9471b154925eda5", func := "loop.example/g00405/laws.FnExactNewJournal", spec := "fnExactNewJournal", unfollowed := true, recurses := true, apart := false, narrowed := true }
def FnExactNewJournalUptoSaid : Prop := fnExactNewJournalUptoRow.holds Try.pinned (OpenSpec.upto fnExactNewJournalSpec)

/-- 'laws.FnExactHalfOf', WHERE WHAT IT READS IS OF BULK AT MOST 1048576: true; the input reads as it did. -/
def fnExactHalfOfUptoRow : OpenClaim := { program := "ytpgmocogffolaaa", sum := "ec3e48a09e91d3bd4194384389f26705a531505b01af6b3cc9471b154925eda5", func := "loop.example/g00405/laws.FnExactHalfOf", spec := "fnExactHalfOf", apart := false, narrowed := true }
def FnExactHalfOfUptoSaid : Prop := fnExactHalfOfUptoRow.holds Try.pinned (OpenSpec.upto fnExactHalfOfSpec)

/-- 'laws.FnExactGoodScrub', WHERE WHAT IT READS IS OF BULK AT MOST 1048576: true; the input reads as it did. -/
def fnExactGoodScrubUptoRow : OpenClaim := { program := "ytpgmocogffolaaa", sum := "ec3e48a09e91d3bd4194384389f26705a531505b01af6b3cc9471b154925eda5", func := "loop.example/g00405/laws.FnExactGoodScrub", spec := "fnExactGoodScrub", unfollowed := true, recurses := true, apart := false, narrowed := true }
def FnExactGoodScrubUptoSaid : Prop := fnExactGoodScrubUptoRow.holds Try.pinned (OpenSpec.upto fnExactGoodScrubSpec)

/-- 'laws.FnExactRotIn', WHERE WHAT IT READS IS OF BULK AT MOST 1048576: true; the input reads as it did. -/
def fnExactRotInUptoRow : OpenClaim := { program := "ytpgmocogffolaaa", sum := "ec3e48a09e91d3bd4194384389f26705a531505b01af6b3cc9471b154925eda5", func := "loop.example/g00405/laws.FnExactRotIn", spec := "fnExactRotIn", unfollowed := true, recurses := true, apart := false, narrowed := true }
def FnExactRotInUptoSaid : Prop := fnExactRotInUptoRow.holds Try.pinned (OpenSpec.upto fnExactRotInSpec)

/-- 'laws.FnExactGoodFrame', WHERE WHAT IT READS IS OF BULK AT MOST 1048576: true; the input reads as it did. -/
def fnExactGoodFrameUptoRow : OpenClaim := { program := "ytpgmocogffolaaa", sum := "ec3e48a09e91d3bd4194384389f26705a531505b01af6b3cc9471b154925eda5", func := "loop.example/g00405/laws.FnExactGoodFrame", spec := "fnExactGoodFrame", apart := false, narrowed := true }
def FnExactGoodFrameUptoSaid : Prop := fnExactGoodFrameUptoRow.holds Try.pinned (OpenSpec.upto fnExactGoodFrameSpec)

/-- 'laws.FnExactFrameBytes', WHERE WHAT IT READS IS OF BULK AT MOST 1048576: true; the input reads as it did. -/
def fnExactFrameBytesUptoRow : OpenClaim := { program := "ytpgmocogffolaaa", sum := "ec3e48a09e91d3bd4194384389f26705a531505b01af6b3cc9471b154925eda5", func := "loop.example/g00405/laws.FnExactFrameBytes", spec := "fnExactFrameBytes", apart := false, narrowed := true }
def FnExactFrameBytesUptoSaid : Prop := fnExactFrameBytesUptoRow.holds Try.pinned (OpenSpec.upto fnExactFrameBytesSpec)

/-- 'laws.FnExactReadFrame', WHERE WHAT IT READS IS OF BULK AT MOST 1048576: true; the input reads as it did. -/
def fnExactReadFrameUptoRow : OpenClaim := { program := "ytpgmocogffolaaa", sum := "ec3e48a09e91d3bd4194384389f26705a531505b01af6b3cc9471b154925eda5", func := "loop.example/g00405/laws.FnExactReadFrame", spec := "fnExactReadFrame", apart := false, narrowed := true }
def FnExactReadFrameUptoSaid : Prop := fnExactReadFrameUptoRow.holds Try.pinned (OpenSpec.upto fnExactReadFrameSpec)

/-- 'laws.FnExactCheckFrame', WHERE WHAT IT READS IS OF BULK AT MOST 1048576: true; the input reads as it did. -/
def fnExactCheckFrameUptoRow : OpenClaim := { program := "ytpgmocogffolaaa", sum := "ec3e48a09e91d3bd4194384389f26705a531505b01af6b3cc9471b154925eda5", func := "loop.example/g00405/laws.FnExactCheckFrame", spec := "fnExactCheckFrame", apart := false, narrowed := true }
def FnExactCheckFrameUptoSaid : Prop := fnExactCheckFrameUptoRow.holds Try.pinned (OpenSpec.upto fnExactCheckFrameSpec)

/-- 'laws.FnExactFrameAll', WHERE WHAT IT READS IS OF BULK AT MOST 1048576: true; the input reads as it did. -/
def fnExactFrameAllUptoRow : OpenClaim := { program := "ytpgmocogffolaaa", sum := "ec3e48a09e91d3bd4194384389f26705a531505b01af6b3cc9471b154925eda5", func := "loop.example/g00405/laws.FnExactFrameAll", spec := "fnExactFrameAll", apart := false, narrowed := true }
def FnExactFrameAllUptoSaid : Prop := fnExactFrameAllUptoRow.holds Try.pinned (OpenSpec.upto fnExactFrameAllSpec)

/-- 'laws.FnExactReadAll', WHERE WHAT IT READS IS OF BULK AT MOST 1048576: true; the input reads as it did. -/
def fnExactReadAllUptoRow : OpenClaim := { program := "ytpgmocogffolaaa", sum := "ec3e48a09e91d3bd4194384389f26705a531505b01af6b3cc9471b154925eda5", func := "loop.example/g00405/laws.FnExactReadAll", spec := "fnExactReadAll", unfollowed := true, recurses := true, apart := false, narrowed := true }
def FnExactReadAllUptoSaid : Prop := fnExactReadAllUptoRow.holds Try.pinned (OpenSpec.upto fnExactReadAllSpec)

end Rows
end Go.Proofs.Ytpgmocogffolaaa

/-
  The frame that a sector tells: the program's readFrameAt. Each contract says what it asks.
-/
import Derived.Test.YtpgmocogffolaaaSte
import Derived.Test.YtpgmocogffolaaaFrd
import Derived.Test.YtpgmocogffolaaaDrs
namespace Go.Proofs.Ytpgmocogffolaaa
open Go.RowKit
set_option linter.unusedVariables false

theorem gk_rs {P H : List ByteArray} {B : List Bool} (g : gkP P H B) (k : Nat) (hk : k < P.length) : (rsT P H k).size ≤ 28 := by
  unfold rsT
  split
  · exact g.2.2.2.1 k hk
  · exact g.2.2.2.2.1 k hk
abbrev frC (K A E : Int) (b : ByteArray) : Array Value := #[.int .i64 K, .int .i64 A, .int .i64 E, .string b]
theorem Hand.twoR (w : World) (c1 c2 : Array Value) (T1 T2 : TypeId) : Hand w ((w.alloc (.cells c1 T1)).alloc (.cells c2 T2)) [TBox (w.heap.size + 1) c2 T2, TBox w.heap.size c1 T1] := by
  have h := ((Hand.start w).box c1 T1).box c2 T2
  simpa only [World.size_alloc] using h

/-- A frame and whether it is one. -/
def frA (c : Fr) : Value := .tuple #[.agg (frC c.K c.A c.E c.B), .bool c.ok]
theorem frSt {V : World} {x : Nat} {cs : Array Value} (hx : V.heap[x]? = some (.cells cs 69 (0, 0))) (hs : cs.size = 4) (K A E : Int) (b : ByteArray) : BoxAt ((((V.setCell ⟨x, 0, none⟩ (.int .i64 K)).setCell ⟨x, 1, none⟩ (.int .i64 A)).setCell ⟨x, 2, none⟩ (.int .i64 E)).setCell ⟨x, 3, none⟩ (.string b)) x (frC K A E b) 69 := by
  have h0 := heap_setCell_same V x 0 _ _ (.int .i64 K) hx
  have h1 := heap_setCell_same _ x 1 _ _ (.int .i64 A) h0
  have h2 := heap_setCell_same _ x 2 _ _ (.int .i64 E) h1
  have h3 := heap_setCell_same _ x 3 _ _ (.string b) h2
  refine h3.trans ?_
  obtain ⟨l⟩ := cs
  match l, hs with
  | [a, b, c, d], _ => rfl

set_option maxRecDepth 100000 in
set_option maxHeartbeats 1600000 in
theorem readFrameAt_no (p h b : Value) (P H : List ByteArray) (B : List Bool) (kind A least : Int) (w : World) (hn : ¬ rsOk P H B A) (hp : RdT w p P) (hh : RdT w h H) (hb : RdZ w b B) :
    Calls Try.prog 68 #[.agg #[p, h, b], .int .i64 kind, .int .i64 A, .int .i64 least] w fun e w' => e = .returned (.tuple #[.agg (frC 0 0 0 ⟨#[]⟩), .bool false]) ∧ Below w.heap.size w w' := by
  have RP := hide hp
  have RH := hide hh
  have RB := hide hb
  have RS := hide (fun W h1 h2 h3 => readSector_calls p h b P H B A ⟨#[]⟩ false W (.inr ⟨rfl, hn, rfl⟩) h1 h2 h3)
  have A0 := hide (Hand.twoR w #[p, h, b] (frC 0 0 0 ⟨#[]⟩) 30 69)
  clear hp hh hb hn
  go_enter Try.func68, Try.ntmps68
  go_wp2_with fail
  refine (RS.out _ (RP.out.below A0.out.below) (RH.out.below A0.out.below) (RB.out.below A0.out.below)).mono ?_
  rintro e w1 ⟨rfl, q⟩
  have A1 := hide (A0.out.step q)
  clear q A0
  obtain ⟨z0, z1, z2, z3⟩ := (A1.out.atBox 0 rfl).c4
  have y0 := (A1.out.atBox 0 rfl).frozen 0
  have y1 := (A1.out.atBox 0 rfl).frozen 1
  have y2 := (A1.out.atBox 0 rfl).frozen 2
  have y3 := (A1.out.atBox 0 rfl).frozen 3
  have X9 := hide (frSt (A1.out.atBox 0 rfl) rfl 0 0 0 ⟨#[]⟩)
  have B9 := hide (below4 A1.out.below (p := w.heap.size + 1) (by omega) (.int .i64 0) (.int .i64 0) (.int .i64 0) (.string ⟨#[]⟩))
  go_wp2
  exact bodyPost_ret (res_frame2 rfl _ _ (w.heap.size + 1) 0 0 0 ⟨#[]⟩ (0, 0) rfl X9.out) rfl ⟨rfl, B9.out⟩

set_option maxRecDepth 100000 in
set_option maxHeartbeats 1600000 in
theorem readFrameAt_yes (p h b : Value) (P H : List ByteArray) (B : List Bool) (kind A least : Int) (w : World) (hy : rsOk P H B A) (hp : RdT w p P) (hh : RdT w h H) (hb : RdZ w b B) :
    Calls Try.prog 68 #[.agg #[p, h, b], .int .i64 kind, .int .i64 A, .int .i64 least] w fun e w' => e = .returned (frA (ckR (rsT P H A.toNat) kind A least)) ∧ Below w.heap.size w w' := by
  have RP := hide hp
  have RH := hide hh
  have RB := hide hb
  have RS := hide (fun W h1 h2 h3 => readSector_calls p h b P H B A (rsT P H A.toNat) true W (.inl ⟨rfl, hy, rfl⟩) h1 h2 h3)
  have hsz : (rsT P H A.toNat).size ≤ 28 := gk_rs hy.1 _ (by have := hy.2.1; omega)
  have CF := hide (fun W => checkFrame_calls (rsT P H A.toNat) kind A least W (by unfold maxLen; omega))
  generalize rsT P H A.toNat = s at RS CF hsz
  generalize ckR s kind A least = c at CF
  rcases c with ⟨K, A', E, bo, code, ok⟩
  simp only [] at CF
  have A0 := hide (Hand.twoR w #[p, h, b] (frC 0 0 0 ⟨#[]⟩) 30 69)
  clear hp hh hb hy hsz
  show Calls _ _ _ _ fun e w' => e = .returned (.tuple #[.agg (frC K A' E bo), .bool ok]) ∧ _
  go_enter Try.func68, Try.ntmps68
  go_wp2_with fail
  refine (RS.out _ (RP.out.below A0.out.below) (RH.out.below A0.out.below) (RB.out.below A0.out.below)).mono ?_
  rintro e w1 ⟨rfl, q⟩
  have A1 := hide (A0.out.step q)
  clear q A0
  go_wp2_with fail
  refine (CF.out _).mono ?_
  rintro e w2 ⟨rfl, q⟩
  have A2 := hide ((A1.out.step q).box (frC K A' E bo) 69)
  clear q A1
  obtain ⟨x0, x1, x2, x3⟩ := (A2.out.atBox 0 rfl).c4
  obtain ⟨z0, z1, z2, z3⟩ := (A2.out.atBox 1 rfl).c4
  have y0 := (A2.out.atBox 1 rfl).frozen 0
  have y1 := (A2.out.atBox 1 rfl).frozen 1
  have y2 := (A2.out.atBox 1 rfl).frozen 2
  have y3 := (A2.out.atBox 1 rfl).frozen 3
  have X9 := hide (frSt (A2.out.atBox 1 rfl) rfl K A' E bo)
  have B9 := hide (below4 A2.out.below (p := w.heap.size + 1) (by omega) (.int .i64 K) (.int .i64 A') (.int .i64 E) (.string bo))
  go_wp2
  exact bodyPost_ret (res_frame2 rfl _ _ (w.heap.size + 1) K A' E bo (0, 0) rfl X9.out) rfl ⟨rfl, B9.out⟩
end Go.Proofs.Ytpgmocogffolaaa

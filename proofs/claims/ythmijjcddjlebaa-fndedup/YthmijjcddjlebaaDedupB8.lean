/-
  A range over a function whose rounds never leave: what an iterator may turn (Spar), what a round must keep (Keep), an iterator's word (Iter), and the statement itself out of both. No condition on the program. A variable's box that holds a slice which grows within the rounds of a range over a function: what is kept of it, one element more. No program; each says what it asks. Chunks numbered as they first come: the mathematics of a book of chunks, and what a world that was touched at a few blocks keeps. No condition. Fingers of windows and cuts by them: mathematics alone. What a finger is that is rolled on, and the cuts that are come to byte by byte. No condition but that bytes are below 256 where it is said. Fingers rolled on, by the program and by its model, call by call. No condition.
-/
import Derived.RangeFuncBox
import Derived.RangeFuncCalls
import Derived.RangeFuncBound
import Derived.OrdersIn
import Derived.TacticsIn
import Derived.Maps.OwnIn
import Derived.Maps.AppendAt
import Derived.Test.YthmijjcddjlebaaDedupB6
import Derived.WalkKit
import Derived.Test.YthmijjcddjlebaaDedupB3
namespace Go.Proofs.Ythmijjcddjlebaa
open Go.RowKit
set_option linter.unusedVariables false

/-- What an iterator may have turned, as the loop sees it: nothing below lo, no cells outside c0 .. c1. -/
structure Spar (lo c0 c1 : Nat) (A B : World) : Prop where
  os : B.os = A.os
  tape : B.tape = A.tape
  output : B.output = A.output
  size : A.heap.size ≤ B.heap.size
  same : ∀ (k : Nat) (o : Obj), A.heap[k]? = some o → (k < lo ∨ (o.isCells = true ∧ (k < c0 ∨ c1 ≤ k))) → B.heap[k]? = some o

/-- What a round must keep for the iterator: from lo on whatever is no cells, and the cells of c0 .. c1. -/
structure Keep (lo c0 c1 : Nat) (A B : World) : Prop where
  size : A.heap.size ≤ B.heap.size
  same : ∀ (k : Nat) (o : Obj), lo ≤ k → A.heap[k]? = some o → (o.isCells = false ∨ (c0 ≤ k ∧ k < c1)) → B.heap[k]? = some o

theorem Spar.refl (lo c0 c1 : Nat) (A : World) : Spar lo c0 c1 A A := ⟨rfl, rfl, rfl, Nat.le_refl _, fun _ _ h _ => h⟩
theorem Spar.trans {lo c0 c1 : Nat} {A B C : World} (h : Spar lo c0 c1 A B) (k : Spar lo c0 c1 B C) : Spar lo c0 c1 A C :=
  ⟨k.os.trans h.os, k.tape.trans h.tape, k.output.trans h.output, Nat.le_trans h.size k.size, fun i o hi ho => k.same i o (h.same i o hi ho) ho⟩
theorem Spar.mono {lo c0 c1 lo' c0' c1' : Nat} {A B : World} (h : Spar lo c0 c1 A B) (e0 : lo' ≤ lo) (e1 : ∀ k, k < c0' ∨ c1' ≤ k → k < lo ∨ k < c0 ∨ c1 ≤ k) : Spar lo' c0' c1' A B :=
  ⟨h.os, h.tape, h.output, h.size, fun k o hk ho => h.same k o hk (by
    rcases ho with ho | ⟨hc, ho⟩
    · exact .inl (by omega)
    · rcases e1 k ho with e | e
      · exact .inl e
      · exact .inr ⟨hc, e⟩)⟩
theorem Spar.of_below {lo c0 c1 : Nat} {A B : World} (h : Below A.heap.size A B) : Spar lo c0 c1 A B :=
  ⟨h.os, h.tape, h.output, h.size, fun k o hk _ => (h.block k (Array.getElem?_eq_some_iff.1 hk).1).trans hk⟩
theorem Spar.alloc (lo c0 c1 : Nat) (A : World) (o : Obj) : Spar lo c0 c1 A (A.alloc o) := .of_below ((Below.refl _ A).alloc (Nat.le_refl _) o)
theorem Spar.putObj {lo c0 c1 : Nat} {A : World} {l : Nat} {o : Obj} (o' : Obj) (hl : A.heap[l]? = some o) (ho : o.isCells = false) (hlo : lo ≤ l) : Spar lo c0 c1 A (A.putObj l o') :=
  ⟨rfl, rfl, rfl, by simp, fun k p hk hp => by
    refine (World.putObj_heap_other (fun e => ?_)).trans hk
    subst e
    rw [hl] at hk; cases hk
    rcases hp with hp | ⟨hp, _⟩
    · omega
    · rw [ho] at hp; cases hp⟩
theorem Spar.setCell {lo c0 c1 : Nat} {A : World} {b : Nat} (v : Value) (h0 : lo ≤ b) (h1 : c0 ≤ b) (h2 : b < c1) : Spar lo c0 c1 A (A.setCell ⟨b, 0, none⟩ v) :=
  ⟨rfl, rfl, rfl, (KeepsOthers.setCell A _ v).size, fun k o hk ho => (Below.heap_setCell A ⟨b, 0, none⟩ v k (fun e => by simp at e; subst e; rcases ho with ho | ⟨_, ho | ho⟩ <;> omega)).trans hk⟩

theorem Spar.below {lo c0 c1 B : Nat} {w A A' : World} (h : Below B w A) (hs : Spar lo c0 c1 A A') (hB : B ≤ lo) (hw : B ≤ w.heap.size) : Below B w A' :=
  ⟨hs.os.trans h.os, hs.tape.trans h.tape, hs.output.trans h.output, Nat.le_trans h.size hs.size, fun k hk => by
    have e := h.block k hk
    have hk' : k < w.heap.size := by omega
    rw [Array.getElem?_eq_getElem hk'] at e ⊢
    exact hs.same k _ e (.inl (by omega))⟩
theorem Spar.boxed {lo c0 c1 B : Nat} {A A' : World} {t : TypeId} {v : Value} (h : Boxed A B t v) (hs : Spar lo c0 c1 A A') (hB : B < lo ∨ B < c0 ∨ c1 ≤ B) : Boxed A' B t v :=
  hs.same B _ h (hB.imp_right fun h => ⟨rfl, h⟩)
theorem Keep.boxed {lo c0 c1 B : Nat} {A A' : World} {t : TypeId} {v : Value} (h : Boxed A B t v) (hs : Keep lo c0 c1 A A') (hB : lo ≤ B) (h0 : c0 ≤ B) (h1 : B < c1) : Boxed A' B t v := hs.same B _ hB h (.inr ⟨h0, h1⟩)

theorem boxed_other {W : World} {B B' : Nat} {t : TypeId} {v : Value} (h : Boxed W B t v) (hne : B ≠ B') (u : Value) : Boxed (W.setCell ⟨B', 0, none⟩ u) B t v := (Below.heap_setCell W ⟨B', 0, none⟩ u B hne).trans h

theorem Keep.refl (lo c0 c1 : Nat) (A : World) : Keep lo c0 c1 A A := ⟨Nat.le_refl _, fun _ _ _ h _ => h⟩
theorem Keep.trans {lo c0 c1 : Nat} {A B C : World} (h : Keep lo c0 c1 A B) (k : Keep lo c0 c1 B C) : Keep lo c0 c1 A C :=
  ⟨Nat.le_trans h.size k.size, fun i o hl hi ho => k.same i o hl (h.same i o hl hi ho) ho⟩
theorem Keep.mono {lo c0 c1 lo' c0' c1' : Nat} {A B : World} (h : Keep lo c0 c1 A B) (e0 : lo ≤ lo') (e1 : ∀ k, lo' ≤ k → c0' ≤ k → k < c1' → c0 ≤ k ∧ k < c1) : Keep lo' c0' c1' A B :=
  ⟨h.size, fun k o hl hk ho => h.same k o (by omega) hk (ho.imp_right fun h => e1 k hl h.1 h.2)⟩
theorem Keep.of_below {lo c0 c1 : Nat} {A B : World} (h : Below A.heap.size A B) : Keep lo c0 c1 A B :=
  ⟨h.size, fun k o _ hk _ => (h.block k (Array.getElem?_eq_some_iff.1 hk).1).trans hk⟩
theorem Keep.alloc (lo c0 c1 : Nat) (A : World) (o : Obj) : Keep lo c0 c1 A (A.alloc o) := .of_below ((Below.refl _ A).alloc (Nat.le_refl _) o)
theorem Keep.setCell {lo c0 c1 : Nat} {A : World} {a : Addr} (v : Value) (h : a.block < lo ∨ a.block < c0 ∨ c1 ≤ a.block) : Keep lo c0 c1 A (A.setCell a v) :=
  ⟨(KeepsOthers.setCell A a v).size, fun k o hl hk ho => by
    rcases ho with ho | ho
    · exact (KeepsOthers.setCell A a v).same k o hk ho
    · exact (Below.heap_setCell A a v k (fun e => by omega)).trans hk⟩
/-- One block may have been written, that lies below lo, or that holds cells outside c0 .. c1. -/
theorem Keep.of_grownBy {lo c0 c1 : Nat} {A B : World} {row : Option Nat} (hg : A.grownBy B row) (hr : ∀ (j : Nat) (o : Obj), row = some j → A.heap[j]? = some o → j < lo ∨ (o.isCells = true ∧ (j < c0 ∨ c1 ≤ j))) : Keep lo c0 c1 A B :=
  ⟨hg.size, fun k o hl hk ho => (hg.block k (Array.getElem?_eq_some_iff.1 hk).1 (fun e => by
    rcases hr k o e.symm hk with h | ⟨h, h'⟩
    · omega
    · rcases ho with ho | ho
      · rw [h] at ho; cases ho
      · omega)).trans hk⟩
theorem Keep.putObj {lo c0 c1 : Nat} {A : World} {l : Nat} (o' : Obj) (h : l < lo) : Keep lo c0 c1 A (A.putObj l o') :=
  ⟨by simp, fun k o hl hk _ => (World.putObj_heap_other (fun e => by omega)).trans hk⟩

/-- An iterator that gives xs, one round each; it lays m blocks of cells of its own ahead of the first; Cap is what it asks of the world all the while. -/
def Iter (P : Program) (g : Nat) (lb : Array Value) (m : Nat) (xs : List (Array Value)) (Cap : World → Prop) : Prop :=
  ∀ (n l : Nat) (J : Nat → World → Prop) (W : World),
    (∀ i A B, J i A → Spar W.heap.size W.heap.size (W.heap.size + m) A B → J i B) →
    (∀ i A, J i A → Cap A) →
    (∀ (n' i : Nat) (x : Array Value) (W1 : World), xs[i]? = some x → J i W1 → W.heap.size + m ≤ W1.heap.size →
      YieldAt Fence.wide n' P l x W1 fun e W' => e = .returned (.bool true) ∧ J (i + 1) W' ∧ Keep W.heap.size W.heap.size (W.heap.size + m) W1 W') →
    J 0 W →
    CallsIn Fence.wide n P g (#[.func (.yield l) #[] #[]] ++ lb) W fun e W' => (∃ v, e = .returned v) ∧ J xs.length W'

/-- The statement: an outermost loop; its rounds go on, each. -/
theorem wp_rangeI {P : Program} {n : Nat} {g : Operand} {ps : Array Tmp} {assign body : Code} {Q : Exit → Act → World → Prop} {a : Act} {w : World}
    {gf : Nat} {lb : Array Value} (hg : a.eval g = .func (.func gf) #[] lb) (eg : ∀ args w, (callFunc gf args).run P w = .ok (.enter gf args) w)
    {m : Nat} {xs : List (Array Value)} {Cap : World → Prop} (hit : Iter P gf lb m xs Cap) (hps : ∀ x ∈ xs, x.size = ps.size)
    (I : Nat → World → Prop) (hI : ∀ i A B, I i A → Spar w.heap.size (w.heap.size + 2) (w.heap.size + 2 + m) A B → I i B) (hC : ∀ i A, I i A → Cap A) (h0 : I 0 w)
    (hround : ∀ (n' l i : Nat) (x : Array Value) (W : World), xs[i]? = some x → I i W → w.heap.size + 2 + m ≤ W.heap.size →
      assign.wpIn (Fence.wide.inRound l) n' P (Exit.then (fun a1 W1 => W1 = W ∧ ∀ W2, I i W2 → w.heap.size + 2 + m ≤ W2.heap.size →
        body.wpIn (Fence.wide.inRound l) n' P (fun e _ W' => e = .normal ∧ Keep w.heap.size (w.heap.size + 2) (w.heap.size + 2 + m) W2 W' ∧ I (i + 1) W') a1 W2) (fun _ _ _ => False))
        { tmps := (ps.zip x).foldl (fun t (p, v) => t.setIfInBounds p v) a.tmps, defers := [] } W)
    (hdone : ∀ W : World, I xs.length W → W.heap[w.heap.size]? = some (.deferred (some [])) → w.heap.size + 2 ≤ W.heap.size → Q .normal { a with defers := { target := .collected w.heap.size, args := #[] } :: a.defers } W) :
    (Code.rangeFunc g ps assign body).wpIn Fence.wide n P Q a w := by
  refine wpIn_rangeFunc fun fn _ => ?_
  obtain ⟨rc, hrc⟩ : ∃ rc : LoopState → Loop, rc = fun st => { state := st, pending := none, fn, tmps := a.tmps, params := ps, assign, body, defers := w.heap.size } := ⟨_, rfl⟩
  obtain ⟨W1, hW1⟩ : ∃ W1, (w.alloc (.deferred (some []))).alloc (.loop (rc .ready)) = W1 := ⟨_, rfl⟩
  have hs1 : W1.heap.size = w.heap.size + 2 := by rw [← hW1]; simp
  have hL1 : W1.heap[w.heap.size + 1]? = some (.loop (rc .ready)) := by
    rw [← hW1]; have := World.alloc_heap_new (w.alloc (.deferred (some []))) (.loop (rc .ready)); rwa [World.size_alloc] at this
  have hK1 : W1.heap[w.heap.size]? = some (.deferred (some [])) := by
    rw [← hW1]; exact (Below.heap_alloc _ _ _ (by simp)).trans (World.alloc_heap_new w _)
  have hI1 : I 0 W1 := by
    rw [← hW1]; exact hI _ _ _ (hI _ _ _ h0 (Spar.alloc _ _ _ _ _)) (Spar.alloc _ _ _ _ _)
  refine ⟨w.heap.size + 1, [{ target := .collected w.heap.size, args := #[] }], W1, { target := .fn (.func gf) lb, args := #[.func (.yield (w.heap.size + 1)) #[] #[]] }, W1, gf,
    #[.func (.yield (w.heap.size + 1)) #[] #[]] ++ lb, W1, ?_, ?_, ?_, ?_, fun h => by simp [Fence.wide] at h, ?_⟩
  · rw [← hW1, hrc]; exact run_enterLoop_outer _ _ _ _ _
  · simp only [resolve, hg]
    simp [go_sem]
  · intro f' hf'; trivial
  · simp [invoke, go_sem, eg]
  · refine (hit (n - 1) (w.heap.size + 1) (fun i W => I i W ∧ W.heap[w.heap.size + 1]? = some (.loop (rc .ready)) ∧ W.heap[w.heap.size]? = some (.deferred (some []))) W1 ?_ (fun i A h => hC i A h.1) ?_ ⟨hI1, hL1, hK1⟩).mono ?_
    · rintro i A B ⟨h1, h2, h3⟩ hs
      rw [hs1] at hs
      exact ⟨hI i A B h1 (hs.mono (by omega) (fun k hk => by omega)), hs.same _ _ h2 (.inl (by omega)), hs.same _ _ h3 (.inl (by omega))⟩
    · rintro n' i x W hx ⟨hi, hl, hk⟩ hsz
      rw [hs1] at hsz ⊢
      have hy := run_yield (P := P) (args := x) hl (by rw [hrc]; exact hps x (List.mem_of_getElem? hx))
      rw [hrc] at hy
      refine ⟨fn, _, assign, body, hy, roundIn_of_wpIn trivial (wpIn_mono (hround n' (w.heap.size + 1) i x W hx hi hsz) ?_)⟩
      rintro e a1 W1' he
      cases e with
      | normal =>
        obtain ⟨rfl, hbody⟩ := he
        refine ⟨_, run_beginRound hl (by rw [hrc]), ?_⟩
        have hlt : w.heap.size + 1 < W1'.heap.size := (Array.getElem?_eq_some_iff.1 hl).1
        have hl2 : (W1'.putObj (w.heap.size + 1) (.loop { rc .ready with state := .busy })).heap[w.heap.size + 1]? = some (.loop { rc .ready with state := .busy }) := World.putObj_heap_same hlt
        have hk2 : (W1'.putObj (w.heap.size + 1) (.loop { rc .ready with state := .busy })).heap[w.heap.size]? = some (.deferred (some [])) := (World.putObj_heap_other (by omega)).trans hk
        refine wpIn_mono (hbody _ (hI _ _ _ hi (Spar.putObj _ hl rfl (by omega))) (by simp; omega)) ?_
        rintro e a3 W3 ⟨rfl, hk3, hi3⟩
        have hl3 := hk3.same _ _ (by omega) hl2 (.inl rfl)
        have hd3 := hk3.same _ _ (by omega) hk2 (.inl rfl)
        have hr3 := run_endRound (P := P) none hl3
        refine ⟨_, _, hr3, rfl, ⟨hI _ _ _ hi3 (Spar.putObj _ hl3 rfl (by omega)), ?_, (World.putObj_heap_other (by omega)).trans hd3⟩, ?_⟩
        · rw [World.putObj_heap_same (Array.getElem?_eq_some_iff.1 hl3).1, hrc]; rfl
        · exact (Keep.putObj (lo := w.heap.size + 2) _ (by omega)).trans ((hk3.mono (by omega) (fun k _ h h' => ⟨h, h'⟩)).trans (Keep.putObj _ (by omega)))
      | exit id => exact he.elim
      | goto t => exact he.elim
      | ret => exact he.elim
      | panic chain => exact he.elim
      | outgrown => exact he.elim
    · rintro e W2 ⟨⟨v, rfl⟩, hi, hl, hk⟩
      have he := run_endLoop (P := P) hl (by rw [hrc]; simp)
      have hp : (rc .ready).pending = none := by rw [hrc]
      rw [hp] at he
      refine ⟨none, _, he, hdone _ (hI _ _ _ hi (Spar.putObj _ hl rfl (by omega))) ((World.putObj_heap_other (by omega)).trans hk) ?_⟩
      have := (Array.getElem?_eq_some_iff.1 hl).1; simp; omega

/-- Operations that draw their order, in a round, where none is a defer statement: as outside of it. -/
theorem wpAnyIn_rd {n l : Nat} {P : Program} {md : Region.Mode} {ops : Array Oper} {Q : Exit → Act → World → Prop} (hnd : ∀ (i : Nat) (o : Oper), ops[i]? = some o → ∀ c, o.op ≠ .defer c) :
    ∀ (fuel : Nat) (listed : Array Bool) (a : Act) (w : World), wpAnyIn Fence.wide n P md ops Q fuel listed a w → wpAnyIn (Fence.wide.inRound l) n P md ops Q fuel listed a w := by
  intro fuel
  induction fuel with
  | zero => exact fun listed a w h => h
  | succ fuel ih =>
    intro listed a w h
    refine ⟨h.1, fun i hi => ?_⟩
    have hh := h.2 i hi
    unfold wpOpIn at hh ⊢
    cases ho : ops[i]? with
    | none => rw [ho] at hh; exact ih _ _ _ hh
    | some o =>
      rw [ho] at hh
      simp only at hh ⊢
      split at hh
      · rename_i hw
        rw [if_pos hw]
        have := Oper.wpIn_mono (fun a w h => ih _ a w h) hh
        unfold Oper.wpIn at this ⊢
        refine ⟨this.1, ?_⟩
        rw [Oper.semAt_eq _ _ _ (hnd i o ho)] at this ⊢
        exact this.2
      · rename_i hw
        rw [if_neg hw]
        exact ⟨hh.1, ih _ _ _ hh.2⟩
def noDefer (ops : Array Oper) : Bool := ops.toList.all fun o => match o.op with | .defer _ => false | _ => true
theorem noDefer_spec {ops : Array Oper} (h : noDefer ops = true) : ∀ (i : Nat) (o : Oper), ops[i]? = some o → ∀ c, o.op ≠ .defer c := by
  intro i o ho c e
  have hm : o ∈ ops.toList := by
    have := Array.mem_of_getElem? ho
    simpa using this
  have := List.all_eq_true.1 h o hm
  rw [e] at this
  cases this
theorem wpIn_region_rd {n l id : Nat} {P : Program} {ops : Array Oper} {Q : Exit → Act → World → Prop} {a : Act} {w : World} (hm : P.follows .mixedOrders = true) (hd : noDefer ops = true)
    (h : wpAnyIn Fence.wide n P .any ops Q ops.size (Array.replicate ops.size false) a w.drew) : (Code.region id ops true).wpIn (Fence.wide.inRound l) n P Q a w :=
  wpIn_region_any hm (wpAnyIn_rd (noDefer_spec hd) _ _ _ _ h)

/-- A round of another loop, in a round. -/
theorem roundIn_rd {n l l' : Nat} {P : Program} {f : FuncId} {tmps : Array Value} {assign body : Code} {w : World} {R R' : Ending → World → Prop} (h : RoundIn Fence.wide (n - 1) P l f tmps assign body w R') (k : ∀ e w, R' e w → R e w) :
    (Fence.wide.depth.isSome = true → 1 ≤ n) ∧ RoundIn (Fence.wide.inRound l') (n - 1) P l f tmps assign body w R :=
  ⟨fun h => by simp [Fence.wide] at h, h.mono k⟩
theorem roundIn_pl {n l : Nat} {P : Program} {f : FuncId} {tmps : Array Value} {assign body : Code} {w : World} {R R' : Ending → World → Prop} (h : RoundIn Fence.wide (n - 1) P l f tmps assign body w R') (k : ∀ e w, R' e w → R e w) :
    (Fence.wide.depth.isSome = true → 1 ≤ n) ∧ RoundIn Fence.wide (n - 1) P l f tmps assign body w R :=
  ⟨fun h => by simp [Fence.wide] at h, h.mono k⟩
/-- A call within the wide fence, by the callee's plain contract. -/
theorem wide_call {n : Nat} {P : Program} {f : FuncId} {args : Array Value} {w : World} {R R' : Ending → World → Prop} (h : Calls P f args w R') (k : ∀ e w, R' e w → R e w) :
    Fence.wide.fn f ∧ (Fence.wide.depth.isSome = true → 1 ≤ n) ∧ CallsIn Fence.wide (n - 1) P f args w R :=
  ⟨trivial, fun h => by simp [Fence.wide] at h, (callsIn_wide.2 h).mono k⟩
/-- The same in a round. -/
theorem round_call {n l : Nat} {P : Program} {f : FuncId} {args : Array Value} {w : World} {R R' : Ending → World → Prop} (h : Calls P f args w R') (k : ∀ e w, R' e w → R e w) :
    (Fence.wide.inRound l).fn f ∧ ((Fence.wide.inRound l).depth.isSome = true → 1 ≤ n) ∧ CallsIn (Fence.wide.inRound l) (n - 1) P f args w R :=
  ⟨trivial, fun h => by simp [Fence.wide, Fence.inRound] at h, CallsIn.inRound l ((callsIn_wide.2 h).mono k)⟩

end Go.Proofs.Ythmijjcddjlebaa

namespace Go.Proofs.Ythmijjcddjlebaa
open Go.RowKit
set_option linter.unusedVariables false

/-- The box Bx holds a slice of the call's own that reads as xs; its row lies in block z0 (where the variable began) or beyond the iterator's blocks. -/
def Coll (W : World) (z0 c1 base Bx : Nat) (t e : TypeId) (xs : List Value) : Prop :=
  ∃ v, Boxed W Bx t v ∧ W.ownsRow base e 1 v xs.length xs ∧ ∀ g, v.ownBlock = some g → g = z0 ∨ c1 ≤ g

theorem ownsRow_spar {lo c0 c1 base k : Nat} {A B : World} {e : TypeId} {v : Value} {xs : List Value} (h : A.ownsRow base e 1 v k xs) (hs : Spar lo c0 c1 A B) (hg : ∀ g, v.ownBlock = some g → g < lo ∨ g < c0 ∨ c1 ≤ g) : B.ownsRow base e 1 v k xs := by
  refine ⟨h.1, ?_⟩
  rcases h.2 with hn | ⟨g, cap, cur, rfl, hb, hgb, rest⟩
  · exact .inl hn
  · exact .inr ⟨g, cap, cur, rfl, hb, hs.same g _ hgb ((hg g rfl).imp_right fun h => ⟨rfl, h⟩), rest⟩
theorem Coll.spar {lo c0 c1 z0 base Bx : Nat} {A B : World} {t e : TypeId} {xs : List Value} (h : Coll A z0 c1 base Bx t e xs) (hs : Spar lo c0 c1 A B) (hB : Bx < lo) (hz : z0 < lo) : Coll B z0 c1 base Bx t e xs := by
  obtain ⟨v, hv, hr, hg⟩ := h
  exact ⟨v, hs.boxed hv (.inl hB), ownsRow_spar hr hs (fun g e => by have := hg g e; omega), hg⟩

/-- What an append leaves: the box as it was ahead of the store; behind it all that is owed. -/
theorem coll_step {lo c0 c1 z0 base Bx n0 : Nat} {W w1 : World} {t e : TypeId} {v v' : Value} {xs : List Value} {x : Value} {tmp : Obj}
    (hv : Boxed W Bx t v) (hr : W.ownsRow base e 1 v xs.length xs) (hg : ∀ g, v.ownBlock = some g → g = z0 ∨ c1 ≤ g) (hB : Bx < lo) (hz : z0 < lo) (hzB : z0 ≠ Bx) (hlc : lo ≤ c1) (hW : c1 ≤ W.heap.size) (hlo : lo ≤ W.heap.size)
    (n1 : n0 ≤ base) (n2 : n0 ≤ Bx)
    (ho : w1.ownsRow base e 1 v' (xs.length + 1) (xs ++ [x])) (hgr : (W.alloc tmp).grownBy w1 v.ownBlock) (hat : v'.ownBlock = v.ownBlock ∨ v'.ownBlock = some (W.heap.size + 1)) :
    Boxed w1 Bx t v ∧ Coll (w1.setCell ⟨Bx, 0, none⟩ v') z0 c1 base Bx t e (xs ++ [x]) ∧ Keep lo c0 c1 W (w1.setCell ⟨Bx, 0, none⟩ v') ∧ Below n0 W (w1.setCell ⟨Bx, 0, none⟩ v') := by
  have hne : some Bx ≠ v.ownBlock := fun e' => by have := hg Bx e'.symm; omega
  have hv1 : Boxed w1 Bx t v := (hv.alloc tmp).kept hgr hne
  have hlt := hv.lt
  have hg' : ∀ g, v'.ownBlock = some g → g = z0 ∨ c1 ≤ g := by
    intro g eg
    rcases hat with h | h
    · exact hg g (h.symm.trans eg)
    · rw [h] at eg
      cases eg
      exact .inr (by omega)
  refine ⟨hv1, ⟨v', hv1.set v', ?_, hg'⟩, ?_, ?_⟩
  · rw [List.length_append]
    exact ho.kept (grownBy_setCell' w1 Bx v') (by
      by_cases h0 : v'.ownBlock = none
      · exact .inl h0
      · refine .inr fun e' => ?_
        have := hg' Bx e'
        omega)
  · refine (Keep.alloc _ _ _ W tmp).trans ((Keep.of_grownBy hgr fun j o ej hj => ?_).trans (Keep.setCell _ (.inl hB)))
    rcases (hr.alloc tmp).2 with ⟨rfl, _⟩ | ⟨g, cap, cur, rfl, hb, hgb, _⟩
    · simp [Value.ownBlock] at ej
    · obtain rfl : g = j := by simpa [Value.ownBlock] using ej
      rw [hgb] at hj; cases hj
      rcases hg g rfl with h | h
      · exact .inl (by omega)
      · exact .inr ⟨rfl, .inr h⟩
  · refine ((((Below.refl n0 W).alloc (by omega) tmp).grown hgr (by simp; omega) fun j ej => ?_)).setCell (p := ⟨Bx, 0, none⟩) n2 v'
    rcases hr.2 with ⟨rfl, _⟩ | ⟨g, cap, cur, rfl, hb, _, _⟩
    · simp [Value.ownBlock] at ej
    · obtain rfl : g = j := by simpa [Value.ownBlock] using ej
      omega
/-- An append within a region, by how it runs. -/
theorem wpIn_append_eq {n : Nat} {P : Program} {o : Oper} {a : Act} {w w' : World} {K : Act → World → Prop} {Q : Exit → Act → World → Prop} {s x : Operand} {t : TypeId} {v y v' : Value}
    (hop : o.op = .call { callee := .builtin .append, args := #[s, x], argTypes := #[t, t] }) (hs : a.eval s = v) (hx : a.eval x = y) (hrun : (Builtin.append_ #[t, t] o.type #[v, y]).run P w = .ok v' w') (h : K (a.put o.dst v') w') : o.wpIn Fence.wide n P a w K Q := by
  unfold Oper.wpIn
  refine ⟨by simp [Oper.about, hop, resolve, Target.leads, Sem.run_pure], ?_⟩
  rw [Oper.semAt_plain Fence.wide _ _ (by rw [hop]; intro c hc'; cases hc')]
  simp [execOp, hop, resolve, invoke, builtin, hs, hx, hrun, Result.andThen]
  exact h
end Go.Proofs.Ythmijjcddjlebaa

namespace Go.Proofs.Ythmijjcddjlebaa
open Go.RowKit
set_option linter.unusedVariables false

/-- The number of a text among others (how many there are, where it is none of them). -/
def ix9 (C : List ByteArray) (t : ByteArray) : Nat := C.findIdx (fun x => decide (x = t))
def add9 (C : List ByteArray) (t : ByteArray) : List ByteArray := if ix9 C t < C.length then C else C ++ [t]
theorem ix9_le (C : List ByteArray) (t : ByteArray) : ix9 C t ≤ C.length := List.findIdx_le_length
theorem ix9_mem (C : List ByteArray) (t : ByteArray) : ix9 C t < C.length ↔ t ∈ C := by
  unfold ix9
  rw [List.findIdx_lt_length]
  constructor
  · rintro ⟨x, hx, e⟩; rw [← of_decide_eq_true e]; exact hx
  · intro h; exact ⟨t, h, by simp⟩
theorem ix9_new {C : List ByteArray} {t : ByteArray} (h : ¬ t ∈ C) : ix9 C t = C.length := by
  have : ¬ ix9 C t < C.length := fun h' => h ((ix9_mem C t).1 h')
  have := ix9_le C t
  omega
theorem ix9_snoc_old {C : List ByteArray} {t u : ByteArray} (h : u ∈ C) : ix9 (C ++ [t]) u = ix9 C u := by
  have := (ix9_mem C u).2 h
  unfold ix9 at this ⊢
  rw [List.findIdx_append, if_pos this]
theorem ix9_snoc_new {C : List ByteArray} {t : ByteArray} (h : ¬ t ∈ C) : ix9 (C ++ [t]) t = C.length := by
  have h0 := ix9_new h
  unfold ix9 at h0 ⊢
  rw [List.findIdx_append, if_neg (by omega)]
  simp [List.findIdx_cons]
theorem add9_old {C : List ByteArray} {t : ByteArray} (h : t ∈ C) : add9 C t = C := if_pos ((ix9_mem C t).2 h)
theorem add9_new {C : List ByteArray} {t : ByteArray} (h : ¬ t ∈ C) : add9 C t = C ++ [t] := if_neg (fun h' => h ((ix9_mem C t).1 h'))
theorem add9_len (C : List ByteArray) (t : ByteArray) : (add9 C t).length ≤ C.length + 1 := by unfold add9; split <;> simp

/-- What the book's map says. -/
structure BookD (C : List ByteArray) (D : DataW Unit) : Prop where
  tidy : Maps.Tidy D
  has : ∀ t, Maps.has D (klit t) = true ↔ t ∈ C
  at_ : ∀ t, t ∈ C → ∀ z, D.atKey (klit t) z = .lit (.int .i64 (ix9 C t : Nat))
theorem bookD_nil : BookD [] (.map []) := ⟨Maps.tidy_empty, fun t => ⟨fun h => by simp [Maps.has] at h, fun h => by cases h⟩, fun t h => by cases h⟩
theorem BookD.snoc {C : List ByteArray} {D : DataW Unit} (h : BookD C D) {t : ByteArray} (ht : ¬ t ∈ C) : BookD (C ++ [t]) (D.put (klit t) (.lit (.int .i64 (C.length : Nat)))) := by
  refine ⟨h.tidy.put (klit_key _) _, fun u => ?_, fun u hu z => ?_⟩
  · by_cases e : u = t
    · subst e
      rw [Maps.has_put_same h.tidy.isMap (klit_key _)]
      simp
    · rw [Maps.has_put_other (fun e' => e (klit_inj e')), h.has]
      simp [e]
  · by_cases e : u = t
    · subst e
      rw [Maps.atKey_put_same h.tidy.isMap (klit_key _), ix9_snoc_new ht]
    · have hu' : u ∈ C := by
        rcases List.mem_append.1 hu with h' | h'
        · exact h'
        · simp at h'; exact absurd h' e
      rw [Maps.atKey_put_other (fun e' => e (klit_inj e')), h.at_ u hu' z, ix9_snoc_old hu']

/-- Of what was there only the blocks of S are written. -/
structure Touch (S : Nat → Prop) (w w' : World) : Prop where
  os : w'.os = w.os
  tape : w'.tape = w.tape
  output : w'.output = w.output
  size : w.heap.size ≤ w'.heap.size
  same : ∀ k, k < w.heap.size → ¬ S k → w'.heap[k]? = w.heap[k]?
theorem Touch.refl (S : Nat → Prop) (w : World) : Touch S w w := ⟨rfl, rfl, rfl, Nat.le_refl _, fun _ _ _ => rfl⟩
theorem Touch.trans {S : Nat → Prop} {a b c : World} (h : Touch S a b) (k : Touch S b c) : Touch S a c :=
  ⟨k.os.trans h.os, k.tape.trans h.tape, k.output.trans h.output, Nat.le_trans h.size k.size, fun i hi hs => (k.same i (Nat.lt_of_lt_of_le hi h.size) hs).trans (h.same i hi hs)⟩
theorem Touch.of_below {S : Nat → Prop} {a b : World} (h : Below a.heap.size a b) : Touch S a b := ⟨h.os, h.tape, h.output, h.size, fun k hk _ => h.block k hk⟩
theorem Touch.grown {S : Nat → Prop} {a b : World} {row : Option Nat} (h : a.grownBy b row) (hr : ∀ k, row = some k → S k) : Touch S a b :=
  ⟨h.os, h.tape, h.output, h.size, fun k hk hs => h.block k hk (fun e => hs (hr k e.symm))⟩
theorem Touch.setCell {S : Nat → Prop} (w : World) (g i : Nat) (v : Value) (h : S g) : Touch S w (w.setCell ⟨g, i, none⟩ v) :=
  ⟨rfl, rfl, rfl, by simp [World.setCell], fun k _ hs => Below.heap_setCell w _ v k (fun e => hs (by subst e; exact h))⟩
theorem Touch.mono {S S' : Nat → Prop} {a b : World} (h : Touch S a b) (hs : ∀ k, k < a.heap.size → S k → S' k) : Touch S' a b := ⟨h.os, h.tape, h.output, h.size, fun k hk hn => h.same k hk (fun e => hn (hs k hk e))⟩
/-- Two steps, where the second's blocks that were there ahead are the first's. -/
theorem Touch.trans' {S S' : Nat → Prop} {a b c : World} (h : Touch S a b) (k : Touch S' b c) (hs : ∀ i, i < a.heap.size → S' i → S i) : Touch S a c :=
  ⟨k.os.trans h.os, k.tape.trans h.tape, k.output.trans h.output, Nat.le_trans h.size k.size, fun i hi hn => (k.same i (Nat.lt_of_lt_of_le hi h.size) (fun e => hn (hs i hi e))).trans (h.same i hi hn)⟩

/-- A map's store within a region, by how it runs. -/
theorem wpIn_mapUpdate_eq {n : Nat} {P : Program} {o : Oper} {a : Act} {w w' : World} {K : Act → World → Prop} {Q : Exit → Act → World → Prop} {m x v : Operand} {t : TypeId} {mv xv vv : Value}
    (hop : o.op = .mapUpdate t m x v) (hm : a.eval m = mv) (hx : a.eval x = xv) (hv : a.eval v = vv) (hrun : (Instr.mapUpdate t mv xv vv).run P w = .ok () w') (h : K (a.put o.dst undef) w') : o.wpIn Fence.wide n P a w K Q := by
  unfold Oper.wpIn
  refine ⟨by simp [Oper.about, hop], ?_⟩
  rw [Oper.semAt_plain Fence.wide _ _ (by rw [hop]; intro c hc'; cases hc')]
  simp [execOp, hop, hm, hx, hv, hrun, Result.andThen]
  exact h
end Go.Proofs.Ythmijjcddjlebaa

namespace Go.Proofs.Ythmijjcddjlebaa

/-- A finger rolled on. -/
def rf (f o i : Nat) : Nat := (f * 257 + i + o * 7053) % 8191
/-- The finger of some bytes. -/
def fg (l : List Nat) : Nat := l.foldl (fun n b => (n * 257 + b) % 8191) 0
theorem fg_nil : fg [] = 0 := rfl
theorem fg_snoc (l : List Nat) (b : Nat) : fg (l ++ [b]) = (fg l * 257 + b) % 8191 := by unfold fg; rw [List.foldl_append]; rfl
theorem fg_lt (l : List Nat) : fg l < 8191 := by
  rcases List.eq_nil_or_concat l with rfl | ⟨l', b, rfl⟩
  · decide
  · rw [List.concat_eq_append, fg_snoc]; exact Nat.mod_lt _ (by decide)
theorem rf_lt (f o i : Nat) : rf f o i < 8191 := Nat.mod_lt _ (by decide)
theorem rf_zero (f i : Nat) : rf f 0 i = (f * 257 + i) % 8191 := by unfold rf; rw [Nat.zero_mul, Nat.add_zero]
theorem rf_four (a b c d e : Nat) : rf (fg [a, b, c, d]) a e = fg [b, c, d, e] := by
  simp only [fg, List.foldl, rf]
  omega
/-- The model's way to roll on. -/
theorem rf_model (f o i : Nat) (hf : f < 8191) (ho : o < 256) : ((f + 2096896 - o * 2841) % 8191 * 257 + i) % 8191 = rf f o i := by
  unfold rf
  omega

/-- The window ahead of a place. -/
def wnd (l : List Nat) (k : Nat) : List Nat := (l.take k).drop (k - 4)
theorem wnd_zero (l : List Nat) : wnd l 0 = [] := rfl
/-- The byte that goes out at a place. -/
def outB (l : List Nat) (k : Nat) : Nat := if k < 4 then 0 else l.getD (k - 4) 0
theorem take_snoc9 (l : List Nat) (k : Nat) (h : k < l.length) : l.take (k + 1) = l.take k ++ [l.getD k 0] := by
  rw [List.take_succ_eq_append_getElem h, List.getD_eq_getElem?_getD, List.getElem?_eq_getElem h]; rfl
/-- A window rolled on is the next one. -/
theorem fg_roll (l : List Nat) (k : Nat) (h : k < l.length) : fg (wnd l (k + 1)) = rf (fg (wnd l k)) (outB l k) (l.getD k 0) := by
  by_cases h4 : k < 4
  · have e0 : k - 4 = 0 := by omega
    have e1 : k + 1 - 4 = 0 := by omega
    simp only [wnd, outB, e0, e1, if_pos h4, List.drop_zero, rf_zero]
    rw [take_snoc9 l k h, fg_snoc]
  · have e2 : k + 1 - 4 = (k - 4) + 1 := by omega
    have hl : (l.take k).length = k := by rw [List.length_take]; omega
    obtain ⟨a, b, c, d, hd⟩ : ∃ a b c d, (l.take k).drop (k - 4) = [a, b, c, d] := by
      have hlen : ((l.take k).drop (k - 4)).length = 4 := by rw [List.length_drop, hl]; omega
      match hx : (l.take k).drop (k - 4), hlen with
      | [a, b, c, d], _ => exact ⟨a, b, c, d, rfl⟩
    have ha : l.getD (k - 4) 0 = a := by
      have := congrArg (fun q => q.getD 0 0) hd
      simp only [List.getD_eq_getElem?_getD, List.getElem?_drop, List.getElem?_take] at this
      simp only [List.getD_eq_getElem?_getD]
      simpa [show k - 4 < k by omega] using this
    have hw : wnd l (k + 1) = [b, c, d, l.getD k 0] := by
      unfold wnd
      rw [take_snoc9 l k h, e2, List.drop_append_of_le_length (by omega), ← List.drop_drop, hd]
      rfl
    rw [hw]
    unfold wnd outB
    rw [hd, if_neg h4, ha, rf_four]

/-- Is there a cut at k, the last one being at a? -/
def cutAt (l : List Nat) (a k : Nat) : Bool := k == l.length || k - a == 20 || (decide (4 ≤ k - a) && fg (wnd l k) % 8 == 7)
/-- The cuts up to k. -/
def cutsN (l : List Nat) : Nat → List Nat
  | 0 => []
  | k + 1 => if cutAt l ((cutsN l k).getLastD 0) (k + 1) then cutsN l k ++ [k + 1] else cutsN l k
def lastC (l : List Nat) (k : Nat) : Nat := (cutsN l k).getLastD 0
theorem cutsN_zero (l : List Nat) : cutsN l 0 = [] := rfl
theorem cutsN_yes {l : List Nat} {k : Nat} (h : cutAt l (lastC l k) (k + 1) = true) : cutsN l (k + 1) = cutsN l k ++ [k + 1] := if_pos h
theorem cutsN_no {l : List Nat} {k : Nat} (h : cutAt l (lastC l k) (k + 1) = false) : cutsN l (k + 1) = cutsN l k := if_neg (by unfold lastC at h; rw [h]; decide)
theorem lastC_zero (l : List Nat) : lastC l 0 = 0 := rfl
theorem lastC_yes {l : List Nat} {k : Nat} (h : cutAt l (lastC l k) (k + 1) = true) : lastC l (k + 1) = k + 1 := by
  unfold lastC; rw [cutsN_yes h, List.getLastD_concat]
theorem lastC_no {l : List Nat} {k : Nat} (h : cutAt l (lastC l k) (k + 1) = false) : lastC l (k + 1) = lastC l k := by
  unfold lastC; rw [cutsN_no h]
theorem lastC_le (l : List Nat) (k : Nat) : lastC l k ≤ k := by
  induction k with
  | zero => exact Nat.le_refl _
  | succ k ih =>
    cases h : cutAt l (lastC l k) (k + 1)
    · rw [lastC_no h]; omega
    · rw [lastC_yes h]; exact Nat.le_refl _
theorem cutsN_prefix (l : List Nat) (k m : Nat) (h : k ≤ m) : cutsN l k <+: cutsN l m := by
  induction m with
  | zero => obtain rfl : k = 0 := by omega
            exact List.prefix_refl _
  | succ m ih =>
    by_cases e : k = m + 1
    · subst e; exact List.prefix_refl _
    · refine (ih (by omega)).trans ?_
      cases h : cutAt l (lastC l m) (m + 1)
      · rw [cutsN_no h]; exact List.prefix_refl _
      · rw [cutsN_yes h]; exact List.prefix_append _ _
theorem cutsN_len (l : List Nat) (k : Nat) : (cutsN l k).length ≤ k := by
  induction k with
  | zero => exact Nat.le_refl _
  | succ k ih =>
    cases h : cutAt l (lastC l k) (k + 1)
    · rw [cutsN_no h]; omega
    · rw [cutsN_yes h, List.length_append]; simp; omega
theorem cutsN_le (l : List Nat) (k : Nat) : ∀ c ∈ cutsN l k, c ≤ k := by
  induction k with
  | zero => intro c hc; simp [cutsN] at hc
  | succ k ih =>
    intro c hc
    cases h : cutAt l (lastC l k) (k + 1)
    · rw [cutsN_no h] at hc; have := ih c hc; omega
    · rw [cutsN_yes h, List.mem_append] at hc
      rcases hc with hc | hc
      · have := ih c hc; omega
      · simp at hc; omega
/-- All cuts; each with the one ahead of it. -/
def cuts (l : List Nat) : List Nat := cutsN l l.length
def pairsN (l : List Nat) : Nat → List (Nat × Nat)
  | 0 => []
  | k + 1 => if cutAt l (lastC l k) (k + 1) then pairsN l k ++ [(lastC l k, k + 1)] else pairsN l k
theorem pairsN_yes {l : List Nat} {k : Nat} (h : cutAt l (lastC l k) (k + 1) = true) : pairsN l (k + 1) = pairsN l k ++ [(lastC l k, k + 1)] := if_pos h
theorem pairsN_no {l : List Nat} {k : Nat} (h : cutAt l (lastC l k) (k + 1) = false) : pairsN l (k + 1) = pairsN l k := if_neg (by rw [h]; decide)
theorem pairsN_cuts (l : List Nat) (k : Nat) : (pairsN l k).map Prod.snd = cutsN l k := by
  induction k with
  | zero => rfl
  | succ k ih =>
    cases h : cutAt l (lastC l k) (k + 1)
    · rw [cutsN_no h, pairsN_no h, ih]
    · rw [cutsN_yes h, pairsN_yes h, List.map_append, ih]; rfl
theorem pairsN_prefix (l : List Nat) (k m : Nat) (h : k ≤ m) : pairsN l k <+: pairsN l m := by
  induction m with
  | zero => obtain rfl : k = 0 := by omega
            exact List.prefix_refl _
  | succ m ih =>
    by_cases e : k = m + 1
    · subst e; exact List.prefix_refl _
    · refine (ih (by omega)).trans ?_
      cases h : cutAt l (lastC l m) (m + 1)
      · rw [pairsN_no h]; exact List.prefix_refl _
      · rw [pairsN_yes h]; exact List.prefix_append _ _
/-- The cut that comes at k is the one whose number is how many came ahead. -/
theorem pairsN_at {l : List Nat} {k : Nat} (hk : k < l.length) (h : cutAt l (lastC l k) (k + 1) = true) : (pairsN l l.length)[(pairsN l k).length]? = some (lastC l k, k + 1) := by
  have hp := pairsN_prefix l (k + 1) l.length (by omega)
  rw [pairsN_yes h] at hp
  obtain ⟨t, ht⟩ := hp
  rw [← ht, List.append_assoc, List.getElem?_append_right (Nat.le_refl _), Nat.sub_self]
  rfl
theorem pairsN_mem {l : List Nat} (k : Nat) : ∀ p ∈ pairsN l k, p.1 ≤ p.2 ∧ p.2 ≤ k := by
  induction k with
  | zero => intro p hp; simp [pairsN] at hp
  | succ k ih =>
    intro p hp
    cases h : cutAt l (lastC l k) (k + 1)
    · rw [pairsN_no h] at hp; have := ih p hp; omega
    · rw [pairsN_yes h, List.mem_append] at hp
      rcases hp with hp | hp
      · have := ih p hp; omega
      · simp at hp; subst hp; have := lastC_le l k; simp; omega
end Go.Proofs.Ythmijjcddjlebaa

namespace Go.Proofs.Ythmijjcddjlebaa
open Go.RowKit
set_option linter.unusedVariables false

set_option maxRecDepth 100000 in
theorem rollFinger_calls (f o i : Nat) (w : World) (hf : f < 8191) (ho : o < 256) (hi : i < 256) :
    Calls Try.prog 119 #[.int .i64 f, .int .i64 o, .int .i64 i] w fun e w' => e = .returned (.int .i64 (rf f o i : Nat)) ∧ w = w' := by
  have hr : Hid (((f : Int) * 257 + i + o * 7053) % 8191 = ((rf f o i : Nat) : Int)) := by show _ = _; unfold rf; omega
  generalize rf f o i = y at hr ⊢
  go_enter Try.func119, Try.ntmps119
  go_wp2
  go_ret
  exact ⟨ret_int hr.out, rfl⟩

abbrev rollOk (f o i : Int) : Prop := (0 ≤ f ∧ f < 8191) ∧ (0 ≤ o ∧ o < 256) ∧ (0 ≤ i ∧ i < 256)
def rollR (f o i : Int) : Int × Bool := if rollOk f o i then ((rf f.toNat o.toNat i.toNat : Nat), true) else (0, false)

end Go.Proofs.Ythmijjcddjlebaa

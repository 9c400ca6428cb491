/-
  A range over a function whose rounds never leave: what an iterator may turn (Spar), what a round must keep (Keep), an iterator's word (Iter), and the statement itself out of both. No condition on the program.
-/
import Derived.RangeFuncBox
import Derived.RangeFuncCalls
import Derived.RangeFuncBound
import Derived.OrdersIn
import Derived.TacticsIn
namespace Go.Proofs.Ythmijjcddjlebaa
open Go.RowKit
set_option linter.unusedVariables false

/-- What an iterator may have turned, as the loop sees it: nothing below lo, no cells outside c0 .. c1. -/
structure Spar (lo c0 c1 : Nat) (A B : World) : Prop where
  os : B.os = A.os
  tape : B.tape = A.tape
  output : B.output = A.output
  size : A.heap.size ≤ B.heap.size
  same : ∀ (k : Nat) (o : Obj), A.heap[k]? = some o → (k < lo ∨ (o.isCells = true ∧ (k < c0 ∨ c1 ≤ k))) → B.heap[k]? = some o

/-- What a round must keep for the iterator: from lo on whatever is no cells, and the cells of c0 .. c1. -/
structure Keep (lo c0 c1 : Nat) (A B : World) : Prop where
  size : A.heap.size ≤ B.heap.size
  same : ∀ (k : Nat) (o : Obj), lo ≤ k → A.heap[k]? = some o → (o.isCells = false ∨ (c0 ≤ k ∧ k < c1)) → B.heap[k]? = some o

theorem Spar.refl (lo c0 c1 : Nat) (A : World) : Spar lo c0 c1 A A := ⟨rfl, rfl, rfl, Nat.le_refl _, fun _ _ h _ => h⟩
theorem Spar.trans {lo c0 c1 : Nat} {A B C : World} (h : Spar lo c0 c1 A B) (k : Spar lo c0 c1 B C) : Spar lo c0 c1 A C :=
  ⟨k.os.trans h.os, k.tape.trans h.tape, k.output.trans h.output, Nat.le_trans h.size k.size, fun i o hi ho => k.same i o (h.same i o hi ho) ho⟩
theorem Spar.mono {lo c0 c1 lo' c0' c1' : Nat} {A B : World} (h : Spar lo c0 c1 A B) (e0 : lo' ≤ lo) (e1 : ∀ k, k < c0' ∨ c1' ≤ k → k < lo ∨ k < c0 ∨ c1 ≤ k) : Spar lo' c0' c1' A B :=
  ⟨h.os, h.tape, h.output, h.size, fun k o hk ho => h.same k o hk (by
    rcases ho with ho | ⟨hc, ho⟩
    · exact .inl (by omega)
    · rcases e1 k ho with e | e
      · exact .inl e
      · exact .inr ⟨hc, e⟩)⟩
theorem Spar.of_below {lo c0 c1 : Nat} {A B : World} (h : Below A.heap.size A B) : Spar lo c0 c1 A B :=
  ⟨h.os, h.tape, h.output, h.size, fun k o hk _ => (h.block k (Array.getElem?_eq_some_iff.1 hk).1).trans hk⟩
theorem Spar.alloc (lo c0 c1 : Nat) (A : World) (o : Obj) : Spar lo c0 c1 A (A.alloc o) := .of_below ((Below.refl _ A).alloc (Nat.le_refl _) o)
theorem Spar.putObj {lo c0 c1 : Nat} {A : World} {l : Nat} {o : Obj} (o' : Obj) (hl : A.heap[l]? = some o) (ho : o.isCells = false) (hlo : lo ≤ l) : Spar lo c0 c1 A (A.putObj l o') :=
  ⟨rfl, rfl, rfl, by simp, fun k p hk hp => by
    refine (World.putObj_heap_other (fun e => ?_)).trans hk
    subst e
    rw [hl] at hk; cases hk
    rcases hp with hp | ⟨hp, _⟩
    · omega
    · rw [ho] at hp; cases hp⟩
theorem Spar.setCell {lo c0 c1 : Nat} {A : World} {b : Nat} (v : Value) (h0 : lo ≤ b) (h1 : c0 ≤ b) (h2 : b < c1) : Spar lo c0 c1 A (A.setCell ⟨b, 0, none⟩ v) :=
  ⟨rfl, rfl, rfl, (KeepsOthers.setCell A _ v).size, fun k o hk ho => (Below.heap_setCell A ⟨b, 0, none⟩ v k (fun e => by simp at e; subst e; rcases ho with ho | ⟨_, ho | ho⟩ <;> omega)).trans hk⟩

theorem Spar.below {lo c0 c1 B : Nat} {w A A' : World} (h : Below B w A) (hs : Spar lo c0 c1 A A') (hB : B ≤ lo) (hw : B ≤ w.heap.size) : Below B w A' :=
  ⟨hs.os.trans h.os, hs.tape.trans h.tape, hs.output.trans h.output, Nat.le_trans h.size hs.size, fun k hk => by
    have e := h.block k hk
    have hk' : k < w.heap.size := by omega
    rw [Array.getElem?_eq_getElem hk'] at e ⊢
    exact hs.same k _ e (.inl (by omega))⟩
theorem Spar.boxed {lo c0 c1 B : Nat} {A A' : World} {t : TypeId} {v : Value} (h : Boxed A B t v) (hs : Spar lo c0 c1 A A') (hB : B < lo ∨ B < c0 ∨ c1 ≤ B) : Boxed A' B t v :=
  hs.same B _ h (hB.imp_right fun h => ⟨rfl, h⟩)
theorem Keep.boxed {lo c0 c1 B : Nat} {A A' : World} {t : TypeId} {v : Value} (h : Boxed A B t v) (hs : Keep lo c0 c1 A A') (hB : lo ≤ B) (h0 : c0 ≤ B) (h1 : B < c1) : Boxed A' B t v := hs.same B _ hB h (.inr ⟨h0, h1⟩)

theorem boxed_other {W : World} {B B' : Nat} {t : TypeId} {v : Value} (h : Boxed W B t v) (hne : B ≠ B') (u : Value) : Boxed (W.setCell ⟨B', 0, none⟩ u) B t v := (Below.heap_setCell W ⟨B', 0, none⟩ u B hne).trans h

theorem Keep.refl (lo c0 c1 : Nat) (A : World) : Keep lo c0 c1 A A := ⟨Nat.le_refl _, fun _ _ _ h _ => h⟩
theorem Keep.trans {lo c0 c1 : Nat} {A B C : World} (h : Keep lo c0 c1 A B) (k : Keep lo c0 c1 B C) : Keep lo c0 c1 A C :=
  ⟨Nat.le_trans h.size k.size, fun i o hl hi ho => k.same i o hl (h.same i o hl hi ho) ho⟩
theorem Keep.mono {lo c0 c1 lo' c0' c1' : Nat} {A B : World} (h : Keep lo c0 c1 A B) (e0 : lo ≤ lo') (e1 : ∀ k, lo' ≤ k → c0' ≤ k → k < c1' → c0 ≤ k ∧ k < c1) : Keep lo' c0' c1' A B :=
  ⟨h.size, fun k o hl hk ho => h.same k o (by omega) hk (ho.imp_right fun h => e1 k hl h.1 h.2)⟩
theorem Keep.of_below {lo c0 c1 : Nat} {A B : World} (h : Below A.heap.size A B) : Keep lo c0 c1 A B :=
  ⟨h.size, fun k o _ hk _ => (h.block k (Array.getElem?_eq_some_iff.1 hk).1).trans hk⟩
theorem Keep.alloc (lo c0 c1 : Nat) (A : World) (o : Obj) : Keep lo c0 c1 A (A.alloc o) := .of_below ((Below.refl _ A).alloc (Nat.le_refl _) o)
theorem Keep.setCell {lo c0 c1 : Nat} {A : World} {a : Addr} (v : Value) (h : a.block < lo ∨ a.block < c0 ∨ c1 ≤ a.block) : Keep lo c0 c1 A (A.setCell a v) :=
  ⟨(KeepsOthers.setCell A a v).size, fun k o hl hk ho => by
    rcases ho with ho | ho
    · exact (KeepsOthers.setCell A a v).same k o hk ho
    · exact (Below.heap_setCell A a v k (fun e => by omega)).trans hk⟩
/-- One block may have been written, that lies below lo, or that holds cells outside c0 .. c1. -/
theorem Keep.of_grownBy {lo c0 c1 : Nat} {A B : World} {row : Option Nat} (hg : A.grownBy B row) (hr : ∀ (j : Nat) (o : Obj), row = some j → A.heap[j]? = some o → j < lo ∨ (o.isCells = true ∧ (j < c0 ∨ c1 ≤ j))) : Keep lo c0 c1 A B :=
  ⟨hg.size, fun k o hl hk ho => (hg.block k (Array.getElem?_eq_some_iff.1 hk).1 (fun e => by
    rcases hr k o e.symm hk with h | ⟨h, h'⟩
    · omega
    · rcases ho with ho | ho
      · rw [h] at ho; cases ho
      · omega)).trans hk⟩
theorem Keep.putObj {lo c0 c1 : Nat} {A : World} {l : Nat} (o' : Obj) (h : l < lo) : Keep lo c0 c1 A (A.putObj l o') :=
  ⟨by simp, fun k o hl hk _ => (World.putObj_heap_other (fun e => by omega)).trans hk⟩

/-- An iterator that gives xs, one round each; it lays m blocks of cells of its own ahead of the first; Cap is what it asks of the world all the while. -/
def Iter (P : Program) (g : Nat) (lb : Array Value) (m : Nat) (xs : List (Array Value)) (Cap : World → Prop) : Prop :=
  ∀ (n l : Nat) (J : Nat → World → Prop) (W : World),
    (∀ i A B, J i A → Spar W.heap.size W.heap.size (W.heap.size + m) A B → J i B) →
    (∀ i A, J i A → Cap A) →
    (∀ (n' i : Nat) (x : Array Value) (W1 : World), xs[i]? = some x → J i W1 → W.heap.size + m ≤ W1.heap.size →
      YieldAt Fence.wide n' P l x W1 fun e W' => e = .returned (.bool true) ∧ J (i + 1) W' ∧ Keep W.heap.size W.heap.size (W.heap.size + m) W1 W') →
    J 0 W →
    CallsIn Fence.wide n P g (#[.func (.yield l) #[] #[]] ++ lb) W fun e W' => (∃ v, e = .returned v) ∧ J xs.length W'

/-- The statement: an outermost loop; its rounds go on, each. -/
theorem wp_rangeI {P : Program} {n : Nat} {g : Operand} {ps : Array Tmp} {assign body : Code} {Q : Exit → Act → World → Prop} {a : Act} {w : World}
    {gf : Nat} {lb : Array Value} (hg : a.eval g = .func (.func gf) #[] lb) (eg : ∀ args w, (callFunc gf args).run P w = .ok (.enter gf args) w)
    {m : Nat} {xs : List (Array Value)} {Cap : World → Prop} (hit : Iter P gf lb m xs Cap) (hps : ∀ x ∈ xs, x.size = ps.size)
    (I : Nat → World → Prop) (hI : ∀ i A B, I i A → Spar w.heap.size (w.heap.size + 2) (w.heap.size + 2 + m) A B → I i B) (hC : ∀ i A, I i A → Cap A) (h0 : I 0 w)
    (hround : ∀ (n' l i : Nat) (x : Array Value) (W : World), xs[i]? = some x → I i W → w.heap.size + 2 + m ≤ W.heap.size →
      assign.wpIn (Fence.wide.inRound l) n' P (Exit.then (fun a1 W1 => W1 = W ∧ ∀ W2, I i W2 → w.heap.size + 2 + m ≤ W2.heap.size →
        body.wpIn (Fence.wide.inRound l) n' P (fun e _ W' => e = .normal ∧ Keep w.heap.size (w.heap.size + 2) (w.heap.size + 2 + m) W2 W' ∧ I (i + 1) W') a1 W2) (fun _ _ _ => False))
        { tmps := (ps.zip x).foldl (fun t (p, v) => t.setIfInBounds p v) a.tmps, defers := [] } W)
    (hdone : ∀ W : World, I xs.length W → W.heap[w.heap.size]? = some (.deferred (some [])) → w.heap.size + 2 ≤ W.heap.size → Q .normal { a with defers := { target := .collected w.heap.size, args := #[] } :: a.defers } W) :
    (Code.rangeFunc g ps assign body).wpIn Fence.wide n P Q a w := by
  refine wpIn_rangeFunc fun fn _ => ?_
  obtain ⟨rc, hrc⟩ : ∃ rc : LoopState → Loop, rc = fun st => { state := st, pending := none, fn, tmps := a.tmps, params := ps, assign, body, defers := w.heap.size } := ⟨_, rfl⟩
  obtain ⟨W1, hW1⟩ : ∃ W1, (w.alloc (.deferred (some []))).alloc (.loop (rc .ready)) = W1 := ⟨_, rfl⟩
  have hs1 : W1.heap.size = w.heap.size + 2 := by rw [← hW1]; simp
  have hL1 : W1.heap[w.heap.size + 1]? = some (.loop (rc .ready)) := by
    rw [← hW1]; have := World.alloc_heap_new (w.alloc (.deferred (some []))) (.loop (rc .ready)); rwa [World.size_alloc] at this
  have hK1 : W1.heap[w.heap.size]? = some (.deferred (some [])) := by
    rw [← hW1]; exact (Below.heap_alloc _ _ _ (by simp)).trans (World.alloc_heap_new w _)
  have hI1 : I 0 W1 := by
    rw [← hW1]; exact hI _ _ _ (hI _ _ _ h0 (Spar.alloc _ _ _ _ _)) (Spar.alloc _ _ _ _ _)
  refine ⟨w.heap.size + 1, [{ target := .collected w.heap.size, args := #[] }], W1, { target := .fn (.func gf) lb, args := #[.func (.yield (w.heap.size + 1)) #[] #[]] }, W1, gf,
    #[.func (.yield (w.heap.size + 1)) #[] #[]] ++ lb, W1, ?_, ?_, ?_, ?_, fun h => by simp [Fence.wide] at h, ?_⟩
  · rw [← hW1, hrc]; exact run_enterLoop_outer _ _ _ _ _
  · simp only [resolve, hg]
    simp [go_sem]
  · intro f' hf'; trivial
  · simp [invoke, go_sem, eg]
  · refine (hit (n - 1) (w.heap.size + 1) (fun i W => I i W ∧ W.heap[w.heap.size + 1]? = some (.loop (rc .ready)) ∧ W.heap[w.heap.size]? = some (.deferred (some []))) W1 ?_ (fun i A h => hC i A h.1) ?_ ⟨hI1, hL1, hK1⟩).mono ?_
    · rintro i A B ⟨h1, h2, h3⟩ hs
      rw [hs1] at hs
      exact ⟨hI i A B h1 (hs.mono (by omega) (fun k hk => by omega)), hs.same _ _ h2 (.inl (by omega)), hs.same _ _ h3 (.inl (by omega))⟩
    · rintro n' i x W hx ⟨hi, hl, hk⟩ hsz
      rw [hs1] at hsz ⊢
      have hy := run_yield (P := P) (args := x) hl (by rw [hrc]; exact hps x (List.mem_of_getElem? hx))
      rw [hrc] at hy
      refine ⟨fn, _, assign, body, hy, roundIn_of_wpIn trivial (wpIn_mono (hround n' (w.heap.size + 1) i x W hx hi hsz) ?_)⟩
      rintro e a1 W1' he
      cases e with
      | normal =>
        obtain ⟨rfl, hbody⟩ := he
        refine ⟨_, run_beginRound hl (by rw [hrc]), ?_⟩
        have hlt : w.heap.size + 1 < W1'.heap.size := (Array.getElem?_eq_some_iff.1 hl).1
        have hl2 : (W1'.putObj (w.heap.size + 1) (.loop { rc .ready with state := .busy })).heap[w.heap.size + 1]? = some (.loop { rc .ready with state := .busy }) := World.putObj_heap_same hlt
        have hk2 : (W1'.putObj (w.heap.size + 1) (.loop { rc .ready with state := .busy })).heap[w.heap.size]? = some (.deferred (some [])) := (World.putObj_heap_other (by omega)).trans hk
        refine wpIn_mono (hbody _ (hI _ _ _ hi (Spar.putObj _ hl rfl (by omega))) (by simp; omega)) ?_
        rintro e a3 W3 ⟨rfl, hk3, hi3⟩
        have hl3 := hk3.same _ _ (by omega) hl2 (.inl rfl)
        have hd3 := hk3.same _ _ (by omega) hk2 (.inl rfl)
        have hr3 := run_endRound (P := P) none hl3
        refine ⟨_, _, hr3, rfl, ⟨hI _ _ _ hi3 (Spar.putObj _ hl3 rfl (by omega)), ?_, (World.putObj_heap_other (by omega)).trans hd3⟩, ?_⟩
        · rw [World.putObj_heap_same (Array.getElem?_eq_some_iff.1 hl3).1, hrc]; rfl
        · exact (Keep.putObj (lo := w.heap.size + 2) _ (by omega)).trans ((hk3.mono (by omega) (fun k _ h h' => ⟨h, h'⟩)).trans (Keep.putObj _ (by omega)))
      | exit id => exact he.elim
      | goto t => exact he.elim
      | ret => exact he.elim
      | panic chain => exact he.elim
      | outgrown => exact he.elim
    · rintro e W2 ⟨⟨v, rfl⟩, hi, hl, hk⟩
      have he := run_endLoop (P := P) hl (by rw [hrc]; simp)
      have hp : (rc .ready).pending = none := by rw [hrc]
      rw [hp] at he
      refine ⟨none, _, he, hdone _ (hI _ _ _ hi (Spar.putObj _ hl rfl (by omega))) ((World.putObj_heap_other (by omega)).trans hk) ?_⟩
      have := (Array.getElem?_eq_some_iff.1 hl).1; simp; omega

/-- Operations that draw their order, in a round, where none is a defer statement: as outside of it. -/
theorem wpAnyIn_rd {n l : Nat} {P : Program} {md : Region.Mode} {ops : Array Oper} {Q : Exit → Act → World → Prop} (hnd : ∀ (i : Nat) (o : Oper), ops[i]? = some o → ∀ c, o.op ≠ .defer c) :
    ∀ (fuel : Nat) (listed : Array Bool) (a : Act) (w : World), wpAnyIn Fence.wide n P md ops Q fuel listed a w → wpAnyIn (Fence.wide.inRound l) n P md ops Q fuel listed a w := by
  intro fuel
  induction fuel with
  | zero => exact fun listed a w h => h
  | succ fuel ih =>
    intro listed a w h
    refine ⟨h.1, fun i hi => ?_⟩
    have hh := h.2 i hi
    unfold wpOpIn at hh ⊢
    cases ho : ops[i]? with
    | none => rw [ho] at hh; exact ih _ _ _ hh
    | some o =>
      rw [ho] at hh
      simp only at hh ⊢
      split at hh
      · rename_i hw
        rw [if_pos hw]
        have := Oper.wpIn_mono (fun a w h => ih _ a w h) hh
        unfold Oper.wpIn at this ⊢
        refine ⟨this.1, ?_⟩
        rw [Oper.semAt_eq _ _ _ (hnd i o ho)] at this ⊢
        exact this.2
      · rename_i hw
        rw [if_neg hw]
        exact ⟨hh.1, ih _ _ _ hh.2⟩
def noDefer (ops : Array Oper) : Bool := ops.toList.all fun o => match o.op with | .defer _ => false | _ => true
theorem noDefer_spec {ops : Array Oper} (h : noDefer ops = true) : ∀ (i : Nat) (o : Oper), ops[i]? = some o → ∀ c, o.op ≠ .defer c := by
  intro i o ho c e
  have hm : o ∈ ops.toList := by
    have := Array.mem_of_getElem? ho
    simpa using this
  have := List.all_eq_true.1 h o hm
  rw [e] at this
  cases this
theorem wpIn_region_rd {n l id : Nat} {P : Program} {ops : Array Oper} {Q : Exit → Act → World → Prop} {a : Act} {w : World} (hm : P.follows .mixedOrders = true) (hd : noDefer ops = true)
    (h : wpAnyIn Fence.wide n P .any ops Q ops.size (Array.replicate ops.size false) a w.drew) : (Code.region id ops true).wpIn (Fence.wide.inRound l) n P Q a w :=
  wpIn_region_any hm (wpAnyIn_rd (noDefer_spec hd) _ _ _ _ h)

/-- A round of another loop, in a round. -/
theorem roundIn_rd {n l l' : Nat} {P : Program} {f : FuncId} {tmps : Array Value} {assign body : Code} {w : World} {R R' : Ending → World → Prop} (h : RoundIn Fence.wide (n - 1) P l f tmps assign body w R') (k : ∀ e w, R' e w → R e w) :
    (Fence.wide.depth.isSome = true → 1 ≤ n) ∧ RoundIn (Fence.wide.inRound l') (n - 1) P l f tmps assign body w R :=
  ⟨fun h => by simp [Fence.wide] at h, h.mono k⟩
theorem roundIn_pl {n l : Nat} {P : Program} {f : FuncId} {tmps : Array Value} {assign body : Code} {w : World} {R R' : Ending → World → Prop} (h : RoundIn Fence.wide (n - 1) P l f tmps assign body w R') (k : ∀ e w, R' e w → R e w) :
    (Fence.wide.depth.isSome = true → 1 ≤ n) ∧ RoundIn Fence.wide (n - 1) P l f tmps assign body w R :=
  ⟨fun h => by simp [Fence.wide] at h, h.mono k⟩
/-- A call within the wide fence, by the callee's plain contract. -/
theorem wide_call {n : Nat} {P : Program} {f : FuncId} {args : Array Value} {w : World} {R R' : Ending → World → Prop} (h : Calls P f args w R') (k : ∀ e w, R' e w → R e w) :
    Fence.wide.fn f ∧ (Fence.wide.depth.isSome = true → 1 ≤ n) ∧ CallsIn Fence.wide (n - 1) P f args w R :=
  ⟨trivial, fun h => by simp [Fence.wide] at h, (callsIn_wide.2 h).mono k⟩
/-- The same in a round. -/
theorem round_call {n l : Nat} {P : Program} {f : FuncId} {args : Array Value} {w : World} {R R' : Ending → World → Prop} (h : Calls P f args w R') (k : ∀ e w, R' e w → R e w) :
    (Fence.wide.inRound l).fn f ∧ ((Fence.wide.inRound l).depth.isSome = true → 1 ≤ n) ∧ CallsIn (Fence.wide.inRound l) (n - 1) P f args w R :=
  ⟨trivial, fun h => by simp [Fence.wide, Fence.inRound] at h, CallsIn.inRound l ((callsIn_wide.2 h).mono k)⟩

end Go.Proofs.Ythmijjcddjlebaa

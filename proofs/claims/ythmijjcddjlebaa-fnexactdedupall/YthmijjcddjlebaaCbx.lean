/-
  A variable's box that holds a slice which grows within the rounds of a range over a function: what is kept of it, one element more. No program; each says what it asks.
-/
import Derived.Test.YthmijjcddjlebaaRgf
import Derived.Maps.OwnIn
import Derived.Maps.AppendAt
namespace Go.Proofs.Ythmijjcddjlebaa
open Go.RowKit
set_option linter.unusedVariables false

/-- The box Bx holds a slice of the call's own that reads as xs; its row lies in block z0 (where the variable began) or beyond the iterator's blocks. -/
def Coll (W : World) (z0 c1 base Bx : Nat) (t e : TypeId) (xs : List Value) : Prop :=
  ∃ v, Boxed W Bx t v ∧ W.ownsRow base e 1 v xs.length xs ∧ ∀ g, v.ownBlock = some g → g = z0 ∨ c1 ≤ g

theorem ownsRow_spar {lo c0 c1 base k : Nat} {A B : World} {e : TypeId} {v : Value} {xs : List Value} (h : A.ownsRow base e 1 v k xs) (hs : Spar lo c0 c1 A B) (hg : ∀ g, v.ownBlock = some g → g < lo ∨ g < c0 ∨ c1 ≤ g) : B.ownsRow base e 1 v k xs := by
  refine ⟨h.1, ?_⟩
  rcases h.2 with hn | ⟨g, cap, cur, rfl, hb, hgb, rest⟩
  · exact .inl hn
  · exact .inr ⟨g, cap, cur, rfl, hb, hs.same g _ hgb ((hg g rfl).imp_right fun h => ⟨rfl, h⟩), rest⟩
theorem Coll.spar {lo c0 c1 z0 base Bx : Nat} {A B : World} {t e : TypeId} {xs : List Value} (h : Coll A z0 c1 base Bx t e xs) (hs : Spar lo c0 c1 A B) (hB : Bx < lo) (hz : z0 < lo) : Coll B z0 c1 base Bx t e xs := by
  obtain ⟨v, hv, hr, hg⟩ := h
  exact ⟨v, hs.boxed hv (.inl hB), ownsRow_spar hr hs (fun g e => by have := hg g e; omega), hg⟩

/-- What an append leaves: the box as it was ahead of the store; behind it all that is owed. -/
theorem coll_step {lo c0 c1 z0 base Bx n0 : Nat} {W w1 : World} {t e : TypeId} {v v' : Value} {xs : List Value} {x : Value} {tmp : Obj}
    (hv : Boxed W Bx t v) (hr : W.ownsRow base e 1 v xs.length xs) (hg : ∀ g, v.ownBlock = some g → g = z0 ∨ c1 ≤ g) (hB : Bx < lo) (hz : z0 < lo) (hzB : z0 ≠ Bx) (hlc : lo ≤ c1) (hW : c1 ≤ W.heap.size) (hlo : lo ≤ W.heap.size)
    (n1 : n0 ≤ base) (n2 : n0 ≤ Bx)
    (ho : w1.ownsRow base e 1 v' (xs.length + 1) (xs ++ [x])) (hgr : (W.alloc tmp).grownBy w1 v.ownBlock) (hat : v'.ownBlock = v.ownBlock ∨ v'.ownBlock = some (W.heap.size + 1)) :
    Boxed w1 Bx t v ∧ Coll (w1.setCell ⟨Bx, 0, none⟩ v') z0 c1 base Bx t e (xs ++ [x]) ∧ Keep lo c0 c1 W (w1.setCell ⟨Bx, 0, none⟩ v') ∧ Below n0 W (w1.setCell ⟨Bx, 0, none⟩ v') := by
  have hne : some Bx ≠ v.ownBlock := fun e' => by have := hg Bx e'.symm; omega
  have hv1 : Boxed w1 Bx t v := (hv.alloc tmp).kept hgr hne
  have hlt := hv.lt
  have hg' : ∀ g, v'.ownBlock = some g → g = z0 ∨ c1 ≤ g := by
    intro g eg
    rcases hat with h | h
    · exact hg g (h.symm.trans eg)
    · rw [h] at eg
      cases eg
      exact .inr (by omega)
  refine ⟨hv1, ⟨v', hv1.set v', ?_, hg'⟩, ?_, ?_⟩
  · rw [List.length_append]
    exact ho.kept (grownBy_setCell' w1 Bx v') (by
      by_cases h0 : v'.ownBlock = none
      · exact .inl h0
      · refine .inr fun e' => ?_
        have := hg' Bx e'
        omega)
  · refine (Keep.alloc _ _ _ W tmp).trans ((Keep.of_grownBy hgr fun j o ej hj => ?_).trans (Keep.setCell _ (.inl hB)))
    rcases (hr.alloc tmp).2 with ⟨rfl, _⟩ | ⟨g, cap, cur, rfl, hb, hgb, _⟩
    · simp [Value.ownBlock] at ej
    · obtain rfl : g = j := by simpa [Value.ownBlock] using ej
      rw [hgb] at hj; cases hj
      rcases hg g rfl with h | h
      · exact .inl (by omega)
      · exact .inr ⟨rfl, .inr h⟩
  · refine ((((Below.refl n0 W).alloc (by omega) tmp).grown hgr (by simp; omega) fun j ej => ?_)).setCell (p := ⟨Bx, 0, none⟩) n2 v'
    rcases hr.2 with ⟨rfl, _⟩ | ⟨g, cap, cur, rfl, hb, _, _⟩
    · simp [Value.ownBlock] at ej
    · obtain rfl : g = j := by simpa [Value.ownBlock] using ej
      omega
/-- An append within a region, by how it runs. -/
theorem wpIn_append_eq {n : Nat} {P : Program} {o : Oper} {a : Act} {w w' : World} {K : Act → World → Prop} {Q : Exit → Act → World → Prop} {s x : Operand} {t : TypeId} {v y v' : Value}
    (hop : o.op = .call { callee := .builtin .append, args := #[s, x], argTypes := #[t, t] }) (hs : a.eval s = v) (hx : a.eval x = y) (hrun : (Builtin.append_ #[t, t] o.type #[v, y]).run P w = .ok v' w') (h : K (a.put o.dst v') w') : o.wpIn Fence.wide n P a w K Q := by
  unfold Oper.wpIn
  refine ⟨by simp [Oper.about, hop, resolve, Target.leads, Sem.run_pure], ?_⟩
  rw [Oper.semAt_plain Fence.wide _ _ (by rw [hop]; intro c hc'; cases hc')]
  simp [execOp, hop, resolve, invoke, builtin, hs, hx, hrun, Result.andThen]
  exact h
end Go.Proofs.Ythmijjcddjlebaa

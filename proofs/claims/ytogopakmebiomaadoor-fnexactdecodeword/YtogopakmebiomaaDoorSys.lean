/-
  What a law holds in its hands: slices of integers of its own, no two of one block, beside whatever was there and stays as it was; what each kind of step does to that. No condition.
-/
import Derived.Test.YtogopakmebiomaaDoorInts
namespace Go.Proofs.YtogopakmebiomaaDoor
open Go.RowKit

structure Sys (W w : World) (L : List (Value × List Int)) : Prop where
  below : Below W.heap.size W w
  own : ∀ (i : Nat) v xs, L[i]? = some (v, xs) → Own w W.heap.size v xs
  apart : ∀ (i j : Nat) v xs u ys, i ≠ j → L[i]? = some (v, xs) → L[j]? = some (u, ys) → v.ownBlock = none ∨ v.ownBlock ≠ u.ownBlock

theorem Sys.start (W : World) : Sys W W [] := ⟨Below.refl _ _, fun i v xs h => by simp at h, fun i j v xs u ys _ h => by simp at h⟩
theorem Sys.step {W w w' : World} {L : List (Value × List Int)} (h : Sys W w L) (hb : Below w.heap.size w w') : Sys W w' L :=
  ⟨h.below.trans (hb.mono h.below.size), fun i v xs hi => Own.below (h.own i v xs hi) hb, h.apart⟩
theorem Sys.add {W w w' : World} {L : List (Value × List Int)} {v : Value} {xs : List Int} (h : Sys W w L) (hb : Below w.heap.size w w') (ho : Own w' w.heap.size v xs) : Sys W w' ((v, xs) :: L) := by
  have old : ∀ (i : Nat) u ys, L[i]? = some (u, ys) → v.ownBlock = none ∨ v.ownBlock ≠ u.ownBlock := by
    intro i u ys hi
    cases hv : v.ownBlock with
    | none => exact .inl rfl
    | some k =>
      right
      intro e
      have h1 := (ho.lt k hv).1
      have h2 := (World.ownsRow.lt (h.own i u ys hi) k e.symm).2
      omega
  refine ⟨h.below.trans (hb.mono h.below.size), ?_, ?_⟩
  · intro i u ys hi
    cases i with
    | zero => simp at hi; obtain ⟨rfl, rfl⟩ := hi; exact Own.mono ho h.below.size
    | succ i => exact Own.below (h.own i u ys (by simpa using hi)) hb
  · intro i j a as1 b bs hij hi hj
    cases i with
    | zero =>
      cases j with
      | zero => exact absurd rfl hij
      | succ j => simp at hi; obtain ⟨rfl, rfl⟩ := hi; exact old j b bs (by simpa using hj)
    | succ i =>
      cases j with
      | zero =>
        simp at hj
        obtain ⟨rfl, rfl⟩ := hj
        have := old i a as1 (by simpa using hi)
        rcases this with hv | hne
        · cases ha : a.ownBlock with
          | none => exact .inl rfl
          | some k => right; rw [hv]; simp
        · exact .inr (fun e => hne e.symm)
      | succ j => exact h.apart i j a as1 b bs (fun e => hij (by rw [e])) (by simpa using hi) (by simpa using hj)
theorem Sys.mark {W w w' : World} {L : List (Value × List Int)} {v : Value} {xs ys : List Int} (h : Sys W w L) (i : Nat) (hi : L[i]? = some (v, xs)) (ho : Own w' W.heap.size v ys) (hg : w.grownBy w' v.ownBlock) : Sys W w' (L.set i (v, ys)) := by
  have hil : i < L.length := (List.getElem?_eq_some_iff.1 hi).1
  refine ⟨h.below.grown hg h.below.size (fun k hk => (World.ownsRow.lt (h.own i v xs hi) k hk).1), ?_, ?_⟩
  · intro j u us hj
    by_cases e : i = j
    · subst e
      rw [List.getElem?_set_self hil] at hj
      simp at hj
      obtain ⟨rfl, rfl⟩ := hj
      exact ho
    · rw [List.getElem?_set_ne e] at hj
      exact World.ownsRow.kept (h.own j u us hj) hg (h.apart j i u us v xs (fun e' => e e'.symm) hj hi)
  · intro j k a as1 b bs hjk hj hk
    have get : ∀ (m : Nat) c cs, (L.set i (v, ys))[m]? = some (c, cs) → ∃ cs', L[m]? = some (c, cs') := by
      intro m c cs hm
      by_cases e : i = m
      · subst e
        rw [List.getElem?_set_self hil] at hm
        simp at hm
        obtain ⟨rfl, rfl⟩ := hm
        exact ⟨xs, hi⟩
      · rw [List.getElem?_set_ne e] at hm
        exact ⟨cs, hm⟩
    obtain ⟨as2, ha⟩ := get j a as1 hj
    obtain ⟨bs', hb⟩ := get k b bs hk
    exact h.apart j k a as2 b bs' hjk ha hb
theorem Sys.rd {W w : World} {L : List (Value × List Int)} {v : Value} {xs : List Int} (h : Sys W w L) (i : Nat) (hi : L[i]? = some (v, xs)) : Rd w v xs := (h.own i v xs hi).rd
end Go.Proofs.YtogopakmebiomaaDoor

/-
  A map of places to orders, as data: a list of 32 places that may hold a number each. What is looked up, put, deleted; mathematics of the model's data alone. No call is walked here.
-/
import Derived.Test.YtjffjoednmlkiaaRmv
import Derived.Maps.RangeWalk
import Derived.Maps.OwnOps
namespace Go.Proofs.Ytjffjoednmlkiaa
open Go.RowKit Go.Maps Go.MapKept Go.ChangeMaps
set_option linter.unusedVariables false

abbrev Om := List (Option Int)
abbrev keyI (k : Int) : Lit := .int .i64 k
def dEn : Nat → Om → List (Lit × DataW Unit)
  | _, [] => []
  | o, none :: r => dEn (o + 1) r
  | o, some x :: r => (keyI (o : Int), .lit (.int .i64 x)) :: dEn (o + 1) r
def dOf (G : Om) : DataW Unit := .map (dEn 0 G)
def lkM (G : Om) (k : Int) : Option Int := if 0 ≤ k then G.getD k.toNat none else none
theorem same_key (a b : Int) : (keyI a).sameKey (keyI b) = decide (a = b) := by simp [Lit.sameKey]
theorem dEn_mem : ∀ (G : Om) (o : Nat), ∀ p ∈ dEn o G, ∃ (j : Nat) (x : Int), p = (keyI (j : Int), .lit (.int .i64 x)) ∧ o ≤ j ∧ j < o + G.length
  | [], o, p, h => by simp [dEn] at h
  | none :: r, o, p, h => by
    obtain ⟨j, x, e, h1, h2⟩ := dEn_mem r (o + 1) p (by simpa [dEn] using h)
    exact ⟨j, x, e, by omega, by simp; omega⟩
  | some y :: r, o, p, h => by
    simp only [dEn, List.mem_cons] at h
    rcases h with rfl | h
    · exact ⟨o, y, rfl, Nat.le_refl _, by simp⟩
    · obtain ⟨j, x, e, h1, h2⟩ := dEn_mem r (o + 1) p h
      exact ⟨j, x, e, by omega, by simp; omega⟩
theorem dEn_len : ∀ (G : Om) (o : Nat), (dEn o G).length ≤ G.length
  | [], o => Nat.le_refl _
  | none :: r, o => by have := dEn_len r (o + 1); simp only [dEn, List.length_cons]; omega
  | some y :: r, o => by have := dEn_len r (o + 1); simp only [dEn, List.length_cons]; omega
theorem dEn_find : ∀ (G : Om) (o : Nat) (k : Int), (dEn o G).find? (fun p => p.1.sameKey (keyI k)) = (if (o : Int) ≤ k then G.getD (k - o).toNat none else none).map fun x => (keyI k, .lit (.int .i64 x))
  | [], o, k => by simp [dEn]
  | none :: r, o, k => by
    simp only [dEn]
    rw [dEn_find r (o + 1) k]
    by_cases h : (o : Int) ≤ k
    · by_cases h1 : (o : Int) = k
      · subst h1; simp; omega
      · rw [if_pos (by omega), if_pos h]
        obtain ⟨d, hd⟩ : ∃ d : Nat, k = o + 1 + d := ⟨(k - o - 1).toNat, by omega⟩
        subst hd
        have e1 : ((o : Int) + 1 + d - ((o + 1 : Nat) : Int)).toNat = d := by omega
        have e2 : ((o : Int) + 1 + d - (o : Int)).toNat = d + 1 := by omega
        rw [e1, e2, List.getD_cons_succ]
    · rw [if_neg (by omega), if_neg h]
  | some y :: r, o, k => by
    simp only [dEn, List.find?_cons]
    rw [dEn_find r (o + 1) k, same_key]
    by_cases h1 : (o : Int) = k
    · subst h1; simp
    · rw [decide_eq_false h1]
      by_cases h : (o : Int) ≤ k
      · rw [if_pos (by omega), if_pos h]
        obtain ⟨d, hd⟩ : ∃ d : Nat, k = o + 1 + d := ⟨(k - o - 1).toNat, by omega⟩
        subst hd
        have e1 : ((o : Int) + 1 + d - ((o + 1 : Nat) : Int)).toNat = d := by omega
        have e2 : ((o : Int) + 1 + d - (o : Int)).toNat = d + 1 := by omega
        rw [e1, e2, List.getD_cons_succ]
      · rw [if_neg (by omega), if_neg h]
theorem dOf_find (G : Om) (k : Int) : (dEn 0 G).find? (fun p => p.1.sameKey (keyI k)) = (lkM G k).map fun x => (keyI k, .lit (.int .i64 x)) := by
  rw [dEn_find]
  unfold lkM
  simp
theorem dOf_at (G : Om) (k : Int) (z : Int) : (dOf G).atKey (keyI k) (.lit (.int .i64 z)) = .lit (.int .i64 ((lkM G k).getD z)) := by
  unfold DataW.atKey dOf
  simp only
  rw [dOf_find]
  cases lkM G k <;> rfl
theorem dOf_atS (G : Om) (k : Int) (x : Int) (h : lkM G k = some x) (z : DataW Unit) : (dOf G).atKey (keyI k) z = .lit (.int .i64 x) := by
  unfold DataW.atKey dOf
  simp only
  rw [dOf_find, h]
  rfl
theorem any_find {α : Type} (f : α → Bool) : ∀ l : List α, l.any f = (l.find? f).isSome
  | [] => rfl
  | a :: l => by
    rw [List.any_cons, List.find?_cons, any_find f l]
    cases f a <;> rfl
theorem dOf_has (G : Om) (k : Int) : has (dOf G) (keyI k) = (lkM G k).isSome := by
  show (dEn 0 G).any (fun p => p.1.sameKey (keyI k)) = _
  rw [any_find, dOf_find]
  cases lkM G k <;> rfl
theorem dOf_size (G : Om) : size (dOf G) ≤ G.length := dEn_len G 0
theorem dEn_filter : ∀ (G : Om) (o i : Nat), (dEn o G).filter (fun p => !p.1.sameKey (keyI ((o + i : Nat) : Int))) = dEn o (G.set i none)
  | [], o, i => by simp [dEn]
  | none :: r, o, 0 => by
    simp only [dEn, List.set_cons_zero]
    refine List.filter_eq_self.2 fun p hp => ?_
    obtain ⟨j, x, rfl, h1, h2⟩ := dEn_mem r (o + 1) p hp
    rw [same_key]
    simp; omega
  | some y :: r, o, 0 => by
    simp only [dEn, List.set_cons_zero, List.filter_cons, same_key, Nat.add_zero, decide_true, Bool.not_true, Bool.false_eq_true, if_false]
    refine List.filter_eq_self.2 fun p hp => ?_
    obtain ⟨j, x, rfl, h1, h2⟩ := dEn_mem r (o + 1) p hp
    have e : ¬ ((j : Int) = (o : Int)) := by omega
    simp only [same_key, decide_eq_false e, Bool.not_false]
  | none :: r, o, i + 1 => by
    have ih := dEn_filter r (o + 1) i
    rw [show o + 1 + i = o + (i + 1) from by omega] at ih
    simp only [dEn, List.set_cons_succ]
    exact ih
  | some y :: r, o, i + 1 => by
    have ih := dEn_filter r (o + 1) i
    rw [show o + 1 + i = o + (i + 1) from by omega] at ih
    have e : ¬ ((o : Int) = ((o + (i + 1) : Nat) : Int)) := by omega
    simp only [dEn, List.set_cons_succ, List.filter_cons, same_key, decide_eq_false e, Bool.not_false, if_true]
    rw [ih]
theorem ins_lt {a b : Int} (x y : DataW Unit) (t : List (Lit × DataW Unit)) (h : a < b) : DataW.insert (keyI a, x) ((keyI b, y) :: t) = (keyI a, x) :: (keyI b, y) :: t := by simp [DataW.insert, Lit.before, h]
theorem ins_ge {a b : Int} (x y : DataW Unit) (t : List (Lit × DataW Unit)) (h : ¬ a < b) : DataW.insert (keyI a, x) ((keyI b, y) :: t) = (keyI b, y) :: DataW.insert (keyI a, x) t := by simp [DataW.insert, Lit.before, h]
theorem dEn_insert : ∀ (G : Om) (o i : Nat) (x : Int), i < G.length → G.getD i none = none → DataW.insert (keyI ((o + i : Nat) : Int), .lit (.int .i64 x)) (dEn o G) = dEn o (G.set i (some x))
  | [], o, i, x, h, _ => by simp at h
  | none :: r, o, 0, x, _, _ => by
    simp only [dEn, List.set_cons_zero, Nat.add_zero]
    cases hd : dEn (o + 1) r with
    | nil => rfl
    | cons p t =>
      obtain ⟨j, y, rfl, h1, h2⟩ := dEn_mem r (o + 1) p (by rw [hd]; simp)
      rw [ins_lt _ _ _ (by omega)]
  | some y :: r, o, 0, x, _, h => by simp at h
  | none :: r, o, i + 1, x, hi, h => by
    have ih := dEn_insert r (o + 1) i x (by simpa using hi) (by simpa using h)
    rw [show o + 1 + i = o + (i + 1) from by omega] at ih
    simp only [dEn, List.set_cons_succ]
    exact ih
  | some y :: r, o, i + 1, x, hi, h => by
    have ih := dEn_insert r (o + 1) i x (by simpa using hi) (by simpa using h)
    rw [show o + 1 + i = o + (i + 1) from by omega] at ih
    simp only [dEn, List.set_cons_succ]
    rw [ins_ge _ _ _ (by omega), ih]
theorem dOf_put (G : Om) (p : Nat) (x : Int) (h : p < G.length) : (dOf G).put (keyI (p : Int)) (.lit (.int .i64 x)) = dOf (G.set p (some x)) := by
  unfold DataW.put dOf
  simp only
  have h1 := dEn_filter G 0 p
  have h2 := dEn_insert (G.set p none) 0 p x (by simpa using h) (by simp [List.getD_eq_getElem?_getD, h])
  rw [Nat.zero_add] at h1 h2
  rw [h1, h2, List.set_set]
theorem dOf_del (G : Om) (p : Nat) : (dOf G).del (keyI (p : Int)) = dOf (G.set p none) := by
  unfold DataW.del dOf
  simp only
  have h1 := dEn_filter G 0 p
  rw [Nat.zero_add] at h1
  rw [h1]
def none32 : Om := List.replicate 32 none
theorem none32_len : none32.length = 32 := by simp [none32]
theorem dEn_none (n o : Nat) : dEn o (List.replicate n none) = [] := by
  induction n generalizing o with
  | zero => rfl
  | succ n ih => rw [List.replicate_succ]; exact ih (o + 1)
theorem dOf_none : dOf none32 = .map [] := by
  show DataW.map _ = _
  rw [none32, dEn_none]
theorem lkM_some {G : Om} {k x : Int} (h : lkM G k = some x) : 0 ≤ k ∧ k < G.length ∧ G.getD k.toNat none = some x := by
  unfold lkM at h
  split at h
  · rename_i h0
    refine ⟨h0, ?_, h⟩
    by_cases h1 : k.toNat < G.length
    · omega
    · rw [List.getD_eq_getElem?_getD, List.getElem?_eq_none (by omega)] at h
      cases h
  · cases h
theorem lkM_nat (G : Om) (p : Nat) : lkM G (p : Int) = G.getD p none := by
  unfold lkM
  rw [if_pos (by omega)]
  simp

/-- Block b is a map that holds just these. -/
structure MapAt (w : World) (b : Nat) (G : Om) : Prop where
  len : G.length = 32
  own : w.ownsMap (H := Unit) Try.prog 3 (plainElem Try.prog 3) b 32 (dOf G)
theorem keyedI : Keyed Try.prog 3 := int_keyed Try.underlying3
def wfI (k : Int) : Prop := (Lit.int .i64 k).wf = true
theorem wfI_small {k : Int} (h0 : -9223372036854775808 ≤ k) (h1 : k ≤ 9223372036854775807) : wfI k := by
  unfold wfI
  simp [Lit.wf, IntKind.min, IntKind.max, IntKind.signed, IntKind.bits]
  omega
theorem ownsMap_size {w : World} {b n : Nat} {D : DataW Unit} (h : w.ownsMap Try.prog 3 (plainElem Try.prog 3) b n D) : w.ownsMap Try.prog 3 (plainElem Try.prog 3) b (size D) D := by
  obtain ⟨es, clock, hb, F, hs, rfl⟩ := h
  refine ⟨es, clock, hb, F, ?_, rfl⟩
  simp [size, length_sorted]
theorem MapAt.new (w : World) : MapAt (w.alloc (.map #[] 0)) w.heap.size none32 := ⟨none32_len, by
  rw [dOf_none]
  exact (World.ownsMap_made w _ _ _).mono (by omega)⟩
section
variable {w w' : World} {b : Nat} {G : Om}
theorem MapAt.lt (h : MapAt w b G) : b < w.heap.size := h.own.lt
theorem MapAt.kept {row : Option Nat} (h : MapAt w b G) (hg : w.grownBy w' row) (hne : some b ≠ row) : MapAt w' b G := ⟨h.len, h.own.kept hg hne⟩
theorem MapAt.chg {x y : Nat} (h : MapAt w b G) (hc : Chg x y w w') (hd : b < x ∨ y ≤ b) : MapAt w' b G := by
  obtain ⟨es, clock, hb, r⟩ := h.own
  exact ⟨h.len, es, clock, by rw [hc.block b h.lt (by omega)]; exact hb, r⟩
theorem MapAt.below (h : MapAt w b G) (hb : Below w.heap.size w w') : MapAt w' b G := h.chg (Chg.ofBelow (lo := w.heap.size) (hi := w.heap.size) hb) (.inl h.lt)
theorem MapAt.look (h : MapAt w b G) {k : Int} (hk : wfI k) : (Instr.lookup 85 (.map (some b)) (.int .i64 k) false).run Try.prog w = .ok (.int .i64 ((lkM G k).getD 0)) w := by
  obtain ⟨c, hrun, hat, _⟩ := h.own.lookup_int keyedI Try.underlying85 Try.underlying3 (Try.zeroValue3 _) (keyOf_int_mk Try.underlying3 hk)
  rw [dOf_at] at hat
  simp only [DataW.lit.injEq, Lit.int.injEq, true_and] at hat
  rw [hrun, hat]
theorem MapAt.lookOk (h : MapAt w b G) {k : Int} (hk : wfI k) : (Instr.lookup 85 (.map (some b)) (.int .i64 k) true).run Try.prog w = .ok (.tuple #[.int .i64 ((lkM G k).getD 0), .bool (lkM G k).isSome]) w := by
  obtain ⟨v, ps, hrun, hv⟩ := h.own.look_ok (zd := .lit (.int .i64 0)) (zp := []) keyedI Try.underlying85 (Try.zeroValue3 _) (plainElem_int Try.underlying3 (by decide)) (keyOf_int_mk Try.underlying3 hk)
  obtain ⟨c, rfl, hc, _⟩ := plainElem_int_inv Try.underlying3 hv
  rw [dOf_at] at hc
  simp only [Prod.mk.injEq, DataW.lit.injEq, Lit.int.injEq, true_and] at hc
  rw [hrun, dOf_has, ← hc.1]
theorem MapAt.put (h : MapAt w b G) (p : Nat) (hp : p < 32) (x : Int) (hx : wfI x) : ∃ w', (Instr.mapUpdate 85 (.map (some b)) (.int .i64 (p : Int)) (.int .i64 x)).run Try.prog w = .ok () w' ∧ MapAt w' b (G.set p (some x)) ∧ w.grownBy w' (some b) ∧ w'.heap.size = w.heap.size := by
  obtain ⟨w', hrun, ho, ht⟩ := h.own.store keyedI Try.underlying85 (by decide) (keyOf_int_mk Try.underlying3 (wfI_small (k := (p : Int)) (by omega) (by omega))) (plainElem_int Try.underlying3 hx)
  rw [dOf_put G p x (by rw [h.len]; exact hp)] at ho
  have hs := ownsMap_size ho
  have hl := dOf_size (G.set p (some x))
  rw [List.length_set, h.len] at hl
  refine ⟨w', hrun, ⟨by rw [List.length_set]; exact h.len, hs.mono hl⟩, ?_, ?_⟩
  · obtain ⟨es, clock, es', clock', hb, rfl⟩ := ht
    exact ⟨rfl, rfl, rfl, by simp [setBlock], fun i _ hi => heap_setBlock_other hb _ (fun e1 => hi (by rw [e1]))⟩
  · obtain ⟨es, clock, es', clock', hb, rfl⟩ := ht
    simp [setBlock]
theorem MapAt.del (h : MapAt w b G) (p : Nat) (hp : p < 32) (ty : TypeId) : ∃ w', (Builtin.delete_ #[85, 3] ty #[.map (some b), .int .i64 (p : Int)]).run Try.prog w = .ok (.tuple #[]) w' ∧ MapAt w' b (G.set p none) ∧ w.grownBy w' (some b) ∧ w'.heap.size = w.heap.size := by
  obtain ⟨w', hrun, ho, ht⟩ := h.own.drop (ty := ty) keyedI Try.underlying85 (keyOf_int_mk Try.underlying3 (wfI_small (k := (p : Int)) (by omega) (by omega)))
  rw [dOf_del G p] at ho
  refine ⟨w', hrun, ⟨by rw [List.length_set]; exact h.len, ho⟩, ?_, ?_⟩
  · obtain ⟨es, clock, es', clock', hb, rfl⟩ := ht
    exact ⟨rfl, rfl, rfl, by simp [setBlock], fun i _ hi => heap_setBlock_other hb _ (fun e1 => hi (by rw [e1]))⟩
  · obtain ⟨es, clock, es', clock', hb, rfl⟩ := ht
    simp [setBlock]
end
def TMap (b : Nat) (G : Om) : Tg := fun lo hi w => lo ≤ b ∧ b < hi ∧ MapAt w b G
theorem TMap.st (b : Nat) (G : Om) : (TMap b G).st := by
  intro lo hi x y w w' h hc hd
  obtain ⟨h1, h2, h3⟩ := h
  exact ⟨h1, h2, h3.chg hc (by omega)⟩
end Go.Proofs.Ytjffjoednmlkiaa

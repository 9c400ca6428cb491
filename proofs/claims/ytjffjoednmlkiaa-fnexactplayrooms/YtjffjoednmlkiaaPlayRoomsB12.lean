/-
  A map of places to orders, as data: a list of 32 places that may hold a number each. What is looked up, put, deleted; mathematics of the model's data alone. No call is walked here. A slice of integers that came in, read with their bounds. No condition; no call is walked here. Orders and places: how long a room is, whether there is such a room, its buddy, the order for a size: the program's functions and its model's, call by call. Each contract says what it asks. slices.Sort at a slice of integers, at this program's own numbers (laid by the kit's own program out of the contracts that its library proves over any program). No condition.
-/
import Derived.Test.YtjffjoednmlkiaaPlayRoomsB11
import Derived.Maps.RangeWalk
import Derived.Maps.OwnOps
import Derived.Shelf.SortM.Plain
import Derived.Ground.SlgmProg
import Derived.Test.YtjffjoednmlkiaaProg
namespace Go.Proofs.Ytjffjoednmlkiaa
open Go.RowKit Go.Maps Go.MapKept Go.ChangeMaps
set_option linter.unusedVariables false

abbrev Om := List (Option Int)
abbrev keyI (k : Int) : Lit := .int .i64 k
def dEn : Nat → Om → List (Lit × DataW Unit)
  | _, [] => []
  | o, none :: r => dEn (o + 1) r
  | o, some x :: r => (keyI (o : Int), .lit (.int .i64 x)) :: dEn (o + 1) r
def dOf (G : Om) : DataW Unit := .map (dEn 0 G)
def lkM (G : Om) (k : Int) : Option Int := if 0 ≤ k then G.getD k.toNat none else none
theorem same_key (a b : Int) : (keyI a).sameKey (keyI b) = decide (a = b) := by simp [Lit.sameKey]
theorem dEn_mem : ∀ (G : Om) (o : Nat), ∀ p ∈ dEn o G, ∃ (j : Nat) (x : Int), p = (keyI (j : Int), .lit (.int .i64 x)) ∧ o ≤ j ∧ j < o + G.length
  | [], o, p, h => by simp [dEn] at h
  | none :: r, o, p, h => by
    obtain ⟨j, x, e, h1, h2⟩ := dEn_mem r (o + 1) p (by simpa [dEn] using h)
    exact ⟨j, x, e, by omega, by simp; omega⟩
  | some y :: r, o, p, h => by
    simp only [dEn, List.mem_cons] at h
    rcases h with rfl | h
    · exact ⟨o, y, rfl, Nat.le_refl _, by simp⟩
    · obtain ⟨j, x, e, h1, h2⟩ := dEn_mem r (o + 1) p h
      exact ⟨j, x, e, by omega, by simp; omega⟩
theorem dEn_len : ∀ (G : Om) (o : Nat), (dEn o G).length ≤ G.length
  | [], o => Nat.le_refl _
  | none :: r, o => by have := dEn_len r (o + 1); simp only [dEn, List.length_cons]; omega
  | some y :: r, o => by have := dEn_len r (o + 1); simp only [dEn, List.length_cons]; omega
theorem dEn_find : ∀ (G : Om) (o : Nat) (k : Int), (dEn o G).find? (fun p => p.1.sameKey (keyI k)) = (if (o : Int) ≤ k then G.getD (k - o).toNat none else none).map fun x => (keyI k, .lit (.int .i64 x))
  | [], o, k => by simp [dEn]
  | none :: r, o, k => by
    simp only [dEn]
    rw [dEn_find r (o + 1) k]
    by_cases h : (o : Int) ≤ k
    · by_cases h1 : (o : Int) = k
      · subst h1; simp; omega
      · rw [if_pos (by omega), if_pos h]
        obtain ⟨d, hd⟩ : ∃ d : Nat, k = o + 1 + d := ⟨(k - o - 1).toNat, by omega⟩
        subst hd
        have e1 : ((o : Int) + 1 + d - ((o + 1 : Nat) : Int)).toNat = d := by omega
        have e2 : ((o : Int) + 1 + d - (o : Int)).toNat = d + 1 := by omega
        rw [e1, e2, List.getD_cons_succ]
    · rw [if_neg (by omega), if_neg h]
  | some y :: r, o, k => by
    simp only [dEn, List.find?_cons]
    rw [dEn_find r (o + 1) k, same_key]
    by_cases h1 : (o : Int) = k
    · subst h1; simp
    · rw [decide_eq_false h1]
      by_cases h : (o : Int) ≤ k
      · rw [if_pos (by omega), if_pos h]
        obtain ⟨d, hd⟩ : ∃ d : Nat, k = o + 1 + d := ⟨(k - o - 1).toNat, by omega⟩
        subst hd
        have e1 : ((o : Int) + 1 + d - ((o + 1 : Nat) : Int)).toNat = d := by omega
        have e2 : ((o : Int) + 1 + d - (o : Int)).toNat = d + 1 := by omega
        rw [e1, e2, List.getD_cons_succ]
      · rw [if_neg (by omega), if_neg h]
theorem dOf_find (G : Om) (k : Int) : (dEn 0 G).find? (fun p => p.1.sameKey (keyI k)) = (lkM G k).map fun x => (keyI k, .lit (.int .i64 x)) := by
  rw [dEn_find]
  unfold lkM
  simp
theorem dOf_at (G : Om) (k : Int) (z : Int) : (dOf G).atKey (keyI k) (.lit (.int .i64 z)) = .lit (.int .i64 ((lkM G k).getD z)) := by
  unfold DataW.atKey dOf
  simp only
  rw [dOf_find]
  cases lkM G k <;> rfl
theorem dOf_atS (G : Om) (k : Int) (x : Int) (h : lkM G k = some x) (z : DataW Unit) : (dOf G).atKey (keyI k) z = .lit (.int .i64 x) := by
  unfold DataW.atKey dOf
  simp only
  rw [dOf_find, h]
  rfl
theorem any_find {α : Type} (f : α → Bool) : ∀ l : List α, l.any f = (l.find? f).isSome
  | [] => rfl
  | a :: l => by
    rw [List.any_cons, List.find?_cons, any_find f l]
    cases f a <;> rfl
theorem dOf_has (G : Om) (k : Int) : has (dOf G) (keyI k) = (lkM G k).isSome := by
  show (dEn 0 G).any (fun p => p.1.sameKey (keyI k)) = _
  rw [any_find, dOf_find]
  cases lkM G k <;> rfl
theorem dOf_size (G : Om) : size (dOf G) ≤ G.length := dEn_len G 0
theorem dEn_filter : ∀ (G : Om) (o i : Nat), (dEn o G).filter (fun p => !p.1.sameKey (keyI ((o + i : Nat) : Int))) = dEn o (G.set i none)
  | [], o, i => by simp [dEn]
  | none :: r, o, 0 => by
    simp only [dEn, List.set_cons_zero]
    refine List.filter_eq_self.2 fun p hp => ?_
    obtain ⟨j, x, rfl, h1, h2⟩ := dEn_mem r (o + 1) p hp
    rw [same_key]
    simp; omega
  | some y :: r, o, 0 => by
    simp only [dEn, List.set_cons_zero, List.filter_cons, same_key, Nat.add_zero, decide_true, Bool.not_true, Bool.false_eq_true, if_false]
    refine List.filter_eq_self.2 fun p hp => ?_
    obtain ⟨j, x, rfl, h1, h2⟩ := dEn_mem r (o + 1) p hp
    have e : ¬ ((j : Int) = (o : Int)) := by omega
    simp only [same_key, decide_eq_false e, Bool.not_false]
  | none :: r, o, i + 1 => by
    have ih := dEn_filter r (o + 1) i
    rw [show o + 1 + i = o + (i + 1) from by omega] at ih
    simp only [dEn, List.set_cons_succ]
    exact ih
  | some y :: r, o, i + 1 => by
    have ih := dEn_filter r (o + 1) i
    rw [show o + 1 + i = o + (i + 1) from by omega] at ih
    have e : ¬ ((o : Int) = ((o + (i + 1) : Nat) : Int)) := by omega
    simp only [dEn, List.set_cons_succ, List.filter_cons, same_key, decide_eq_false e, Bool.not_false, if_true]
    rw [ih]
theorem ins_lt {a b : Int} (x y : DataW Unit) (t : List (Lit × DataW Unit)) (h : a < b) : DataW.insert (keyI a, x) ((keyI b, y) :: t) = (keyI a, x) :: (keyI b, y) :: t := by simp [DataW.insert, Lit.before, h]
theorem ins_ge {a b : Int} (x y : DataW Unit) (t : List (Lit × DataW Unit)) (h : ¬ a < b) : DataW.insert (keyI a, x) ((keyI b, y) :: t) = (keyI b, y) :: DataW.insert (keyI a, x) t := by simp [DataW.insert, Lit.before, h]
theorem dEn_insert : ∀ (G : Om) (o i : Nat) (x : Int), i < G.length → G.getD i none = none → DataW.insert (keyI ((o + i : Nat) : Int), .lit (.int .i64 x)) (dEn o G) = dEn o (G.set i (some x))
  | [], o, i, x, h, _ => by simp at h
  | none :: r, o, 0, x, _, _ => by
    simp only [dEn, List.set_cons_zero, Nat.add_zero]
    cases hd : dEn (o + 1) r with
    | nil => rfl
    | cons p t =>
      obtain ⟨j, y, rfl, h1, h2⟩ := dEn_mem r (o + 1) p (by rw [hd]; simp)
      rw [ins_lt _ _ _ (by omega)]
  | some y :: r, o, 0, x, _, h => by simp at h
  | none :: r, o, i + 1, x, hi, h => by
    have ih := dEn_insert r (o + 1) i x (by simpa using hi) (by simpa using h)
    rw [show o + 1 + i = o + (i + 1) from by omega] at ih
    simp only [dEn, List.set_cons_succ]
    exact ih
  | some y :: r, o, i + 1, x, hi, h => by
    have ih := dEn_insert r (o + 1) i x (by simpa using hi) (by simpa using h)
    rw [show o + 1 + i = o + (i + 1) from by omega] at ih
    simp only [dEn, List.set_cons_succ]
    rw [ins_ge _ _ _ (by omega), ih]
theorem dOf_put (G : Om) (p : Nat) (x : Int) (h : p < G.length) : (dOf G).put (keyI (p : Int)) (.lit (.int .i64 x)) = dOf (G.set p (some x)) := by
  unfold DataW.put dOf
  simp only
  have h1 := dEn_filter G 0 p
  have h2 := dEn_insert (G.set p none) 0 p x (by simpa using h) (by simp [List.getD_eq_getElem?_getD, h])
  rw [Nat.zero_add] at h1 h2
  rw [h1, h2, List.set_set]
theorem dOf_del (G : Om) (p : Nat) : (dOf G).del (keyI (p : Int)) = dOf (G.set p none) := by
  unfold DataW.del dOf
  simp only
  have h1 := dEn_filter G 0 p
  rw [Nat.zero_add] at h1
  rw [h1]
def none32 : Om := List.replicate 32 none
theorem none32_len : none32.length = 32 := by simp [none32]
theorem dEn_none (n o : Nat) : dEn o (List.replicate n none) = [] := by
  induction n generalizing o with
  | zero => rfl
  | succ n ih => rw [List.replicate_succ]; exact ih (o + 1)
theorem dOf_none : dOf none32 = .map [] := by
  show DataW.map _ = _
  rw [none32, dEn_none]
theorem lkM_some {G : Om} {k x : Int} (h : lkM G k = some x) : 0 ≤ k ∧ k < G.length ∧ G.getD k.toNat none = some x := by
  unfold lkM at h
  split at h
  · rename_i h0
    refine ⟨h0, ?_, h⟩
    by_cases h1 : k.toNat < G.length
    · omega
    · rw [List.getD_eq_getElem?_getD, List.getElem?_eq_none (by omega)] at h
      cases h
  · cases h
theorem lkM_nat (G : Om) (p : Nat) : lkM G (p : Int) = G.getD p none := by
  unfold lkM
  rw [if_pos (by omega)]
  simp

/-- Block b is a map that holds just these. -/
structure MapAt (w : World) (b : Nat) (G : Om) : Prop where
  len : G.length = 32
  own : w.ownsMap (H := Unit) Try.prog 3 (plainElem Try.prog 3) b 32 (dOf G)
theorem keyedI : Keyed Try.prog 3 := int_keyed Try.underlying3
def wfI (k : Int) : Prop := (Lit.int .i64 k).wf = true
theorem wfI_small {k : Int} (h0 : -9223372036854775808 ≤ k) (h1 : k ≤ 9223372036854775807) : wfI k := by
  unfold wfI
  simp [Lit.wf, IntKind.min, IntKind.max, IntKind.signed, IntKind.bits]
  omega
theorem ownsMap_size {w : World} {b n : Nat} {D : DataW Unit} (h : w.ownsMap Try.prog 3 (plainElem Try.prog 3) b n D) : w.ownsMap Try.prog 3 (plainElem Try.prog 3) b (size D) D := by
  obtain ⟨es, clock, hb, F, hs, rfl⟩ := h
  refine ⟨es, clock, hb, F, ?_, rfl⟩
  simp [size, length_sorted]
theorem MapAt.new (w : World) : MapAt (w.alloc (.map #[] 0)) w.heap.size none32 := ⟨none32_len, by
  rw [dOf_none]
  exact (World.ownsMap_made w _ _ _).mono (by omega)⟩
section
variable {w w' : World} {b : Nat} {G : Om}
theorem MapAt.lt (h : MapAt w b G) : b < w.heap.size := h.own.lt
theorem MapAt.kept {row : Option Nat} (h : MapAt w b G) (hg : w.grownBy w' row) (hne : some b ≠ row) : MapAt w' b G := ⟨h.len, h.own.kept hg hne⟩
theorem MapAt.chg {x y : Nat} (h : MapAt w b G) (hc : Chg x y w w') (hd : b < x ∨ y ≤ b) : MapAt w' b G := by
  obtain ⟨es, clock, hb, r⟩ := h.own
  exact ⟨h.len, es, clock, by rw [hc.block b h.lt (by omega)]; exact hb, r⟩
theorem MapAt.below (h : MapAt w b G) (hb : Below w.heap.size w w') : MapAt w' b G := h.chg (Chg.ofBelow (lo := w.heap.size) (hi := w.heap.size) hb) (.inl h.lt)
theorem MapAt.look (h : MapAt w b G) {k : Int} (hk : wfI k) : (Instr.lookup 85 (.map (some b)) (.int .i64 k) false).run Try.prog w = .ok (.int .i64 ((lkM G k).getD 0)) w := by
  obtain ⟨c, hrun, hat, _⟩ := h.own.lookup_int keyedI Try.underlying85 Try.underlying3 (Try.zeroValue3 _) (keyOf_int_mk Try.underlying3 hk)
  rw [dOf_at] at hat
  simp only [DataW.lit.injEq, Lit.int.injEq, true_and] at hat
  rw [hrun, hat]
theorem MapAt.lookOk (h : MapAt w b G) {k : Int} (hk : wfI k) : (Instr.lookup 85 (.map (some b)) (.int .i64 k) true).run Try.prog w = .ok (.tuple #[.int .i64 ((lkM G k).getD 0), .bool (lkM G k).isSome]) w := by
  obtain ⟨v, ps, hrun, hv⟩ := h.own.look_ok (zd := .lit (.int .i64 0)) (zp := []) keyedI Try.underlying85 (Try.zeroValue3 _) (plainElem_int Try.underlying3 (by decide)) (keyOf_int_mk Try.underlying3 hk)
  obtain ⟨c, rfl, hc, _⟩ := plainElem_int_inv Try.underlying3 hv
  rw [dOf_at] at hc
  simp only [Prod.mk.injEq, DataW.lit.injEq, Lit.int.injEq, true_and] at hc
  rw [hrun, dOf_has, ← hc.1]
theorem MapAt.put (h : MapAt w b G) (p : Nat) (hp : p < 32) (x : Int) (hx : wfI x) : ∃ w', (Instr.mapUpdate 85 (.map (some b)) (.int .i64 (p : Int)) (.int .i64 x)).run Try.prog w = .ok () w' ∧ MapAt w' b (G.set p (some x)) ∧ w.grownBy w' (some b) ∧ w'.heap.size = w.heap.size := by
  obtain ⟨w', hrun, ho, ht⟩ := h.own.store keyedI Try.underlying85 (by decide) (keyOf_int_mk Try.underlying3 (wfI_small (k := (p : Int)) (by omega) (by omega))) (plainElem_int Try.underlying3 hx)
  rw [dOf_put G p x (by rw [h.len]; exact hp)] at ho
  have hs := ownsMap_size ho
  have hl := dOf_size (G.set p (some x))
  rw [List.length_set, h.len] at hl
  refine ⟨w', hrun, ⟨by rw [List.length_set]; exact h.len, hs.mono hl⟩, ?_, ?_⟩
  · obtain ⟨es, clock, es', clock', hb, rfl⟩ := ht
    exact ⟨rfl, rfl, rfl, by simp [setBlock], fun i _ hi => heap_setBlock_other hb _ (fun e1 => hi (by rw [e1]))⟩
  · obtain ⟨es, clock, es', clock', hb, rfl⟩ := ht
    simp [setBlock]
theorem MapAt.del (h : MapAt w b G) (p : Nat) (hp : p < 32) (ty : TypeId) : ∃ w', (Builtin.delete_ #[85, 3] ty #[.map (some b), .int .i64 (p : Int)]).run Try.prog w = .ok (.tuple #[]) w' ∧ MapAt w' b (G.set p none) ∧ w.grownBy w' (some b) ∧ w'.heap.size = w.heap.size := by
  obtain ⟨w', hrun, ho, ht⟩ := h.own.drop (ty := ty) keyedI Try.underlying85 (keyOf_int_mk Try.underlying3 (wfI_small (k := (p : Int)) (by omega) (by omega)))
  rw [dOf_del G p] at ho
  refine ⟨w', hrun, ⟨by rw [List.length_set]; exact h.len, ho⟩, ?_, ?_⟩
  · obtain ⟨es, clock, es', clock', hb, rfl⟩ := ht
    exact ⟨rfl, rfl, rfl, by simp [setBlock], fun i _ hi => heap_setBlock_other hb _ (fun e1 => hi (by rw [e1]))⟩
  · obtain ⟨es, clock, es', clock', hb, rfl⟩ := ht
    simp [setBlock]
end
def TMap (b : Nat) (G : Om) : Tg := fun lo hi w => lo ≤ b ∧ b < hi ∧ MapAt w b G
theorem TMap.st (b : Nat) (G : Om) : (TMap b G).st := by
  intro lo hi x y w w' h hc hd
  obtain ⟨h1, h2, h3⟩ := h
  exact ⟨h1, h2, h3.chg hc (by omega)⟩
end Go.Proofs.Ytjffjoednmlkiaa

namespace Go.Proofs.Ytjffjoednmlkiaa.Frame
open Go.ChangeShapes Go.WideShapes Go.ChangeAt Go.RowKit
set_option linter.unusedVariables false
theorem rdW_of {H : Type} {enc : TypeId × Value → H} {W : World} {fu : Nat} {held : Bool} {cs : List Value} {x : DataW H × List MemPlace} {a : Option Addr} {len cap : Nat}
    (h : DataW.trod enc Try.prog W 0 (fun _ => true) held fu 36 cs = some x) (hc : cs = [Value.slice a len cap]) : ∃ xs, Rd W (.slice a len cap) xs ∧ ∀ i, i < xs.length → -9223372036854775808 ≤ xs.getD i 0 := by
  rcases open_ints Try.underlying36 Try.underlying3 (by kernel_rfl) h with ⟨hcs, _⟩ | ⟨⟨b, off, sp⟩, l, c, zs, hcs, _, hl, hm, hz, _, hcell, hwz⟩
  · rw [hc] at hcs
    simp at hcs
    obtain ⟨rfl, rfl, rfl⟩ := hcs
    exact ⟨[], ⟨none, 0, rfl, Nat.le_refl _, ⟨Nat.zero_le _, fun _ => rfl⟩, .inl rfl⟩, fun i hi => by simp at hi⟩
  · rw [hc] at hcs
    simp at hcs
    obtain ⟨rfl, rfl, rfl⟩ := hcs
    simp only [if_true] at hz
    refine ⟨_, rd_row (fun _ => hz) hl hm (fun h => by cases h) (fun a' e i hi => by cases e; exact hcell i (by omega)), fun i hi => ?_⟩
    have hw := hwz ((zs.take len).getD i 0) (by
      rw [List.getD_eq_getElem?_getD, List.getElem?_eq_getElem hi, Option.getD_some]
      exact List.mem_of_mem_take (List.getElem_mem hi))
    simp [Lit.wf, IntKind.min, IntKind.max, IntKind.signed, IntKind.bits] at hw
    simp only [List.getD_eq_getElem?_getD]
    omega
end Go.Proofs.Ytjffjoednmlkiaa.Frame

namespace Go.Proofs.Ytjffjoednmlkiaa
open Go.RowKit
set_option linter.unusedVariables false

/-- How long a room of an order is. -/
def pw (o : Nat) : Int := ((2 ^ o : Nat) : Int)
theorem pw0 : pw 0 = 1 := rfl
theorem pw1 : pw 1 = 2 := rfl
theorem pw2 : pw 2 = 4 := rfl
theorem pw3 : pw 3 = 8 := rfl
theorem pw4 : pw 4 = 16 := rfl
theorem pw5 : pw 5 = 32 := rfl
theorem pw_succ (o : Nat) : pw (o + 1) = 2 * pw o := by
  unfold pw
  rw [Nat.pow_succ]
  omega
theorem pw_pos (o : Nat) : 1 ≤ pw o := by
  unfold pw
  have := Nat.one_le_two_pow (n := o)
  omega
theorem pw_le (o : Nat) (h : o ≤ 5) : pw o ≤ 32 := by
  have : o = 0 ∨ o = 1 ∨ o = 2 ∨ o = 3 ∨ o = 4 ∨ o = 5 := by omega
  rcases this with rfl | rfl | rfl | rfl | rfl | rfl <;> decide
/-- There is such a room. -/
abbrev rmP (a o : Int) : Prop := 0 ≤ o ∧ o ≤ 5 ∧ 0 ≤ a ∧ a < 32 ∧ a % pw o.toNat = 0
def rmB (a o : Int) : Bool := decide (rmP a o)
theorem rmB_iff (a o : Int) : rmB a o = true ↔ rmP a o := by simp [rmB]
/-- The place of the other half of the room that both make. -/
def bud (a : Int) (o : Nat) : Int := if a / pw o % 2 = 0 then a + pw o else a - pw o
def bdB (a o : Int) : Bool := rmB a o && decide (o ≠ 5)
def bdV (a o : Int) : Int := if bdB a o = true then bud a o.toNat else 0

set_option maxRecDepth 100000 in
theorem roomLong_calls (o : Nat) (ho : o ≤ 5) (w : World) : Calls Try.prog 150 #[.int .i64 (o : Int)] w fun e w' => e = .returned (.int .i64 (pw o)) ∧ w = w' := by
  have : o = 0 ∨ o = 1 ∨ o = 2 ∨ o = 3 ∨ o = 4 ∨ o = 5 := by omega
  clear ho
  rcases this with rfl | rfl | rfl | rfl | rfl | rfl
  all_goals
    go_enter Try.func150, Try.ntmps150
    go_wp2
    go_ret
    exact ⟨rfl, rfl⟩

set_option maxRecDepth 100000 in
set_option maxHeartbeats 800000 in
theorem isRoom_calls (a o : Int) (w : World) : Calls Try.prog 142 #[.int .i64 a, .int .i64 o] w fun e w' => e = .returned (.bool (rmB a o)) ∧ w = w' := by
  by_cases h1 : 0 ≤ o
  case neg =>
    have E : Hid (rmB a o = false) := decide_eq_false (fun h => h1 h.1)
    go_enter Try.func142, Try.ntmps142
    go_wp2
    go_ret
    exact ⟨by rw [E.out]; rfl, rfl⟩
  by_cases h2 : o ≤ 5
  case neg =>
    have E : Hid (rmB a o = false) := decide_eq_false (fun h => h2 h.2.1)
    go_enter Try.func142, Try.ntmps142
    go_wp2
    go_ret
    exact ⟨by rw [E.out]; rfl, rfl⟩
  by_cases h3 : 0 ≤ a
  case neg =>
    have E : Hid (rmB a o = false) := decide_eq_false (fun h => h3 h.2.2.1)
    go_enter Try.func142, Try.ntmps142
    go_wp2
    go_ret
    exact ⟨by rw [E.out]; rfl, rfl⟩
  by_cases h4 : a < 32
  case neg =>
    have E : Hid (rmB a o = false) := decide_eq_false (fun h => h4 h.2.2.2.1)
    go_enter Try.func142, Try.ntmps142
    go_wp2
    go_ret
    exact ⟨by rw [E.out]; rfl, rfl⟩
  obtain ⟨n, rfl⟩ : ∃ n : Nat, o = (n : Int) := ⟨o.toNat, by omega⟩
  obtain ⟨p, hp, hp1, hp2⟩ : ∃ p, p = pw n ∧ 1 ≤ p ∧ p ≤ 32 := ⟨_, rfl, pw_pos n, pw_le n (by omega)⟩
  have C := hide (roomLong_calls n (by omega) w)
  rw [← hp] at C
  have E : Hid (rmB a (n : Int) = decide (a % p = 0)) := by
    show rmB a (n : Int) = _
    unfold rmB rmP
    rw [Int.toNat_natCast, ← hp]
    simp [h1, h2, h3, h4]
  clear hp
  by_cases h5 : a % p = 0
  · rw [decide_eq_true h5] at E
    have T : (a % p == 0) = true := by simpa using h5
    clear h5
    go_enter Try.func142, Try.ntmps142
    go_wp2_with (go_at_call 150; refine C.out.mono ?_; rintro e w' ⟨rfl, rfl⟩)
    go_ret
    exact ⟨by rw [E.out]; rfl, rfl⟩
  · rw [decide_eq_false h5] at E
    have T : (a % p == 0) = false := by simpa using h5
    clear h5
    go_enter Try.func142, Try.ntmps142
    go_wp2_with (go_at_call 150; refine C.out.mono ?_; rintro e w' ⟨rfl, rfl⟩)
    go_ret
    exact ⟨by rw [E.out]; rfl, rfl⟩

theorem ofInt_i64R (a : Nat) : (BitVec.ofInt 64 (a : Int)).toNat = a % 18446744073709551616 := by
  rw [BitVec.ofInt_natCast, BitVec.toNat_ofNat]
theorem i64_xorR (a b : Nat) (ha : a < 4294967296) (hb : b < 4294967296) : bits .xor .i64 (a : Int) (b : Int) = ((a ^^^ b : Nat) : Int) := by
  have hx : a ^^^ b < 2 ^ 32 := Nat.xor_lt_two_pow (by omega) (by omega)
  show IntKind.i64.wrap ((BitVec.ofInt 64 (a : Int) ^^^ BitVec.ofInt 64 (b : Int)).toNat : Int) = _
  rw [BitVec.toNat_xor, ofInt_i64R, ofInt_i64R, Nat.mod_eq_of_lt (by omega), Nat.mod_eq_of_lt (by omega)]
  simp [IntKind.wrap, IntKind.bits, IntKind.signed]
  omega
theorem xor_all : ∀ a < 32, ∀ o < 5, ((a ^^^ 2 ^ o : Nat) : Int) = bud (a : Int) o := by decide
theorem xor_bud (a : Int) (o : Nat) (h0 : 0 ≤ a) (h1 : a < 32) (ho : o < 5) : bits .xor .i64 a (pw o) = bud a o := by
  obtain ⟨n, rfl⟩ : ∃ n : Nat, a = (n : Int) := ⟨a.toNat, by omega⟩
  have h2 := pw_le o (by omega)
  unfold pw at h2 ⊢
  rw [i64_xorR _ _ (by omega) (by omega)]
  exact xor_all n (by omega) o ho

set_option maxRecDepth 100000 in
set_option maxHeartbeats 800000 in
theorem buddyOf_calls (a o : Int) (w : World) : Calls Try.prog 152 #[.int .i64 a, .int .i64 o] w fun e w' => e = .returned (.tuple #[.int .i64 (bdV a o), .bool (bdB a o)]) ∧ w = w' := by
  have C := hide (isRoom_calls a o w)
  cases hb : rmB a o with
  | false =>
    have E : Hid (bdB a o = false ∧ bdV a o = 0) := by
      have e : bdB a o = false := by unfold bdB; rw [hb]; rfl
      exact ⟨e, by unfold bdV; rw [e]; rfl⟩
    rw [hb] at C
    clear hb
    rw [E.out.1, E.out.2]
    go_enter Try.func152, Try.ntmps152
    go_wp2_with (go_at_call 142; refine C.out.mono ?_; rintro e w' ⟨rfl, rfl⟩)
    go_ret2
    exact ⟨rfl, rfl⟩
  | true =>
    obtain ⟨r1, r2, r3, r4, r5⟩ := (rmB_iff a o).1 hb
    rw [hb] at C
    by_cases h5 : o = 5
    · have E : Hid (bdB a o = false ∧ bdV a o = 0) := by
        have e : bdB a o = false := by unfold bdB; rw [hb, h5]; rfl
        exact ⟨e, by unfold bdV; rw [e]; rfl⟩
      rw [E.out.1, E.out.2]
      subst h5
      clear hb r5
      go_enter Try.func152, Try.ntmps152
      go_wp2_with (go_at_call 142; refine C.out.mono ?_; rintro e w' ⟨rfl, rfl⟩)
      go_ret2
      exact ⟨rfl, rfl⟩
    · have e5 : (o == 5) = false := by simpa using h5
      have E : Hid (bdB a o = true ∧ bdV a o = bud a o.toNat) := by
        have e : bdB a o = true := by unfold bdB; rw [hb, decide_eq_true h5]; rfl
        exact ⟨e, by unfold bdV; rw [e]; rfl⟩
      rw [E.out.1, E.out.2]
      obtain ⟨n, rfl⟩ : ∃ n : Nat, o = (n : Int) := ⟨o.toNat, by omega⟩
      rw [Int.toNat_natCast] at E ⊢
      obtain ⟨p, hp⟩ : ∃ p, p = pw n := ⟨_, rfl⟩
      have L := hide (roomLong_calls n (by omega) w)
      have X := xor_bud a n r3 r4 (by omega)
      rw [← hp] at L X
      obtain ⟨y, hy⟩ : ∃ y, y = bud a n := ⟨_, rfl⟩
      rw [← hy] at X ⊢
      clear hb r5 h5 hy hp E
      go_enter Try.func152, Try.ntmps152
      go_wp2_with (first | (go_at_call 142; refine C.out.mono ?_; rintro e w' ⟨rfl, rfl⟩) | (go_at_call 150; refine L.out.mono ?_; rintro e w' ⟨rfl, rfl⟩))
      go_ret2
      exact ⟨rfl, rfl⟩

/-- The least order whose rooms have so many places. -/
def ordN (s : Int) : Nat := if s ≤ 1 then 0 else if s ≤ 2 then 1 else if s ≤ 4 then 2 else if s ≤ 8 then 3 else if s ≤ 16 then 4 else 5
theorem ordN_le (s : Int) : ordN s ≤ 5 := by
  unfold ordN
  repeat' split
  all_goals omega
theorem ordN_lt (s : Int) (h1 : 1 ≤ s) (h2 : s ≤ 32) (k : Nat) (hk : k ≤ ordN s) : pw k < s ↔ k < ordN s := by
  have h5 := ordN_le s
  have : k = 0 ∨ k = 1 ∨ k = 2 ∨ k = 3 ∨ k = 4 ∨ k = 5 := by omega
  unfold ordN at *
  rcases this with rfl | rfl | rfl | rfl | rfl | rfl
  all_goals
    simp only [pw0, pw1, pw2, pw3, pw4, pw5]
    repeat' split
    all_goals omega
abbrev orP (s : Int) : Prop := 1 ≤ s ∧ s ≤ 32
def orB (s : Int) : Bool := decide (orP s)
def orV (s : Int) : Int := if orB s = true then (ordN s : Int) else 0
theorem orB_yes {s : Int} (h : orP s) : orB s = true ∧ orV s = (ordN s : Int) := by
  have e : orB s = true := decide_eq_true h
  exact ⟨e, by unfold orV; rw [e]; rfl⟩
theorem orB_no {s : Int} (h : ¬ orP s) : orB s = false ∧ orV s = 0 := by
  have e : orB s = false := decide_eq_false h
  exact ⟨e, by unfold orV; rw [e]; rfl⟩

set_option maxRecDepth 100000 in
set_option maxHeartbeats 800000 in
theorem orderFor_calls (s : Int) (w : World) : Calls Try.prog 154 #[.int .i64 s] w fun e w' => e = .returned (.tuple #[.int .i64 (orV s), .bool (orB s)]) ∧ w = w' := by
  by_cases h1 : 1 ≤ s
  case neg =>
    rw [(orB_no (fun h => h1 h.1)).1, (orB_no (fun h => h1 h.1)).2]
    go_enter Try.func154, Try.ntmps154
    go_wp2
    go_ret2
    exact ⟨rfl, rfl⟩
  by_cases h2 : s ≤ 32
  case neg =>
    rw [(orB_no (fun h => h2 h.2)).1, (orB_no (fun h => h2 h.2)).2]
    go_enter Try.func154, Try.ntmps154
    go_wp2
    go_ret2
    exact ⟨rfl, rfl⟩
  rw [(orB_yes ⟨h1, h2⟩).1, (orB_yes ⟨h1, h2⟩).2]
  have LE := ordN_le s
  have LT := hide (ordN_lt s h1 h2)
  obtain ⟨N, hN⟩ : ∃ N, N = ordN s := ⟨_, rfl⟩
  rw [← hN] at LE LT ⊢
  clear hN
  go_enter Try.func154, Try.ntmps154
  go_wp2
  go_loop [4] (fun vk => ∃ k : Nat, k ≤ N ∧ vk = .int .i64 k) (fun vk => N - (intOf vk).toNat)
  case atStart => exact ⟨0, Nat.zero_le _, rfl⟩
  case round =>
    obtain ⟨k, hk, rfl⟩ := hrel
    have L := hide (roomLong_calls k (by omega) w)
    have T := LT.out k hk
    obtain ⟨p, hp⟩ : ∃ p, p = pw k := ⟨_, rfl⟩
    rw [← hp] at L T
    clear hp
    by_cases hlt : k < N
    · have hps := T.2 hlt
      clear T
      go_wp2_with (go_at_call 150; refine L.out.mono ?_; rintro e w' ⟨rfl, rfl⟩)
      go_round
      case rel => exact ⟨k + 1, by omega, by go_num⟩
      case measure => simp [intOf]; omega
    · have hps : s ≤ p := by
        have : ¬ p < s := fun h => hlt (T.1 h)
        omega
      obtain rfl : k = N := by omega
      clear T
      go_wp2_with (go_at_call 150; refine L.out.mono ?_; rintro e w' ⟨rfl, rfl⟩)
      go_ret2
      exact ⟨rfl, rfl⟩

def inB (a lo hi : Int) : Bool := decide (lo ≤ a ∧ a ≤ hi)
set_option maxRecDepth 100000 in
theorem l1InR_calls (a lo hi : Int) (w : World) : Calls Try.prog 68 #[.int .i64 a, .int .i64 lo, .int .i64 hi] w fun e w' => e = .returned (.bool (inB a lo hi)) ∧ w = w' := by
  by_cases h1 : lo ≤ a
  · by_cases h2 : a ≤ hi
    · have E : Hid (inB a lo hi = true) := decide_eq_true ⟨h1, h2⟩
      go_enter Try.func68, Try.ntmps68
      go_wp2
      go_ret
      exact ⟨by rw [E.out]; rfl, rfl⟩
    · have E : Hid (inB a lo hi = false) := decide_eq_false (fun h => h2 h.2)
      go_enter Try.func68, Try.ntmps68
      go_wp2
      go_ret
      exact ⟨by rw [E.out]; rfl, rfl⟩
  · have E : Hid (inB a lo hi = false) := decide_eq_false (fun h => h1 h.1)
    go_enter Try.func68, Try.ntmps68
    go_wp2
    go_ret
    exact ⟨by rw [E.out]; rfl, rfl⟩

set_option maxRecDepth 100000 in
set_option maxHeartbeats 800000 in
theorem l14Room_calls (a o : Int) (w : World) : Calls Try.prog 109 #[.int .i64 a, .int .i64 o] w fun e w' => e = .returned (.bool (rmB a o)) ∧ w = w' := by
  by_cases h1 : 0 ≤ o ∧ o ≤ 5
  case neg =>
    have E : Hid (rmB a o = false) := decide_eq_false (fun h => h1 ⟨h.1, h.2.1⟩)
    have C : Hid (inB o 0 5 = false) := decide_eq_false h1
    go_enter Try.func109, Try.ntmps109
    go_wp2_with (go_at_call 68; refine (l1InR_calls _ _ _ _).mono ?_; rw [C.out]; rintro e w' ⟨rfl, rfl⟩)
    go_ret
    exact ⟨by rw [E.out]; rfl, rfl⟩
  have C1 : Hid (inB o 0 5 = true) := decide_eq_true h1
  by_cases h2 : 0 ≤ a ∧ a ≤ 31
  case neg =>
    have E : Hid (rmB a o = false) := decide_eq_false (fun h => h2 ⟨h.2.2.1, by have := h.2.2.2.1; omega⟩)
    have C2 : Hid (inB a 0 31 = false) := decide_eq_false h2
    go_enter Try.func109, Try.ntmps109
    go_wp2_with fail
    refine (l1InR_calls _ _ _ _).mono ?_
    rw [C1.out]
    rintro e w' ⟨rfl, rfl⟩
    go_wp2_with fail
    refine (l1InR_calls _ _ _ _).mono ?_
    rw [C2.out]
    rintro e w' ⟨rfl, rfl⟩
    go_wp2
    go_ret
    exact ⟨by rw [E.out]; rfl, rfl⟩
  have C2 : Hid (inB a 0 31 = true) := decide_eq_true h2
  have a0 := h2.1
  have a1 : a < 32 := by omega
  have : o = 0 ∨ o = 1 ∨ o = 2 ∨ o = 3 ∨ o = 4 ∨ o = 5 := by omega
  have E : Hid (rmB a o = decide (a % pw o.toNat = 0)) := by
    show rmB a o = _
    unfold rmB rmP
    simp [a0, a1, h1.1, h1.2]
  clear h1 h2
  have : (o = 0 ∧ pw o.toNat = 1) ∨ (o = 1 ∧ pw o.toNat = 2) ∨ (o = 2 ∧ pw o.toNat = 4) ∨ (o = 3 ∧ pw o.toNat = 8) ∨ (o = 4 ∧ pw o.toNat = 16) ∨ (o = 5 ∧ pw o.toNat = 32) := by
    rcases this with rfl | rfl | rfl | rfl | rfl | rfl <;> decide
  rcases this with ⟨rfl, hp⟩ | ⟨rfl, hp⟩ | ⟨rfl, hp⟩ | ⟨rfl, hp⟩ | ⟨rfl, hp⟩ | ⟨rfl, hp⟩
  all_goals
    rw [hp] at E
    clear hp
    go_enter Try.func109, Try.ntmps109
    go_wp2_with fail
    refine (l1InR_calls _ _ _ _).mono ?_
    rw [C1.out]
    rintro e w' ⟨rfl, rfl⟩
    go_wp2_with fail
    refine (l1InR_calls _ _ _ _).mono ?_
    rw [C2.out]
    rintro e w' ⟨rfl, rfl⟩
    go_wp2
    go_ret
    refine ⟨?_, rfl⟩
    rw [E.out]
    first | rfl | (simp)
end Go.Proofs.Ytjffjoednmlkiaa

namespace Go.Proofs
open Go.Shelf
def Try.sortI_ren : Go.Shelf.Ren := ⟨fun | 5 => 153 | 8 => 178 | 7 => 177 | 19 => 195 | 20 => 196 | 10 => 186 | 11 => 187 | 12 => 188 | 13 => 189 | 14 => 190 | 15 => 191 | 16 => 192 | 17 => 193 | 18 => 194 | 30 => 199 | 31 => 200 | 32 => 201 | 33 => 202 | 34 => 203 | 35 => 204 | 40 => 206 | n => n, fun | 23 => 36 | 25 => 3 | 3 => 3 | 32 => 133 | 22 => 36 | 0 => 0 | 44 => 189 | 46 => 191 | 4 => 4 | 36 => 184 | 35 => 183 | 41 => 75 | 5 => 5 | 9 => 9 | 53 => 195 | 57 => 199 | 63 => 202 | 64 => 203 | n => n, fun | n => n⟩
theorem Try.sortI : Go.Proofs.SlLaysM.n5 Try.prog Try.sortI_ren := {
  mixed := by kernel_rfl
  f5 := ⟨Try.f153.name, by decide, Try.func153.trans (congrArg some (by kernel_rfl))⟩
  f7 := ⟨Try.f177.name, by decide, Try.func177.trans (congrArg some (by kernel_rfl))⟩
  f8 := Try.func178.trans (congrArg some (by kernel_rfl))
  f10 := ⟨Try.f186.name, by decide, Try.func186.trans (congrArg some (by kernel_rfl))⟩
  f11 := ⟨Try.f187.name, by decide, Try.func187.trans (congrArg some (by kernel_rfl))⟩
  f12 := ⟨Try.f188.name, by decide, Try.func188.trans (congrArg some (by kernel_rfl))⟩
  f13 := ⟨Try.f189.name, by decide, Try.func189.trans (congrArg some (by kernel_rfl))⟩
  f14 := ⟨Try.f190.name, by decide, Try.func190.trans (congrArg some (by kernel_rfl))⟩
  f15 := ⟨Try.f191.name, by decide, Try.func191.trans (congrArg some (by kernel_rfl))⟩
  f16 := ⟨Try.f192.name, by decide, Try.func192.trans (congrArg some (by kernel_rfl))⟩
  f17 := ⟨Try.f193.name, by decide, Try.func193.trans (congrArg some (by kernel_rfl))⟩
  f18 := ⟨Try.f194.name, by decide, Try.func194.trans (congrArg some (by kernel_rfl))⟩
  f19 := Try.func195.trans (congrArg some (by kernel_rfl))
  f20 := Try.func196.trans (congrArg some (by kernel_rfl))
  f30 := ⟨Try.f199.name, by decide, Try.func199.trans (congrArg some (by kernel_rfl))⟩
  f31 := Try.func200.trans (congrArg some (by kernel_rfl))
  f32 := Try.func201.trans (congrArg some (by kernel_rfl))
  f33 := ⟨Try.f202.name, by decide, Try.func202.trans (congrArg some (by kernel_rfl))⟩
  f34 := ⟨Try.f203.name, by decide, Try.func203.trans (congrArg some (by kernel_rfl))⟩
  f35 := ⟨Try.f204.name, by decide, Try.func204.trans (congrArg some (by kernel_rfl))⟩
  f40 := ⟨Try.f206.name, by decide, Try.func206.trans (congrArg some (by kernel_rfl))⟩
  t0 := Try.underlying0
  a0 := Try.isAgg0
  z0 := Try.sizeOf0
  v0 := Try.zeroValue0
  t3 := Try.underlying3
  a3 := Try.isAgg3
  z3 := Try.sizeOf3
  v3 := Try.zeroValue3
  t4 := Try.underlying4
  a4 := Try.isAgg4
  z4 := Try.sizeOf4
  v4 := Try.zeroValue4
  t5 := Try.underlying5
  a5 := Try.isAgg5
  z5 := Try.sizeOf5
  v5 := Try.zeroValue5
  t9 := Try.underlying9
  a9 := Try.isAgg9
  z9 := Try.sizeOf9
  v9 := Try.zeroValue9
  t22 := Try.underlying36
  a22 := Try.isAgg36
  z22 := Try.sizeOf36
  v22 := Try.zeroValue36
  t23 := Try.underlying36
  a23 := Try.isAgg36
  z23 := Try.sizeOf36
  v23 := Try.zeroValue36
  t25 := Try.underlying3
  a25 := Try.isAgg3
  z25 := Try.sizeOf3
  v25 := Try.zeroValue3
  t32 := Try.underlying133
  a32 := Try.isAgg133
  z32 := Try.sizeOf133
  v32 := Try.zeroValue133
  t35 := Try.underlying183
  a35 := Try.isAgg183
  z35 := Try.sizeOf183
  v35 := Try.zeroValue183
  t36 := Try.underlying184
  a36 := Try.isAgg184
  z36 := Try.sizeOf184
  v36 := Try.zeroValue184
  t41 := Try.underlying75
  a41 := Try.isAgg75
  z41 := Try.sizeOf75
  v41 := Try.zeroValue75
  t44 := Try.underlying189
  a44 := Try.isAgg189
  z44 := Try.sizeOf189
  v44 := Try.zeroValue189
  t46 := Try.underlying191
  a46 := Try.isAgg191
  z46 := Try.sizeOf191
  v46 := Try.zeroValue191
  t53 := Try.underlying195
  a53 := Try.isAgg195
  z53 := Try.sizeOf195
  v53 := Try.zeroValue195
  t57 := Try.underlying199
  a57 := Try.isAgg199
  z57 := Try.sizeOf199
  v57 := Try.zeroValue199
  t63 := Try.underlying202
  a63 := Try.isAgg202
  z63 := Try.sizeOf202
  v63 := Try.zeroValue202
  t64 := Try.underlying203
  a64 := Try.isAgg203
  z64 := Try.sizeOf203
  v64 := Try.zeroValue203 }
end Go.Proofs

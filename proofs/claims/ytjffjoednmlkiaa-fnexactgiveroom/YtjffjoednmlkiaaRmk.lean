/-
  The places of a map, rising: the program's own function (a range over a map, whose order nobody knows, and a sort). It asks that the map hold places below 32 alone.
-/
import Derived.Test.YtjffjoednmlkiaaRmn
import Derived.Test.YtjffjoednmlkiaaSoi
import Derived.Sort.OwnSortedInts
namespace Go.Proofs.Ytjffjoednmlkiaa
open Go.RowKit Go.Maps Go.MapKept Go.ChangeMaps
set_option linter.unusedVariables false

/-- The places that a map holds, rising. -/
def keysG (G : Om) : List Int := selF 0 (G.map Option.isSome)
theorem selF_lt : ∀ (bs : List Bool) (o : Nat), ∀ y ∈ selF o bs, y < ((o + bs.length : Nat) : Int)
  | [], o, y, h => by simp [selF] at h
  | b :: r, o, y, h => by
    have ih := selF_lt r (o + 1)
    simp only [List.length_cons]
    simp only [selF] at h
    split at h
    · rcases List.mem_cons.1 h with rfl | h
      · omega
      · have := ih y h
        omega
    · have := ih y h
      omega
theorem selF_rise : ∀ (bs : List Bool) (o : Nat), (selF o bs).Pairwise (· < ·)
  | [], o => List.Pairwise.nil
  | b :: r, o => by
    have ih := selF_rise r (o + 1)
    simp only [selF]
    split
    · refine List.pairwise_cons.2 ⟨fun y hy => ?_, ih⟩
      have := selF_ge r (o + 1) y hy
      omega
    · exact ih
theorem keysG_mem (G : Om) (k : Int) : k ∈ keysG G ↔ (lkM G k).isSome = true := by
  unfold keysG
  constructor
  · intro h
    have h0 := selF_ge _ 0 k h
    obtain ⟨p, rfl⟩ : ∃ p : Nat, k = (p : Int) := ⟨k.toNat, by omega⟩
    have := (selF_mem (G.map Option.isSome) 0 p).1 (by simpa using h)
    rw [lkM_nat]
    rw [List.getD_eq_getElem?_getD, List.getElem?_map] at this
    rw [List.getD_eq_getElem?_getD]
    cases hx : G[p]? with
    | none => rw [hx] at this; simp at this
    | some y => rw [hx] at this; simpa using this
  · intro h
    obtain ⟨x, hx⟩ := Option.isSome_iff_exists.1 h
    obtain ⟨h0, h1, h2⟩ := lkM_some hx
    obtain ⟨p, rfl⟩ : ∃ p : Nat, k = (p : Int) := ⟨k.toNat, by omega⟩
    have := (selF_mem (G.map Option.isSome) 0 p).2 (by
      rw [Int.toNat_natCast, List.getD_eq_getElem?_getD] at h2
      rw [List.getD_eq_getElem?_getD, List.getElem?_map]
      cases hx : G[p]? with
      | none => rw [hx] at h2; simp at h2
      | some y => rw [hx] at h2; simp at h2; simp [h2])
    simpa using this
theorem sorted_is {ks xs : List Int} (hn : ks.Nodup) (hx : xs.Pairwise (· < ·)) (hm : ∀ k, k ∈ ks ↔ k ∈ xs) : (ks.mergeSort fun x y => decide (x ≤ y)) = xs ∧ xs.length = ks.length := by
  have nx : xs.Nodup := hx.imp (fun h => by omega)
  have hp : ks.Perm xs := (List.perm_ext_iff_of_nodup hn nx).2 hm
  have tr : ∀ a b c : Int, decide (a ≤ b) = true → decide (b ≤ c) = true → decide (a ≤ c) = true := fun a b c h1 h2 => by simp only [decide_eq_true_eq] at *; omega
  have tt : ∀ a b : Int, (decide (a ≤ b) || decide (b ≤ a)) = true := fun a b => by simp only [Bool.or_eq_true, decide_eq_true_eq]; omega
  refine ⟨List.Perm.eq_of_pairwise (le := fun a b => decide (a ≤ b) = true) (fun a b _ _ h1 h2 => ?_) (List.pairwise_mergeSort tr tt ks) (hx.imp (fun h => by simp; omega)) ((List.mergeSort_perm ks _).trans hp), hp.length_eq.symm⟩
  simp only [decide_eq_true_eq] at h1 h2
  omega

/-- What a range over the map has collected so far. -/
structure Coll (G : Om) (left : Lit → Bool) (ks : List Int) : Prop where
  nd : ks.Nodup
  mem : ∀ k ∈ ks, (lkM G k).isSome = true ∧ left (keyI k) = false
  all : ∀ k, (lkM G k).isSome = true → left (keyI k) = false → k ∈ ks
theorem Coll.start (G : Om) : Coll G (has (dOf G)) [] := ⟨List.nodup_nil, fun k h => by simp at h, fun k h1 h2 => by rw [dOf_has, h1] at h2; cases h2⟩
theorem Coll.step {G : Om} {left : Lit → Bool} {ks : List Int} {x c : Int} (h : Coll G left ks) (hx : left (keyI x) = true) (hat : ∀ zd, (dOf G).atKey (keyI x) zd = .lit (.int .i64 c)) : Coll G (fun z => left z && !z.sameKey (keyI x)) (ks ++ [x]) := by
  have hs : (lkM G x).isSome = true := by
    cases hl : lkM G x with
    | some y => rfl
    | none =>
      have := hat (.lit (.int .i64 (c + 1)))
      rw [dOf_at, hl] at this
      simp at this
      omega
  refine ⟨List.nodup_append.2 ⟨h.nd, by simp, fun a ha b hb => ?_⟩, fun k hk => ?_, fun k h1 h2 => ?_⟩
  · simp at hb
    subst hb
    intro e
    subst e
    have := (h.mem a ha).2
    rw [this] at hx
    cases hx
  · rcases List.mem_append.1 hk with hk | hk
    · obtain ⟨a1, a2⟩ := h.mem k hk
      exact ⟨a1, by show (left (keyI k) && _) = false; rw [a2]; rfl⟩
    · simp at hk
      subst hk
      exact ⟨hs, by show (left _ && !(keyI k).sameKey (keyI k)) = false; rw [same_key]; simp⟩
  · by_cases e : k = x
    · subst e; simp
    · refine List.mem_append.2 (.inl (h.all k h1 ?_))
      have h2' : (left (keyI k) && !(keyI k).sameKey (keyI x)) = false := h2
      rw [same_key, decide_eq_false e] at h2'
      simpa using h2'
theorem Coll.done {G : Om} {left : Lit → Bool} {ks : List Int} (h : Coll G left ks) (hl : ∀ kl, left kl = false) : (ks.mergeSort fun x y => decide (x ≤ y)) = keysG G ∧ (keysG G).length = ks.length :=
  sorted_is h.nd (selF_rise _ 0) (fun k => by rw [keysG_mem]; exact ⟨fun hk => (h.mem k hk).1, fun hk => h.all k hk (hl _)⟩)
theorem keysG_len (G : Om) : (keysG G).length ≤ G.length := by
  have := selF_len (G.map Option.isSome) 0
  rw [List.length_map] at this
  exact this

theorem row_ne_iterR {w : World} {base e n b r m : Nat} {v : Value} {xs : List Value} {D : DataW Unit} {left : Lit → Bool} {cnt : Nat} (h : w.ownsRow base e 1 v n xs) (hr : w.ranges Try.prog 3 (plainElem Try.prog 3) b r m D left cnt) : some r ≠ v.ownBlock ∧ some b ≠ v.ownBlock := by
  obtain ⟨es, clock, since, seen, c0, hb, _, _, _, hi, _⟩ := hr
  rcases h.2 with ⟨rfl, _⟩ | ⟨g, cap, cur, rfl, _, hg, _⟩
  · simp [Value.ownBlock]
  · constructor
    · intro e
      simp only [Value.ownBlock, Option.some.injEq] at e
      subst e
      rw [hg] at hi
      cases hi
    · intro e
      simp only [Value.ownBlock, Option.some.injEq] at e
      subst e
      rw [hg] at hb
      cases hb

set_option maxRecDepth 100000 in
set_option maxHeartbeats 1600000 in
theorem places_calls (b : Nat) (G : Om) (w : World) (h : MapAt w b G) :
    Calls Try.prog 119 #[.map (some b)] w fun e w' => ∃ v, e = .returned v ∧ Own w' w.heap.size v (keysG G) ∧ Below w.heap.size w w' := by
  obtain ⟨i0, hi, hz0, hz1, hz2⟩ := info_parts infoInt
  have hown := h.own
  have hbl := h.lt
  have hsz : size (dOf G) ≤ 32 := by have := dOf_size G; rw [h.len] at this; exact this
  obtain ⟨N, hN⟩ : ∃ N, N = size (dOf G) := ⟨_, rfl⟩
  have HN := hide hN
  rw [← hN] at hsz
  clear hN
  go_enter Try.func119, Try.ntmps119
  go_wp2_with (first
    | (at_len; refine wpList_len_own _ rfl _ 85 rfl 3 3 Try.underlying85 _ b 32 _ rfl hown ?_; rw [← HN.out])
    | (at_make; refine wpList_make_own _ rfl _ _ 36 rfl w.heap.size 3 i0 (.int .i64 0) 1 Try.underlying36 hi hz0 hz1 _ _ _ N rfl rfl rfl (by rw [hz2]; omega) (by unfold maxLen; omega) (Nat.le_refl _) ?_; intro w1 hrow1 hg1)
    | (at_range; refine wpList_range_own _ rfl _ 85 rfl 3 3 keyedI Try.underlying85 _ b 32 _ rfl (hown.kept hg1 (by simp)) ?_; intro w0 hrg0 hg0 hs0))
  go_frame
  have hs1 := hg1.size
  clear hs0
  go_loopw [3] (fun v wr => ∃ (left : Lit → Bool) (cnt : Nat) (ks : List Int), wr.ranges Try.prog 3 (plainElem Try.prog 3) b w1.heap.size 32 (dOf G) left cnt ∧ ks.length + cnt ≤ N ∧
      Own wr w.heap.size v ks ∧ v ≠ .slice none 0 0 ∧ Coll G left ks ∧ Below w.heap.size w wr)
    (fun _ wr => wr.rangeLeft b w1.heap.size)
  case atStart =>
    exact ⟨_, _, [], hrg0, by rw [← HN.out]; simp, hrow1.kept hg0 (Or.inr (by simp [Value.ownBlock])), by simp, Coll.start G,
      ((Below.refl _ _).grown hg1 (Nat.le_refl _) (fun j hj => by cases hj)).grown hg0 hg1.size (fun j hj => by cases hj)⟩
  case round =>
    obtain ⟨left, cnt, ks, hrg, hcs, hrow, hnn, hC, hnx⟩ := hrel
    have HC := hide hC
    clear hC
    go_wp2_with (at_next; refine wpList_next_ranges_ii _ rfl _ rfl 3 3 .i64 .i64 keyedI Try.underlying3 Try.underlying3 b w1.heap.size 32 _ _ _ rfl hrg ?_ ?_)
    · intro hc0 hl0
      rcases hrow.2 with ⟨hnil, _⟩ | ⟨g, cap, cur, rfl, hbase, hb, h1, h2, h3, h4⟩
      · exact absurd hnil hnn
      have hH := holds_of_blockI (ss := ks) hb (by simpa using h4)
      have hgl : g < wr.heap.size := (Array.getElem?_eq_some_iff.1 hb).1
      have hc := AnyM.slices_Sort_int Try.sortI g 0 cap ks wr hH hgl (by omega)
      obtain ⟨d1, d2⟩ := HC.out.done hl0
      rw [d1] at hc
      have D2 := hide d2
      clear d1 d2
      change Calls Try.prog 153 _ _ _ at hc
      go_wp2_with (go_at_call 153; refine hc.mono ?_; rintro e w' ⟨rfl, nn, os, rfl⟩)
      go_ret
      refine ⟨_, rfl, ?_, hnx.grown (grownBy_sortedI _) hnx.size (fun j hj => by cases hj; exact hbase)⟩
      have := ownsRow_sortedI (base := w.heap.size) (n := nn) (os := os) (ts := keysG G) D2.out hbase hb h1 h2 h3
      unfold Own
      rw [D2.out]
      exact this
    · intro x c w2 cnt2 hwx hwc hlk hat hrg2 hlt hg2 hs2 hen
      have hC2 := hide (HC.out.step hlk hat)
      have hrow2 := hrow.kept hg2 (Or.inr (row_ne_iterR hrow hrg).1.symm)
      clear hs2 hat
      go_wp2_with (at_builtin; go_loud (refine wpList_append_own _ rfl _ _ 36 rfl w.heap.size 3 i0 (.int .i64 0) 1 8 Try.underlying36 hi hz0 hz1 hz2 rfl (by decide) _ _ _ rfl (hrow2.alloc _) ⟨w2.heap.size, 0, none⟩ 1 1 [.int .i64 x] rfl rfl (cell_one_new _ _ _) (by simp [Value.oneCell']) (by unfold maxLen at *; omega) (by omega) (by have := hnx.size; have := hg2.size; simp; omega) ?_); intro v' w3 hown' hg3 hnil3; go_frame)
      have hrg3 := (hrg2.alloc (.cells #[.int .i64 x] 3)).kept hg3 (row_ne_iterR hrow2 hrg2).2 (row_ne_iterR hrow2 hrg2).1
      go_roundw
      case rel =>
        refine ⟨_, cnt2, ks ++ [x], hrg3, by simp; omega, ?_, fun hv' => by have := (hnil3.1 hv').2; omega, hC2.out, ?_⟩
        · unfold Own
          rw [List.map_append, List.length_append]
          exact hown'
        · exact ((hnx.grown hg2 hnx.size (fun j hj => by cases hj; exact hg1.size)).alloc (by have := hnx.size; have := hg2.size; omega) _).grown hg3 (by have := hnx.size; have := hg2.size; simp; omega) (fun j hj => (hrow2.lt j hj).1)
      case measure => rw [hrg3.left_eq, hrg.left_eq]; exact hlt
end Go.Proofs.Ytjffjoednmlkiaa

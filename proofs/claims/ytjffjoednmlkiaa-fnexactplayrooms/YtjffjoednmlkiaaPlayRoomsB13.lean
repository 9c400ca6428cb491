/-
  The places of a map, rising: the program's own function (a range over a map, whose order nobody knows, and a sort). It asks that the map hold places below 32 alone. What the program does with its maps of places: the first room that is great enough, a room halved, rooms put together. Each contract says what it asks. What the program does with its maps of places: a room halved till it is small enough, a room put together with its buddies. Each contract says what it asks.
-/
import Derived.Test.YtjffjoednmlkiaaPlayRoomsB12
import Derived.Sort.OwnSortedInts
import Derived.Deep.LoopGhost
namespace Go.Proofs.Ytjffjoednmlkiaa
open Go.RowKit Go.Maps Go.MapKept Go.ChangeMaps
set_option linter.unusedVariables false

/-- The places that a map holds, rising. -/
def keysG (G : Om) : List Int := selF 0 (G.map Option.isSome)
theorem selF_lt : ∀ (bs : List Bool) (o : Nat), ∀ y ∈ selF o bs, y < ((o + bs.length : Nat) : Int)
  | [], o, y, h => by simp [selF] at h
  | b :: r, o, y, h => by
    have ih := selF_lt r (o + 1)
    simp only [List.length_cons]
    simp only [selF] at h
    split at h
    · rcases List.mem_cons.1 h with rfl | h
      · omega
      · have := ih y h
        omega
    · have := ih y h
      omega
theorem selF_rise : ∀ (bs : List Bool) (o : Nat), (selF o bs).Pairwise (· < ·)
  | [], o => List.Pairwise.nil
  | b :: r, o => by
    have ih := selF_rise r (o + 1)
    simp only [selF]
    split
    · refine List.pairwise_cons.2 ⟨fun y hy => ?_, ih⟩
      have := selF_ge r (o + 1) y hy
      omega
    · exact ih
theorem keysG_mem (G : Om) (k : Int) : k ∈ keysG G ↔ (lkM G k).isSome = true := by
  unfold keysG
  constructor
  · intro h
    have h0 := selF_ge _ 0 k h
    obtain ⟨p, rfl⟩ : ∃ p : Nat, k = (p : Int) := ⟨k.toNat, by omega⟩
    have := (selF_mem (G.map Option.isSome) 0 p).1 (by simpa using h)
    rw [lkM_nat]
    rw [List.getD_eq_getElem?_getD, List.getElem?_map] at this
    rw [List.getD_eq_getElem?_getD]
    cases hx : G[p]? with
    | none => rw [hx] at this; simp at this
    | some y => rw [hx] at this; simpa using this
  · intro h
    obtain ⟨x, hx⟩ := Option.isSome_iff_exists.1 h
    obtain ⟨h0, h1, h2⟩ := lkM_some hx
    obtain ⟨p, rfl⟩ : ∃ p : Nat, k = (p : Int) := ⟨k.toNat, by omega⟩
    have := (selF_mem (G.map Option.isSome) 0 p).2 (by
      rw [Int.toNat_natCast, List.getD_eq_getElem?_getD] at h2
      rw [List.getD_eq_getElem?_getD, List.getElem?_map]
      cases hx : G[p]? with
      | none => rw [hx] at h2; simp at h2
      | some y => rw [hx] at h2; simp at h2; simp [h2])
    simpa using this
theorem sorted_is {ks xs : List Int} (hn : ks.Nodup) (hx : xs.Pairwise (· < ·)) (hm : ∀ k, k ∈ ks ↔ k ∈ xs) : (ks.mergeSort fun x y => decide (x ≤ y)) = xs ∧ xs.length = ks.length := by
  have nx : xs.Nodup := hx.imp (fun h => by omega)
  have hp : ks.Perm xs := (List.perm_ext_iff_of_nodup hn nx).2 hm
  have tr : ∀ a b c : Int, decide (a ≤ b) = true → decide (b ≤ c) = true → decide (a ≤ c) = true := fun a b c h1 h2 => by simp only [decide_eq_true_eq] at *; omega
  have tt : ∀ a b : Int, (decide (a ≤ b) || decide (b ≤ a)) = true := fun a b => by simp only [Bool.or_eq_true, decide_eq_true_eq]; omega
  refine ⟨List.Perm.eq_of_pairwise (le := fun a b => decide (a ≤ b) = true) (fun a b _ _ h1 h2 => ?_) (List.pairwise_mergeSort tr tt ks) (hx.imp (fun h => by simp; omega)) ((List.mergeSort_perm ks _).trans hp), hp.length_eq.symm⟩
  simp only [decide_eq_true_eq] at h1 h2
  omega

/-- What a range over the map has collected so far. -/
structure Coll (G : Om) (left : Lit → Bool) (ks : List Int) : Prop where
  nd : ks.Nodup
  mem : ∀ k ∈ ks, (lkM G k).isSome = true ∧ left (keyI k) = false
  all : ∀ k, (lkM G k).isSome = true → left (keyI k) = false → k ∈ ks
theorem Coll.start (G : Om) : Coll G (has (dOf G)) [] := ⟨List.nodup_nil, fun k h => by simp at h, fun k h1 h2 => by rw [dOf_has, h1] at h2; cases h2⟩
theorem Coll.step {G : Om} {left : Lit → Bool} {ks : List Int} {x c : Int} (h : Coll G left ks) (hx : left (keyI x) = true) (hat : ∀ zd, (dOf G).atKey (keyI x) zd = .lit (.int .i64 c)) : Coll G (fun z => left z && !z.sameKey (keyI x)) (ks ++ [x]) := by
  have hs : (lkM G x).isSome = true := by
    cases hl : lkM G x with
    | some y => rfl
    | none =>
      have := hat (.lit (.int .i64 (c + 1)))
      rw [dOf_at, hl] at this
      simp at this
      omega
  refine ⟨List.nodup_append.2 ⟨h.nd, by simp, fun a ha b hb => ?_⟩, fun k hk => ?_, fun k h1 h2 => ?_⟩
  · simp at hb
    subst hb
    intro e
    subst e
    have := (h.mem a ha).2
    rw [this] at hx
    cases hx
  · rcases List.mem_append.1 hk with hk | hk
    · obtain ⟨a1, a2⟩ := h.mem k hk
      exact ⟨a1, by show (left (keyI k) && _) = false; rw [a2]; rfl⟩
    · simp at hk
      subst hk
      exact ⟨hs, by show (left _ && !(keyI k).sameKey (keyI k)) = false; rw [same_key]; simp⟩
  · by_cases e : k = x
    · subst e; simp
    · refine List.mem_append.2 (.inl (h.all k h1 ?_))
      have h2' : (left (keyI k) && !(keyI k).sameKey (keyI x)) = false := h2
      rw [same_key, decide_eq_false e] at h2'
      simpa using h2'
theorem Coll.done {G : Om} {left : Lit → Bool} {ks : List Int} (h : Coll G left ks) (hl : ∀ kl, left kl = false) : (ks.mergeSort fun x y => decide (x ≤ y)) = keysG G ∧ (keysG G).length = ks.length :=
  sorted_is h.nd (selF_rise _ 0) (fun k => by rw [keysG_mem]; exact ⟨fun hk => (h.mem k hk).1, fun hk => h.all k hk (hl _)⟩)
theorem keysG_len (G : Om) : (keysG G).length ≤ G.length := by
  have := selF_len (G.map Option.isSome) 0
  rw [List.length_map] at this
  exact this

theorem row_ne_iterR {w : World} {base e n b r m : Nat} {v : Value} {xs : List Value} {D : DataW Unit} {left : Lit → Bool} {cnt : Nat} (h : w.ownsRow base e 1 v n xs) (hr : w.ranges Try.prog 3 (plainElem Try.prog 3) b r m D left cnt) : some r ≠ v.ownBlock ∧ some b ≠ v.ownBlock := by
  obtain ⟨es, clock, since, seen, c0, hb, _, _, _, hi, _⟩ := hr
  rcases h.2 with ⟨rfl, _⟩ | ⟨g, cap, cur, rfl, _, hg, _⟩
  · simp [Value.ownBlock]
  · constructor
    · intro e
      simp only [Value.ownBlock, Option.some.injEq] at e
      subst e
      rw [hg] at hi
      cases hi
    · intro e
      simp only [Value.ownBlock, Option.some.injEq] at e
      subst e
      rw [hg] at hb
      cases hb

set_option maxRecDepth 100000 in
set_option maxHeartbeats 1600000 in
theorem places_calls (b : Nat) (G : Om) (w : World) (h : MapAt w b G) :
    Calls Try.prog 119 #[.map (some b)] w fun e w' => ∃ v, e = .returned v ∧ Own w' w.heap.size v (keysG G) ∧ Below w.heap.size w w' := by
  obtain ⟨i0, hi, hz0, hz1, hz2⟩ := info_parts infoInt
  have hown := h.own
  have hbl := h.lt
  have hsz : size (dOf G) ≤ 32 := by have := dOf_size G; rw [h.len] at this; exact this
  obtain ⟨N, hN⟩ : ∃ N, N = size (dOf G) := ⟨_, rfl⟩
  have HN := hide hN
  rw [← hN] at hsz
  clear hN
  go_enter Try.func119, Try.ntmps119
  go_wp2_with (first
    | (at_len; refine wpList_len_own _ rfl _ 85 rfl 3 3 Try.underlying85 _ b 32 _ rfl hown ?_; rw [← HN.out])
    | (at_make; refine wpList_make_own _ rfl _ _ 36 rfl w.heap.size 3 i0 (.int .i64 0) 1 Try.underlying36 hi hz0 hz1 _ _ _ N rfl rfl rfl (by rw [hz2]; omega) (by unfold maxLen; omega) (Nat.le_refl _) ?_; intro w1 hrow1 hg1)
    | (at_range; refine wpList_range_own _ rfl _ 85 rfl 3 3 keyedI Try.underlying85 _ b 32 _ rfl (hown.kept hg1 (by simp)) ?_; intro w0 hrg0 hg0 hs0))
  go_frame
  have hs1 := hg1.size
  clear hs0
  go_loopw [3] (fun v wr => ∃ (left : Lit → Bool) (cnt : Nat) (ks : List Int), wr.ranges Try.prog 3 (plainElem Try.prog 3) b w1.heap.size 32 (dOf G) left cnt ∧ ks.length + cnt ≤ N ∧
      Own wr w.heap.size v ks ∧ v ≠ .slice none 0 0 ∧ Coll G left ks ∧ Below w.heap.size w wr)
    (fun _ wr => wr.rangeLeft b w1.heap.size)
  case atStart =>
    exact ⟨_, _, [], hrg0, by rw [← HN.out]; simp, hrow1.kept hg0 (Or.inr (by simp [Value.ownBlock])), by simp, Coll.start G,
      ((Below.refl _ _).grown hg1 (Nat.le_refl _) (fun j hj => by cases hj)).grown hg0 hg1.size (fun j hj => by cases hj)⟩
  case round =>
    obtain ⟨left, cnt, ks, hrg, hcs, hrow, hnn, hC, hnx⟩ := hrel
    have HC := hide hC
    clear hC
    go_wp2_with (at_next; refine wpList_next_ranges_ii _ rfl _ rfl 3 3 .i64 .i64 keyedI Try.underlying3 Try.underlying3 b w1.heap.size 32 _ _ _ rfl hrg ?_ ?_)
    · intro hc0 hl0
      rcases hrow.2 with ⟨hnil, _⟩ | ⟨g, cap, cur, rfl, hbase, hb, h1, h2, h3, h4⟩
      · exact absurd hnil hnn
      have hH := holds_of_blockI (ss := ks) hb (by simpa using h4)
      have hgl : g < wr.heap.size := (Array.getElem?_eq_some_iff.1 hb).1
      have hc := AnyM.slices_Sort_int Try.sortI g 0 cap ks wr hH hgl (by omega)
      obtain ⟨d1, d2⟩ := HC.out.done hl0
      rw [d1] at hc
      have D2 := hide d2
      clear d1 d2
      change Calls Try.prog 153 _ _ _ at hc
      go_wp2_with (go_at_call 153; refine hc.mono ?_; rintro e w' ⟨rfl, nn, os, rfl⟩)
      go_ret
      refine ⟨_, rfl, ?_, hnx.grown (grownBy_sortedI _) hnx.size (fun j hj => by cases hj; exact hbase)⟩
      have := ownsRow_sortedI (base := w.heap.size) (n := nn) (os := os) (ts := keysG G) D2.out hbase hb h1 h2 h3
      unfold Own
      rw [D2.out]
      exact this
    · intro x c w2 cnt2 hwx hwc hlk hat hrg2 hlt hg2 hs2 hen
      have hC2 := hide (HC.out.step hlk hat)
      have hrow2 := hrow.kept hg2 (Or.inr (row_ne_iterR hrow hrg).1.symm)
      clear hs2 hat
      go_wp2_with (at_builtin; go_loud (refine wpList_append_own _ rfl _ _ 36 rfl w.heap.size 3 i0 (.int .i64 0) 1 8 Try.underlying36 hi hz0 hz1 hz2 rfl (by decide) _ _ _ rfl (hrow2.alloc _) ⟨w2.heap.size, 0, none⟩ 1 1 [.int .i64 x] rfl rfl (cell_one_new _ _ _) (by simp [Value.oneCell']) (by unfold maxLen at *; omega) (by omega) (by have := hnx.size; have := hg2.size; simp; omega) ?_); intro v' w3 hown' hg3 hnil3; go_frame)
      have hrg3 := (hrg2.alloc (.cells #[.int .i64 x] 3)).kept hg3 (row_ne_iterR hrow2 hrg2).2 (row_ne_iterR hrow2 hrg2).1
      go_roundw
      case rel =>
        refine ⟨_, cnt2, ks ++ [x], hrg3, by simp; omega, ?_, fun hv' => by have := (hnil3.1 hv').2; omega, hC2.out, ?_⟩
        · unfold Own
          rw [List.map_append, List.length_append]
          exact hown'
        · exact ((hnx.grown hg2 hnx.size (fun j hj => by cases hj; exact hg1.size)).alloc (by have := hnx.size; have := hg2.size; omega) _).grown hg3 (by have := hnx.size; have := hg2.size; simp; omega) (fun j hj => (hrow2.lt j hj).1)
      case measure => rw [hrg3.left_eq, hrg.left_eq]; exact hlt
end Go.Proofs.Ytjffjoednmlkiaa

namespace Go.Proofs.Ytjffjoednmlkiaa
open Go.RowKit Go.Maps Go.MapKept Go.ChangeMaps
set_option linter.unusedVariables false

/-- The first room of the least order that is great enough: a place, an order (6 where there is none). -/
def fsS (G : Om) (want : Int) (s : Int × Int) (k : Int) : Int × Int := if want ≤ (lkM G k).getD 0 ∧ (lkM G k).getD 0 < s.2 then (k, (lkM G k).getD 0) else s
def fsF (G : Om) (want : Int) (ks : List Int) : Int × Int := ks.foldl (fsS G want) (0, 6)
theorem fsF_succ (G : Om) (want : Int) (ks : List Int) (k : Nat) (h : k < ks.length) : fsF G want (ks.take (k + 1)) = fsS G want (fsF G want (ks.take k)) (ks.getD k 0) := by
  rw [take_succ_getD ks k 0 h]
  simp [fsF, List.foldl_append]
/-- A look-up in a region that only reads. -/
theorem wpQuiet_lookup {w : World} {ops : Array Oper} {rest : List Oper} {o : Oper} {a : Act} {Q : Act → Prop} (hw : Region.wanted o (yielded ops a.tmps) = true) (m x : Operand) (t : TypeId) (c : Bool) (hop : o.op = Op.lookup t m x c) (v : Value)
    (hrun : ∀ n, (Instr.lookup t (a.eval m) (a.eval x) c).run Try.prog (w.drewN n) = .ok v (w.drewN n)) (h : wpQuiet Try.prog ops (fun w' => ∃ n, w' = w.drewN n) Q rest (a.put o.dst v)) :
    wpQuiet Try.prog ops (fun w' => ∃ n, w' = w.drewN n) Q (o :: rest) a := by
  refine BigFrame.wpQuiet_want hw fun K hK => ⟨v, fun w' hw' => ?_, hK _ h⟩
  obtain ⟨n, rfl⟩ := hw'
  unfold Oper.quietAt execOp
  simp only [hop, Sem.run_bind, Sem.run_pure, hrun n, Result.andThen_ok]
  exact ⟨rfl, rfl⟩
theorem MapAt.drewN {w : World} {b : Nat} {G : Om} (h : MapAt w b G) (n : Nat) : MapAt (w.drewN n) b G := h.below (below_drewN' n)
theorem MapAt.drew {w : World} {b : Nat} {G : Om} (h : MapAt w b G) : MapAt w.drew b G := ⟨h.len, h.own.drew⟩
theorem keysG_in (G : Om) (hl : G.length = 32) (k : Nat) (h : k < (keysG G).length) : 0 ≤ (keysG G).getD k 0 ∧ (keysG G).getD k 0 < 32 := by
  have hm : (keysG G).getD k 0 ∈ keysG G := by rw [List.getD_eq_getElem?_getD, List.getElem?_eq_getElem h, Option.getD_some]; exact List.getElem_mem h
  have h1 := selF_ge _ 0 _ hm
  have h2 := selF_lt _ 0 _ hm
  rw [List.length_map, hl] at h2
  omega

set_option maxRecDepth 100000 in
set_option maxHeartbeats 1600000 in
theorem firstOf_calls (b : Nat) (G : Om) (want : Int) (w : World) (h : MapAt w b G) :
    Calls Try.prog 155 #[.map (some b), .int .i64 want] w fun e w' => e = .returned (.tuple #[.int .i64 (fsF G want (keysG G)).1, .bool (decide ((fsF G want (keysG G)).2 < 6))]) ∧ Below w.heap.size w w' := by
  have M := hide h
  have HL := hide h.len
  clear h
  have kl := keysG_len G
  rw [HL.out] at kl
  have IN := hide (keysG_in G HL.out)
  obtain ⟨ks, hks⟩ : ∃ ks, ks = keysG G := ⟨_, rfl⟩
  have HK := hide hks
  rw [← hks] at kl IN ⊢
  clear hks
  go_enter Try.func155, Try.ntmps155
  go_wp2_with fail
  refine (places_calls b G w M.out).mono ?_
  rw [← HK.out]
  rintro e w1 ⟨v, rfl, o1, b1⟩
  obtain ⟨a, cap, rfl⟩ := row_slice o1
  have O := hide (Own.rd o1)
  have B1 := hide b1
  have M1 := hide (M.out.below b1)
  clear o1 b1 M
  go_wp2
  go_loopw [6, 7, 13] (fun vf vl vi wr => ∃ (k : Nat) (f l : Int), k ≤ ks.length ∧ vi = .int .i64 k ∧ vf = .int .i64 f ∧ vl = .int .i64 l ∧ fsF G want (ks.take k) = (f, l) ∧ Below w1.heap.size w1 wr) (fun _ _ vi _ => ks.length - (intOf vi).toNat)
  case atStart => exact ⟨0, 0, 6, Nat.zero_le _, rfl, rfl, rfl, rfl, Below.refl _ _⟩
  case round =>
    obtain ⟨k, f, l, hk, rfl, rfl, rfl, hf, hb⟩ := hrel
    have HF := hide hf
    have B := hide hb
    have R := hide (O.out.below hb)
    have M2 := hide (M1.out.below hb)
    clear hf hb
    by_cases hlt : k < ks.length
    · have hlt' : (k : Int) < (ks.length : Int) := by omega
      obtain ⟨bb, off, rfl, hc⟩ := R.out.cellAt k hlt
      have hin := IN.out k hlt
      have FS := fsF_succ G want ks k hlt
      rw [HF.out] at FS
      obtain ⟨x, hx⟩ : ∃ x, x = ks.getD k 0 := ⟨_, rfl⟩
      rw [← hx] at hc hin FS
      have L := M2.out.look (k := x) (wfI_small (by omega) (by omega))
      have LQ := hide (fun n => (M2.out.drewN n).look (k := x) (wfI_small (by omega) (by omega)))
      unfold fsS at FS
      obtain ⟨y, hy⟩ : ∃ y, y = (lkM G x).getD 0 := ⟨_, rfl⟩
      rw [← hy] at L LQ FS
      clear hx hy hin
      by_cases h1 : want ≤ y
      · by_cases h2 : y < l
        · rw [if_pos ⟨h1, h2⟩] at FS
          have F2 := hide FS
          have h1' := decide_eq_true h1
          have h2' := decide_eq_true h2
          clear FS
          go_wp2
          refine wp_region_quiet_lit (by kernel_rfl) (by kernel_rfl) ?_
          repeat (go_big_quiet_step (fail))
          refine wpQuiet_lookup (by kernel_rfl) (.tmp 30) (.tmp 31) 85 false rfl (.int .i64 y) LQ.out ?_
          go_frame
          repeat (go_big_quiet_step (fail))
          refine wpQuiet_nil ?_
          intro _ hw'
          obtain ⟨nq, rfl⟩ := hw'
          go_wp2
          go_roundw
          case rel => exact ⟨k + 1, x, y, by omega, by go_num, rfl, rfl, F2.out, below_drewN B.out _⟩
          case measure => simp [intOf]; omega
        · rw [if_neg (fun h => h2 h.2)] at FS
          have F2 := hide FS
          have h2' := decide_eq_false h2
          clear FS
          go_wp2
          go_roundw
          case rel => exact ⟨k + 1, f, l, by omega, by go_num, rfl, rfl, F2.out, B.out⟩
          case measure => simp [intOf]; omega
      · rw [if_neg (fun h => h1 h.1)] at FS
        have F2 := hide FS
        clear FS
        go_wp2
        go_roundw
        case rel => exact ⟨k + 1, f, l, by omega, by go_num, rfl, rfl, F2.out, B.out⟩
        case measure => simp [intOf]; omega
    · obtain rfl : k = ks.length := by omega
      have HF2 : Hid (fsF G want ks = (f, l)) := by have := HF.out; rw [List.take_length] at this; exact this
      go_wp2
      go_ret2
      rw [HF2.out]
      exact ⟨rfl, B1.out.trans (B.out.mono B1.out.size)⟩

set_option maxRecDepth 100000 in
set_option maxHeartbeats 1600000 in
theorem equalBuddy_calls (b : Nat) (G : Om) (a o : Int) (w : World) (h : MapAt w b G) (ha : wfI a) (ho : (lkM G a).getD 0 = o) :
    Calls Try.prog 118 #[.map (some b), .int .i64 a] w fun e w' => e = .returned (.tuple #[.int .i64 (bdV a o), .bool (bdB a o && decide (lkM G (bdV a o) = some o))]) ∧ Below w.heap.size w w' := by
  have L := h.look (k := a) ha
  have LQ := hide (fun n => (h.drewN n).look (k := a) ha)
  rw [ho] at L LQ
  have C := hide (buddyOf_calls a o w)
  cases hb : bdB a o with
  | false =>
    have E : Hid (bdV a o = 0) := by show bdV a o = 0; unfold bdV; rw [hb]; rfl
    rw [hb, E.out] at C
    rw [E.out]
    clear hb h ha ho
    go_enter Try.func118, Try.ntmps118
    go_wp2_with (go_at_call 152; refine C.out.mono ?_; rintro e w' ⟨rfl, rfl⟩)
    go_ret2
    exact ⟨rfl, Below.refl _ _⟩
  | true =>
    have E : Hid (bdV a o = bud a o.toNat) := by show bdV a o = _; unfold bdV; rw [hb]; rfl
    rw [hb] at C
    obtain ⟨y, hy⟩ : ∃ y, y = bdV a o := ⟨_, rfl⟩
    rw [← hy] at C E ⊢
    have hwy : wfI y := by
      rw [E.out]
      have hr : rmP a o := (rmB_iff a o).1 (by unfold bdB at hb; simp only [Bool.and_eq_true] at hb; exact hb.1)
      obtain ⟨r1, r2, r3, r4, r5⟩ := hr
      have h1 := pw_pos o.toNat
      have h2 := pw_le o.toNat (by omega)
      unfold bud
      split
      · exact wfI_small (by omega) (by omega)
      · exact wfI_small (by omega) (by omega)
    have K := h.lookOk (k := y) hwy
    cases hl : lkM G y with
    | none =>
      rw [hl] at K
      simp only [Option.getD_none, Option.isSome_none] at K
      clear hb h ha ho hy hwy E hl
      go_enter Try.func118, Try.ntmps118
      go_wp2_with (go_at_call 152; refine C.out.mono ?_; rintro e w' ⟨rfl, rfl⟩)
      go_quiet (fail)
      go_wp2
      go_ret2
      exact ⟨rfl, below_drewN (Below.refl _ _) _⟩
    | some z =>
      rw [hl] at K
      simp only [Option.getD_some, Option.isSome_some] at K
      by_cases hz : z = o
      · subst hz
        clear hb h ha ho hy hwy E hl
        have te : (z == z) = true := by simp
        go_enter Try.func118, Try.ntmps118
        go_wp2_with (go_at_call 152; refine C.out.mono ?_; rintro e w' ⟨rfl, rfl⟩)
        refine wp_region_quiet_lit (by kernel_rfl) (by kernel_rfl) ?_
        repeat (go_big_quiet_step (fail))
        refine wpQuiet_lookup (by kernel_rfl) (.tmp 29) (.tmp 30) 85 false rfl _ LQ.out ?_
        go_frame
        repeat (go_big_quiet_step (fail))
        refine wpQuiet_nil ?_
        intro _ hw'
        obtain ⟨nq, rfl⟩ := hw'
        go_wp2
        go_ret2
        exact ⟨by simp, below_drewN (Below.refl _ _) _⟩
      · have te : (z == o) = false := by simpa using hz
        have D : Hid (decide (some z = some o) = false) := decide_eq_false (fun h => hz (Option.some.inj h))
        clear hb h ha ho hy hwy E hl hz
        go_enter Try.func118, Try.ntmps118
        go_wp2_with (go_at_call 152; refine C.out.mono ?_; rintro e w' ⟨rfl, rfl⟩)
        refine wp_region_quiet_lit (by kernel_rfl) (by kernel_rfl) ?_
        repeat (go_big_quiet_step (fail))
        refine wpQuiet_lookup (by kernel_rfl) (.tmp 29) (.tmp 30) 85 false rfl _ LQ.out ?_
        go_frame
        repeat (go_big_quiet_step (fail))
        refine wpQuiet_nil ?_
        intro _ hw'
        obtain ⟨nq, rfl⟩ := hw'
        go_wp2
        go_ret2
        exact ⟨by rw [D.out]; rfl, below_drewN (Below.refl _ _) _⟩
end Go.Proofs.Ytjffjoednmlkiaa

namespace Go.Proofs.Ytjffjoednmlkiaa
open Go.RowKit Go.Maps Go.MapKept Go.ChangeMaps
set_option linter.unusedVariables false

/-- The room at a place is halved, j times, down to the order that is wanted: its first half stays there. -/
def hlG (a want : Nat) : Nat → Om → Om
  | 0, G => G
  | j + 1, G => hlG a want j ((G.set a (some ((want + j : Nat) : Int))).set (a + 2 ^ (want + j)) (some ((want + j : Nat) : Int)))
theorem chg_one {w w' : World} {b : Nat} (h : w.grownBy w' (some b)) : Chg b (b + 1) w w' := Chg.ofGrown h (fun k hk => by cases hk; omega)
theorem chg_drew {lo hi : Nat} (w : World) : Chg lo hi w w.drew := Chg.ofBelow (Below.refl _ _).drew

set_option maxRecDepth 100000 in
set_option maxHeartbeats 1600000 in
theorem halveTo_calls (b : Nat) (G : Om) (a want j : Nat) (w : World) (h : MapAt w b G) (hg : G.getD a none = some ((want + j : Nat) : Int)) (hb : a + 2 ^ (want + j) ≤ 32) (hj : want + j ≤ 5) :
    Calls Try.prog 156 #[.map (some b), .int .i64 (a : Int), .int .i64 (want : Int)] w fun e w' => e = .returned (.tuple #[]) ∧ MapAt w' b (hlG a want j G) ∧ Chg b (b + 1) w w' := by
  obtain ⟨E, hE⟩ : ∃ E, E = hlG a want j G := ⟨_, rfl⟩
  rw [← hE]
  have HE := hide hE
  have M := hide h
  have HG := hide hg
  have HB := hide hb
  clear h hg hb hE
  go_enter Try.func156, Try.ntmps156
  go_wp2
  go_loopg [] j (fun gk wr => ∃ (i : Nat) (G' : Om), i = gk ∧ i ≤ j ∧ MapAt wr b G' ∧ G'.getD a none = some ((want + i : Nat) : Int) ∧ a + 2 ^ (want + i) ≤ 32 ∧ hlG a want i G' = E ∧ Chg b (b + 1) w wr)
  case atStart => exact ⟨j, G, rfl, Nat.le_refl _, M.out, HG.out, HB.out, HE.out.symm, Chg.refl _ _ _⟩
  case round =>
    obtain ⟨i, G', rfl, hij, hm, hg, hb, he, hc⟩ := hrel
    have M2 := hide hm
    have C2 := hide hc
    have G2 := hide hg
    have a31 : a < 32 := by have := Nat.one_le_two_pow (n := want + i); omega
    have L := hm.look (k := (a : Int)) (wfI_small (by omega) (by omega))
    rw [lkM_nat, hg, Option.getD_some] at L
    cases i with
    | zero =>
      have E2 : Hid (G' = E) := he
      have HB2 := hide hb
      have eq0 : ((want + 0 : Nat) : Int) = (want : Int) := rfl
      rw [eq0] at L
      clear hm hg he hc hb eq0
      go_wp2
      go_end0
      refine ⟨rfl, ?_, C2.out⟩
      rw [← E2.out]
      exact M2.out
    | succ i =>
      have E2 := hide he
      have hpw : a + 2 ^ (want + i) < 32 := by
        have h1 : 2 ^ (want + (i + 1)) = 2 ^ (want + i) * 2 := by rw [show want + (i + 1) = (want + i) + 1 from rfl, Nat.pow_succ]
        have h2 := Nat.one_le_two_pow (n := want + i)
        omega
      obtain ⟨y, hy⟩ : ∃ y : Nat, y = want + i := ⟨_, rfl⟩
      have hy2 : ((want + (i + 1) : Nat) : Int) = (y : Int) + 1 := by omega
      rw [hy2] at L
      obtain ⟨w1, run1, m1, g1, s1⟩ := hm.put a a31 (y : Int) (wfI_small (by omega) (by omega))
      have L1 := m1.drew.look (k := (a : Int)) (wfI_small (by omega) (by omega))
      have ea : (G'.set a (some (y : Int))).getD a none = some (y : Int) := by
        rw [getD_set _ _ _ _ _ (by rw [hm.len]; exact a31), if_pos rfl]
      rw [lkM_nat, ea, Option.getD_some] at L1
      obtain ⟨w2, run2, m2, g2, s2⟩ := m1.drew.put (a + 2 ^ y) (by rw [hy]; exact hpw) (y : Int) (wfI_small (by omega) (by omega))
      have RL := hide (roomLong_calls y (by omega) w1.drew)
      obtain ⟨p, hp⟩ : ∃ p, p = pw y := ⟨_, rfl⟩
      have hp2 : ((a + 2 ^ y : Nat) : Int) = (a : Int) + p := by rw [hp]; unfold pw; omega
      rw [hp2] at run2
      rw [← hp] at RL
      have q1 : 1 ≤ p := by rw [hp]; exact pw_pos y
      have q2 : p ≤ 32 := by rw [hp]; exact pw_le y (by omega)
      have wl : (want : Int) < (y : Int) + 1 := by omega
      have y5 : (y : Int) ≤ 5 := by omega
      have wap : IntKind.i64.wrap ((a : Int) + p) = (a : Int) + p := by
        simp [IntKind.wrap, IntKind.bits, IntKind.signed]
        omega
      have M3 := hide m2
      have C3 : Hid (Chg b (b + 1) w w2) := (C2.out.trans (chg_one g1)).trans ((chg_drew w1).trans (chg_one g2))
      have HY := hide hy
      have HB2 := hide hb
      have E3 : Hid (hlG a want i ((G'.set a (some (y : Int))).set (a + 2 ^ y) (some (y : Int))) = E) := by show _ = _; rw [hy]; exact E2.out
      have EA : Hid (((G'.set a (some (y : Int))).set (a + 2 ^ y) (some (y : Int))).getD a none = some (y : Int)) := by
        show List.getD _ _ _ = _
        have h2 := Nat.one_le_two_pow (n := y)
        rw [getD_set _ _ _ _ _ (by rw [List.length_set, hm.len, hy]; exact hpw), if_neg (by omega), ea]
      clear hm hg he hc hb m1 m2 g1 g2 s1 s2 ea hp hp2 hy hy2 E2 G2 M2 C2 hpw
      go_wp2
      go_region_with (go_at_call 150; refine RL.out.mono ?_; rintro e w' ⟨rfl, rfl⟩)
      all_goals
        go_wp2
        go_roundg i
        case measure => omega
        case rel => exact ⟨i, _, rfl, by omega, M3.out, by rw [EA.out, HY.out], by
          have h1 : 2 ^ (want + (i + 1)) = 2 ^ (want + i) * 2 := by rw [show want + (i + 1) = (want + i) + 1 from rfl, Nat.pow_succ]
          have := HB2.out
          omega, E3.out, C3.out⟩

/-- The place of the other half. -/
def budN (a o : Nat) : Nat := if a / 2 ^ o % 2 = 0 then a + 2 ^ o else a - 2 ^ o
/-- The room at a place is put together with its buddy, as long as that is there whole. -/
def jnG : Nat → Nat → Nat → Om → Om
  | 0, a, o, G => G
  | f + 1, a, o, G => if o < 5 ∧ G.getD (budN a o) none = some (o : Int) then jnG f (min a (budN a o)) (o + 1) ((G.set (max a (budN a o)) none).set (min a (budN a o)) (some ((o + 1 : Nat) : Int))) else G
theorem bud_all : ∀ a : Nat, a < 32 → ∀ o : Nat, o < 5 → a % 2 ^ o = 0 → bud (a : Int) o = (budN a o : Int) ∧ budN a o < 32 ∧ min a (budN a o) % 2 ^ (o + 1) = 0 ∧ budN a o ≠ a ∧ budN a o % 2 ^ o = 0 ∧ budN (budN a o) o = a := by decide
theorem rm_nat (a o : Nat) (ha : a < 32) (ho : o ≤ 5) (h : a % 2 ^ o = 0) : rmB (a : Int) (o : Int) = true := by
  refine decide_eq_true ⟨by omega, by omega, by omega, by omega, ?_⟩
  rw [Int.toNat_natCast]
  unfold pw
  omega
theorem bd_nat (a o : Nat) (ha : a < 32) (ho : o < 5) (h : a % 2 ^ o = 0) : bdB (a : Int) (o : Int) = true ∧ bdV (a : Int) (o : Int) = (budN a o : Int) := by
  have e : bdB (a : Int) (o : Int) = true := by
    unfold bdB
    rw [rm_nat a o ha (by omega) h, decide_eq_true (by omega)]
    rfl
  refine ⟨e, ?_⟩
  unfold bdV
  rw [e, if_pos rfl, Int.toNat_natCast]
  exact (bud_all a ha o ho h).1
theorem bd_five (a : Int) : bdB a 5 = false := by
  unfold bdB
  simp
theorem min_is (a c : Nat) : (min a c = a ∧ max a c = c ∧ a ≤ c) ∨ (min a c = c ∧ max a c = a ∧ c ≤ a) := by omega

set_option maxRecDepth 100000 in
set_option maxHeartbeats 3200000 in
theorem joinFrom_calls (b : Nat) (G : Om) (a o : Nat) (w : World) (h : MapAt w b G) (ha : a < 32) (ho : o ≤ 5) (hr : a % 2 ^ o = 0) (hg : G.getD a none = some (o : Int)) :
    Calls Try.prog 59 #[.map (some b), .int .i64 (a : Int)] w fun e w' => e = .returned (.tuple #[]) ∧ MapAt w' b (jnG (5 - o) a o G) ∧ Chg b (b + 1) w w' := by
  obtain ⟨E, hE⟩ : ∃ E, E = jnG (5 - o) a o G := ⟨_, rfl⟩
  rw [← hE]
  have HE := hide hE
  have M := hide h
  have HG := hide hg
  have HR := hide hr
  clear h hg hE hr
  go_enter Try.func59, Try.ntmps59
  go_wp2_with fail
  refine (equalBuddy_calls b G (a : Int) (o : Int) w M.out (wfI_small (by omega) (by omega)) (by rw [lkM_nat, HG.out]; rfl)).mono ?_
  rintro e w1 ⟨rfl, b1⟩
  have M1 := hide (M.out.below b1)
  have C1 : Hid (Chg b (b + 1) w w1) := Chg.ofBelow b1
  clear b1 M
  obtain ⟨V0, hV0⟩ : ∃ V, V = bdV (a : Int) (o : Int) := ⟨_, rfl⟩
  obtain ⟨Z0, hZ0⟩ : ∃ Z, Z = (bdB (a : Int) (o : Int) && decide (lkM G (bdV (a : Int) (o : Int)) = some (o : Int))) := ⟨_, rfl⟩
  rw [← hZ0, ← hV0]
  have HV0 := hide hV0
  have HZ0 := hide hZ0
  clear hV0 hZ0
  go_wp2
  go_loopg [1, 4, 5] (5 - o) (fun gk v1 v4 v5 wr => ∃ (i a' o' : Nat) (G' : Om), i = gk ∧ o' + i = 5 ∧ a' < 32 ∧ a' % 2 ^ o' = 0 ∧ G'.getD a' none = some (o' : Int) ∧ v1 = .int .i64 (a' : Int) ∧ v4 = .int .i64 (bdV (a' : Int) (o' : Int)) ∧ v5 = .bool (bdB (a' : Int) (o' : Int) && decide (lkM G' (bdV (a' : Int) (o' : Int)) = some (o' : Int))) ∧ MapAt wr b G' ∧ jnG i a' o' G' = E ∧ Chg b (b + 1) w wr)
  case atStart => exact ⟨5 - o, a, o, G, rfl, by omega, ha, HR.out, HG.out, rfl, by rw [HV0.out], by rw [HZ0.out], M1.out, HE.out.symm, C1.out⟩
  case round =>
    obtain ⟨i, a', o', G', rfl, hi, ha', hr', hg', rfl, rfl, rfl, hm, he, hc⟩ := hrel
    have M2 := hide hm
    have C2 := hide hc
    clear M1 C1 HE HG HR HV0 HZ0 ha ho
    cases i with
    | zero =>
      obtain rfl : o' = 5 := by omega
      have e5 : bdB (a' : Int) ((5 : Nat) : Int) = false := bd_five _
      have E2 : Hid (G' = E) := he
      rw [e5, Bool.false_and]
      clear hm he hc hr' hg' hi e5
      go_wp2
      go_end0
      refine ⟨rfl, ?_, C2.out⟩
      rw [← E2.out]
      exact M2.out
    | succ i =>
      have ho5 : o' < 5 := by omega
      obtain ⟨e1, e2⟩ := bd_nat a' o' ha' ho5 hr'
      rw [e1, e2, Bool.true_and, lkM_nat]
      obtain ⟨_, k1, k2, k3, k4, _⟩ := bud_all a' ha' o' ho5 hr'
      clear e1 e2
      by_cases hy : G'.getD (budN a' o') none = some (o' : Int)
      case neg =>
        have E2 : Hid (G' = E) := by show G' = E; rw [← he]; unfold jnG; rw [if_neg (fun h => hy h.2)]
        rw [decide_eq_false hy]
        clear hm he hc hr' hg' hi hy k1 k2 k3 k4
        go_wp2
        go_end0
        refine ⟨rfl, ?_, C2.out⟩
        rw [← E2.out]
        exact M2.out
      rw [decide_eq_true hy]
      have E2 : Hid (jnG i (min a' (budN a' o')) (o' + 1) ((G'.set (max a' (budN a' o')) none).set (min a' (budN a' o')) (some ((o' + 1 : Nat) : Int))) = E) := by
        show _ = E
        rw [← he]
        conv => rhs; unfold jnG
        rw [if_pos ⟨ho5, hy⟩]
      obtain ⟨c, hc0⟩ : ∃ c, c = budN a' o' := ⟨_, rfl⟩
      rw [← hc0] at k1 k2 k3 hy E2 ⊢
      obtain ⟨mn, hmn⟩ : ∃ mn, mn = min a' c := ⟨_, rfl⟩
      obtain ⟨mx, hmx⟩ : ∃ mx, mx = max a' c := ⟨_, rfl⟩
      rw [← hmn] at k2 E2
      rw [← hmx] at E2
      have gm : G'.getD mn none = some (o' : Int) := by
        rcases min_is a' c with ⟨x1, x2, x3⟩ | ⟨x1, x2, x3⟩
        · rw [hmn, x1]; exact hg'
        · rw [hmn, x1]; exact hy
      have ml : mn < 32 := by omega
      have xl : mx < 32 := by omega
      have mne : mn ≠ mx := by omega
      obtain ⟨w2, run2, m2, g2, s2⟩ := hm.del mx xl 0
      have e3 : (G'.set mx none).getD mn none = some (o' : Int) := by
        rw [getD_set _ _ _ _ _ (by rw [hm.len]; exact xl), if_neg mne]; exact gm
      have L3 := m2.look (k := (mn : Int)) (wfI_small (by omega) (by omega))
      rw [lkM_nat, e3, Option.getD_some] at L3
      obtain ⟨w3, run3, m3, g3, s3⟩ := m2.put mn ml ((o' : Int) + 1) (wfI_small (by omega) (by omega))
      have eo : ((o' + 1 : Nat) : Int) = (o' : Int) + 1 := by omega
      rw [eo] at E2
      have e4 : ((G'.set mx none).set mn (some ((o' : Int) + 1))).getD mn none = some ((o' : Int) + 1) := by
        rw [getD_set _ _ _ _ _ (by rw [m2.len]; exact ml), if_pos rfl]
      have M3 := hide m3
      have C3 : Hid (Chg b (b + 1) w w3) := C2.out.trans ((chg_one g2).trans (chg_one g3))
      have E4 := hide e4
      have K2 := hide k2
      have EQ := hide (equalBuddy_calls b _ (mn : Int) ((o' : Int) + 1) w3 m3 (wfI_small (by omega) (by omega)) (by rw [lkM_nat, e4]; rfl))
      have xn : max (a' : Int) (c : Int) = (mx : Int) := by omega
      have nn : min (a' : Int) (c : Int) = (mn : Int) := by omega
      have o5 : (o' : Int) ≤ 4 := by omega
      clear hm he hc hr' hg' hy k1 k2 k3 k4 hc0 hmn hmx gm m2 m3 g2 g3 s2 s3 e3 e4 eo M2 C2 mne
      go_wp2_with (go_at_call 118; refine EQ.out.mono ?_; rintro e w4 ⟨rfl, b4⟩; have B4 := hide b4; clear b4)
      go_roundg i
      case measure => omega
      case rel =>
        refine ⟨i, mn, o' + 1, _, rfl, by omega, ml, K2.out, by rw [E4.out]; rfl, rfl, rfl, rfl, M3.out.below B4.out, E2.out, C3.out.trans (Chg.ofBelow B4.out)⟩
end Go.Proofs.Ytjffjoednmlkiaa

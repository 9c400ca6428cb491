/-
  Whether a recipe is good, by the program: chunks, unlike ones by a map, uses by closures, call by call. Each says what it asks. A recipe's uses, whether it is good, and its texts, by the program, call by call. Each says what it asks. A text built again out of a recipe, by the program, call by call. Each says what it asks.
-/
import Derived.Test.YthmijjcddjlebaaDedupB4
import Derived.Test.YthmijjcddjlebaaDedupB5
import Derived.Maps.Own
import Derived.Maps.OwnSet
import Derived.Maps.Views
import Derived.Carry
import Derived.RangeFuncBox
import Derived.Laws.EntriesVeiled
import Derived.Shelf.Abstract
namespace Go.Proofs.Ythmijjcddjlebaa
open Go.RowKit
set_option linter.unusedVariables false

abbrev chunkOk (t : ByteArray) : Prop := t ≠ ⟨#[]⟩ ∧ t.size ≤ 20
theorem nonempty_list {z : ByteArray} (h : z ≠ ⟨#[]⟩) : ¬ z.toList = [] := by
  intro h'
  apply h
  rw [ByteArray.toList_eq] at h'
  have : z.data = #[] := by apply Array.ext'; simpa using h'
  cases z
  simp at this
  rw [this]

set_option maxRecDepth 100000 in
theorem isChunk_calls (t : ByteArray) (w : World) (ht : t.size ≤ maxLen) : Calls Try.prog 127 #[.string t] w fun e w' => e = .returned (.bool (decide (chunkOk t))) ∧ w = w' := by
  unfold maxLen at ht
  by_cases h0 : t = ⟨#[]⟩
  · have e : decide (chunkOk t) = false := decide_eq_false (fun h => h.1 h0)
    rw [e]
    subst h0
    go_enter Try.func127, Try.ntmps127
    go_wp2
    go_ret
    exact ⟨rfl, rfl⟩
  · have e : decide (chunkOk t) = decide ((t.size : Int) ≤ 20) := decide_eq_decide.2 ⟨fun h => by have := h.2; omega, fun h => ⟨h0, by omega⟩⟩
    have h1 := nonempty_list h0
    have h2 : (t.toList == []) = false := by simpa using h1
    rw [e]
    clear e h0
    go_enter Try.func127, Try.ntmps127
    go_wp2
    go_ret
    exact ⟨rfl, rfl⟩

set_option maxRecDepth 100000 in
set_option maxHeartbeats 400000 in
theorem allTexts_calls (f : Nat) (p : ByteArray → Prop) [DecidablePred p] (hf : ∀ (t : ByteArray) (w : World), t.size ≤ maxLen → Calls Try.prog f #[.string t] w fun e w' => e = .returned (.bool (decide (p t))) ∧ w = w')
    (hen : ∀ args w, (callFunc f args).run Try.prog w = .ok (.enter f args) w) (v : Value) (xs : List ByteArray) (w : World) (h : RdT w v xs) :
    Calls Try.prog 61 #[v, .func (.func f) #[] #[]] w fun e w' => e = .returned (.bool (decide (∀ i, i < xs.length → p (xs.getD i ⟨#[]⟩)))) ∧ w = w' := by
  obtain ⟨a, cap, rfl, h1, h2, h4, h3⟩ := h
  have hm : xs.length ≤ maxLen := by omega
  unfold maxLen at hm
  have H3 := hide h3
  have H4 := hide h4
  have HF := hide hf
  clear h3 h4 h2 h1 hf
  go_enter Try.func61, Try.ntmps61
  go_wp2
  go_loop [9] (fun vi => ∃ k : Nat, k ≤ xs.length ∧ vi = .int .i64 k ∧ ∀ i, i < k → p (xs.getD i ⟨#[]⟩)) (fun vi => xs.length - (intOf vi).toNat)
  case atStart => exact ⟨0, Nat.zero_le _, rfl, fun i hi => by omega⟩
  case round =>
    obtain ⟨k, hk, rfl, hall⟩ := hrel
    have HA := hide hall
    clear hall
    by_cases hlt : k < xs.length
    · rcases H3.out with h3 | ⟨b, off, rfl, hbs, hc⟩
      · subst h3; simp at hlt
      have hc1 := hc k hlt
      have hz : (xs.getD k ⟨#[]⟩).size ≤ maxLen := by
        apply H4.out
        rw [List.getD_eq_getElem?_getD, List.getElem?_eq_getElem hlt]
        exact List.getElem_mem hlt
      clear hc
      obtain ⟨z, hzz⟩ : ∃ z, z = xs.getD k ⟨#[]⟩ := ⟨_, rfl⟩
      rw [← hzz] at hc1 hz
      have HZ := hide hzz
      have hlt' : (k : Int) < (xs.length : Int) := by omega
      clear hzz
      go_wp2_with fail
      refine (HF.out z _ hz).mono ?_
      rintro e w1 ⟨rfl, rfl⟩
      by_cases h16 : p z
      · rw [decide_eq_true h16]
        have H16 := hide h16
        clear h16
        go_wp2
        go_round
        case rel =>
          refine ⟨k + 1, by omega, by go_num, fun i hi => ?_⟩
          by_cases e : i = k
          · subst e; rw [← HZ.out]; exact H16.out
          · exact HA.out i (by omega)
        case measure => simp [intOf]; omega
      · rw [decide_eq_false h16]
        have H16 := hide h16
        clear h16
        go_wp2
        go_ret
        refine ⟨ret_bool ?_, rfl⟩
        symm
        exact decide_eq_false (fun h => H16.out (by rw [HZ.out]; exact h k hlt))
    · obtain rfl : k = xs.length := by omega
      go_wp2
      go_ret
      exact ⟨ret_bool (decide_eq_true HA.out).symm, rfl⟩

/-! Unlike texts, by a map. -/
abbrev unlike9 (xs : List ByteArray) : Prop := ∀ j, j < xs.length → ∀ i, i < j → xs.getD i ⟨#[]⟩ ≠ xs.getD j ⟨#[]⟩

def klit (t : ByteArray) : Lit := .string t.data.toList
theorem klit_inj {s t : ByteArray} (h : klit s = klit t) : s = t := by
  unfold klit at h
  injection h with h
  apply ByteArray.ext
  apply Array.ext'
  exact h
theorem klit_key (t : ByteArray) : WideAt.IsKeyLit (klit t) := trivial
/-- What a map of the first k texts is. -/
structure Seen (xs : List ByteArray) (k : Nat) (D : DataW Unit) : Prop where
  tidy : Maps.Tidy D
  has : ∀ t, Maps.has D (klit t) = true ↔ ∃ i, i < k ∧ xs.getD i ⟨#[]⟩ = t
  le : Maps.size D ≤ k
  eq : Maps.size D = k ↔ ∀ i j, i < j → j < k → xs.getD i ⟨#[]⟩ ≠ xs.getD j ⟨#[]⟩
theorem seen_zero (xs : List ByteArray) : Seen xs 0 (.map []) :=
  ⟨Maps.tidy_empty, fun t => ⟨fun h => by simp [Maps.has] at h, fun ⟨i, hi, _⟩ => by omega⟩, Nat.le_refl _, ⟨fun _ i j h1 h2 => by omega, fun _ => rfl⟩⟩
theorem Seen.step {xs : List ByteArray} {k : Nat} {D : DataW Unit} (h : Seen xs k D) (d : DataW Unit) : Seen xs (k + 1) (D.put (klit (xs.getD k ⟨#[]⟩)) d) := by
  have hsz := Maps.size_put (k := klit (xs.getD k ⟨#[]⟩)) h.tidy d
  have hle := h.le
  refine ⟨h.tidy.put (klit_key _) d, fun t => ?_, ?_, ?_⟩
  · by_cases e : t = xs.getD k ⟨#[]⟩
    · subst e
      rw [Maps.has_put_same h.tidy.isMap (klit_key _)]
      exact ⟨fun _ => ⟨k, by omega, rfl⟩, fun _ => rfl⟩
    · rw [Maps.has_put_other (fun e' => e (klit_inj e')), h.has]
      constructor
      · rintro ⟨i, hi, hx⟩; exact ⟨i, by omega, hx⟩
      · rintro ⟨i, hi, hx⟩
        refine ⟨i, ?_, hx⟩
        rcases Nat.lt_succ_iff_lt_or_eq.1 hi with h' | h'
        · exact h'
        · subst h'; exact absurd hx.symm e
  · rw [hsz]; split <;> omega
  · cases hh : Maps.has D (klit (xs.getD k ⟨#[]⟩))
    · rw [hsz, hh]
      simp only [Bool.false_eq_true, if_false]
      constructor
      · intro e i j hij hj
        have e' : Maps.size D = k := by omega
        rcases Nat.lt_succ_iff_lt_or_eq.1 hj with h' | h'
        · exact h.eq.1 e' i j hij h'
        · subst h'
          intro he
          have := (h.has (xs.getD j ⟨#[]⟩)).2 ⟨i, hij, he⟩
          rw [hh] at this; cases this
      · intro hu
        have := h.eq.2 (fun i j hij hj => hu i j hij (by omega))
        omega
    · rw [hsz, hh]
      simp only [if_true]
      constructor
      · intro e; omega
      · intro hu
        obtain ⟨i, hi, hx⟩ := (h.has _).1 hh
        exact absurd hx (hu i k hi (by omega))

set_option maxRecDepth 100000 in
set_option maxHeartbeats 800000 in
theorem areUnlikeTexts_calls (v : Value) (xs : List ByteArray) (w : World) (h : RdT w v xs) (hn : xs.length ≤ 1048576) :
    Calls Try.prog 128 #[v] w fun e w' => e = .returned (.bool (decide (unlike9 xs))) ∧ Below w.heap.size w w' := by
  obtain ⟨a, cap, rfl, h1, h2, h4, h3⟩ := h
  have H3 := hide h3
  have H4 := hide h4
  have hmm := @run_makeMap Try.prog
  have OM0 := hide (World.ownsMap_made w Try.prog 9 (plainElem (H := Unit) Try.prog 3))
  have B0 : Hid (Below w.heap.size w (w.alloc (.map #[] 0))) := (Below.refl _ w).alloc (Nat.le_refl _) _
  clear h3 h4 h2 h1
  go_enter Try.func128, Try.ntmps128
  go_wp2
  go_loopw [9] (fun vi wr => ∃ (k : Nat) (D : DataW Unit), k ≤ xs.length ∧ vi = .int .i64 k ∧ wr.ownsMap Try.prog 9 (plainElem (H := Unit) Try.prog 3) w.heap.size k D ∧ Seen xs k D ∧ Below w.heap.size w wr) (fun vi _ => xs.length - (intOf vi).toNat)
  case atStart => exact ⟨0, .map [], Nat.zero_le _, rfl, OM0.out, seen_zero xs, B0.out⟩
  case round =>
    obtain ⟨k, D, hk, rfl, om, sn, hb⟩ := hrel
    by_cases hlt : k < xs.length
    · rcases H3.out with h3 | ⟨b, off, rfl, hbs, hc⟩
      · subst h3; simp at hlt
      have hc1 : wr.cell? ⟨b, off + k, none⟩ = some (.string (xs.getD k ⟨#[]⟩)) := (hb.cell (p := ⟨b, off + k, none⟩) hbs).trans (hc k hlt)
      have hz : (xs.getD k ⟨#[]⟩).size ≤ maxLen := by
        apply H4.out
        rw [List.getD_eq_getElem?_getD, List.getElem?_eq_getElem hlt]
        exact List.getElem_mem hlt
      have ST := hide (sn.step (.lit (.int .i64 (k : Int))))
      have OM := hide om
      have HB := hide hb
      have hkey : keyOf Try.prog 9 (.string (xs.getD k ⟨#[]⟩)) = some (klit (xs.getD k ⟨#[]⟩)) := WideMaps.keyOf_string_mk Try.underlying9 hz
      have HK := hide hkey
      generalize xs.getD k ⟨#[]⟩ = z at hc1 hz ST HK
      have hlt' : (k : Int) < (xs.length : Int) := by omega
      clear hc hb om sn hmm hkey
      go_wp2_with (at_mapUpdate; refine wpList_mapUpdate_own _ rfl _ _ _ 84 rfl 9 3 (Maps.string_keyed Try.underlying9) Try.underlying84 (plainElem (H := Unit) Try.prog 3) w.heap.size k D rfl OM.out (by unfold maxLen; omega) _ _ (klit z) rfl rfl HK.out (.lit (.int .i64 (k : Int))) [] (plainElem_int Try.underlying3 (by simp [Lit.wf, IntKind.min, IntKind.max, IntKind.signed, IntKind.bits]; omega)) ?_)
      intro w1 om1 g1
      have B1 := hide (HB.out.grown g1 HB.out.size (fun j e => by cases e; exact Nat.le_refl _))
      have OM1 := hide om1
      clear om1 g1
      go_wp2
      go_roundw
      case rel => exact ⟨k + 1, _, by omega, by go_num, OM1.out, ST.out, B1.out⟩
      case measure => simp [intOf]; omega
    · obtain rfl : k = xs.length := by omega
      have OM := hide om
      have HB := hide hb
      have hle := sn.le
      have EQ := hide sn.eq
      have hl := fun ty => World.ownsMap.len om Try.underlying84 ty
      generalize Maps.size D = sz at hle EQ hl
      clear om hb hmm
      have er : decide (unlike9 xs) = ((sz : Int) == (xs.length : Int)) := by
        rw [Bool.eq_iff_iff, decide_eq_true_iff]
        constructor
        · intro hu
          have := EQ.out.2 (fun i j hij hj => hu j hj i hij)
          simp [this]
        · intro he j hj i hij
          have he' : (sz : Int) = (xs.length : Int) := by simpa using he
          have : sz = xs.length := by omega
          exact EQ.out.1 this i j hij hj
      have ER := hide er
      clear er
      go_wp2
      go_ret
      exact ⟨ret_bool ER.out.symm, HB.out⟩
end Go.Proofs.Ythmijjcddjlebaa

namespace Go.Proofs.Ythmijjcddjlebaa
open Go.RowKit
set_option linter.unusedVariables false

/-- A struct of two fields in a box. -/
def Boxed2 (W : World) (B : Nat) (t : TypeId) (v u : Value) : Prop := W.heap[B]? = some (.cells #[v, u] t (0, 0))
theorem boxed2_new (W : World) (t : TypeId) (v u : Value) : Boxed2 (W.alloc (.cells #[v, u] t)) W.heap.size t v u := World.alloc_heap_new W _
theorem boxed2_alloc {W : World} {B : Nat} {t : TypeId} {v u : Value} (h : Boxed2 W B t v u) (o : Obj) : Boxed2 (W.alloc o) B t v u := (Below.heap_alloc W o B (Array.getElem?_eq_some_iff.1 h).1).trans h
theorem Boxed2.c0 {W : World} {B : Nat} {t : TypeId} {v u : Value} (h : Boxed2 W B t v u) : W.cell? ⟨B, 0, none⟩ = some v := by simp [World.cell?, show W.heap[B]? = _ from h]
theorem Boxed2.c1 {W : World} {B : Nat} {t : TypeId} {v u : Value} (h : Boxed2 W B t v u) : W.cell? ⟨B, 1, none⟩ = some u := by simp [World.cell?, show W.heap[B]? = _ from h]

abbrev thereOk (n : Nat) (x : Int) : Prop := 0 ≤ x ∧ x < (n : Int)
abbrev useOk (n : Nat) (xs : List Int) : Prop := xs.length ≤ 80 ∧ ∀ i, i < xs.length → thereOk n (xs.getD i 0)
abbrev goodRec (C : List ByteArray) (U : List (List Int)) : Prop := U.length ≤ 8 ∧ C.length ≤ 600 ∧ (∀ i, i < C.length → chunkOk (C.getD i ⟨#[]⟩)) ∧ unlike9 C ∧ ∀ i, i < U.length → useOk C.length (U.getD i [])

set_option maxRecDepth 100000 in
theorem isThere_calls (x : Int) (B : Nat) (ac : Option Addr) (nc cc : Nat) (w : World) (hB : w.cell? ⟨B, 0, none⟩ = some (.slice ac nc cc)) :
    Calls Try.prog 125 #[.int .i64 x, .pointer (some ⟨B, 0, none⟩)] w fun e w' => e = .returned (.bool (decide (thereOk nc x))) ∧ w = w' := by
  by_cases h0 : 0 ≤ x
  · have e : decide (thereOk nc x) = decide (x < (nc : Int)) := decide_eq_decide.2 ⟨fun h => h.2, fun h => ⟨h0, h⟩⟩
    rw [e]
    clear e
    go_enter Try.func125, Try.ntmps125
    go_wp2
    go_ret
    exact ⟨rfl, rfl⟩
  · rw [decide_eq_false (fun h => h0 h.1)]
    have h0b : decide (0 ≤ x) = false := decide_eq_false h0
    go_enter Try.func125, Try.ntmps125
    go_wp2
    go_ret
    exact ⟨rfl, rfl⟩

set_option maxRecDepth 100000 in
set_option maxHeartbeats 400000 in
theorem allThere_calls (v : Value) (xs : List Int) (B : Nat) (ac : Option Addr) (nc cc : Nat) (w : World) (h : Rd w v xs) (hB : w.cell? ⟨B, 0, none⟩ = some (.slice ac nc cc)) :
    Calls Try.prog 87 #[v, .func (.func 125) #[] #[.pointer (some ⟨B, 0, none⟩)]] w fun e w' => e = .returned (.bool (decide (∀ i, i < xs.length → thereOk nc (xs.getD i 0)))) ∧ w = w' := by
  obtain ⟨a, cap, rfl, h1, h2, h3⟩ := h
  have hm : xs.length ≤ maxLen := by omega
  unfold maxLen at hm
  have H3 := hide h3
  have HB := hide hB
  clear h3 h2 h1 hB
  go_enter Try.func87, Try.ntmps87
  go_wp2
  go_loop [9] (fun vi => ∃ k : Nat, k ≤ xs.length ∧ vi = .int .i64 k ∧ ∀ i, i < k → thereOk nc (xs.getD i 0)) (fun vi => xs.length - (intOf vi).toNat)
  case atStart => exact ⟨0, Nat.zero_le _, rfl, fun i hi => by omega⟩
  case round =>
    obtain ⟨k, hk, rfl, hall⟩ := hrel
    have HA := hide hall
    clear hall
    by_cases hlt : k < xs.length
    · rcases H3.out with h3 | ⟨b, off, rfl, hbs, hc⟩
      · subst h3; simp at hlt
      have hc1 := hc k hlt
      clear hc
      obtain ⟨z, hzz⟩ : ∃ z, z = xs.getD k 0 := ⟨_, rfl⟩
      rw [← hzz] at hc1
      have HZ := hide hzz
      have hlt' : (k : Int) < (xs.length : Int) := by omega
      clear hzz
      go_wp2_with fail
      refine (isThere_calls z B ac nc cc _ HB.out).mono ?_
      rintro e w1 ⟨rfl, rfl⟩
      by_cases h16 : thereOk nc z
      · rw [decide_eq_true h16]
        have H16 := hide h16
        clear h16
        go_wp2
        go_round
        case rel =>
          refine ⟨k + 1, by omega, by go_num, fun i hi => ?_⟩
          by_cases e : i = k
          · subst e; rw [← HZ.out]; exact H16.out
          · exact HA.out i (by omega)
        case measure => simp [intOf]; omega
      · rw [decide_eq_false h16]
        have H16 := hide h16
        clear h16
        go_wp2
        go_ret
        refine ⟨ret_bool ?_, rfl⟩
        symm
        exact decide_eq_false (fun h => H16.out (by rw [HZ.out]; exact h k hlt))
    · obtain rfl : k = xs.length := by omega
      go_wp2
      go_ret
      exact ⟨ret_bool (decide_eq_true HA.out).symm, rfl⟩

set_option maxRecDepth 100000 in
set_option maxHeartbeats 400000 in
theorem isUse_calls (v : Value) (xs : List Int) (B B2 : Nat) (ac : Option Addr) (nc cc : Nat) (w : World) (h : Rd w v xs) (hB : w.cell? ⟨B, 0, none⟩ = some (.slice ac nc cc)) (hB2 : w.cell? ⟨B2, 0, none⟩ = some (.func (.func 125) #[] #[.pointer (some ⟨B, 0, none⟩)])) :
    Calls Try.prog 126 #[v, .pointer (some ⟨B2, 0, none⟩)] w fun e w' => e = .returned (.bool (decide (useOk nc xs))) ∧ w = w' := by
  have R := hide h
  obtain ⟨a, cap, rfl, h1, h2, h3⟩ := h
  have hm : xs.length ≤ maxLen := by omega
  unfold maxLen at hm
  clear h3 h2 h1
  by_cases h80 : xs.length ≤ 80
  · have e : Hid (decide (∀ i, i < xs.length → thereOk nc (xs.getD i 0)) = decide (useOk nc xs)) := decide_eq_decide.2 ⟨fun h => ⟨h80, h⟩, fun h => h.2⟩
    have h80' : (xs.length : Int) ≤ 80 := by omega
    have HB := hide hB
    clear hB
    generalize decide (useOk nc xs) = y at e ⊢
    go_enter Try.func126, Try.ntmps126
    go_wp2_with fail
    refine (allThere_calls _ xs B ac nc cc _ R.out HB.out).mono ?_
    rintro e' w1 ⟨rfl, rfl⟩
    rw [e.out]
    go_wp2
    go_ret
    exact ⟨rfl, rfl⟩
  · rw [decide_eq_false (fun h => h80 h.1)]
    have h80' : ¬ (xs.length : Int) ≤ 80 := by omega
    have h80b : decide ((xs.length : Int) ≤ 80) = false := decide_eq_false h80'
    go_enter Try.func126, Try.ntmps126
    go_wp2
    go_ret
    exact ⟨rfl, rfl⟩

set_option maxRecDepth 100000 in
set_option maxHeartbeats 400000 in
theorem allUse_calls (v : Value) (U : List (List Int)) (B B2 : Nat) (ac : Option Addr) (nc cc : Nat) (w : World) (h : RdM w v U) (hB : w.cell? ⟨B, 0, none⟩ = some (.slice ac nc cc)) (hB2 : w.cell? ⟨B2, 0, none⟩ = some (.func (.func 125) #[] #[.pointer (some ⟨B, 0, none⟩)])) :
    Calls Try.prog 129 #[v, .func (.func 126) #[] #[.pointer (some ⟨B2, 0, none⟩)]] w fun e w' => e = .returned (.bool (decide (∀ i, i < U.length → useOk nc (U.getD i [])))) ∧ w = w' := by
  obtain ⟨a, cap, rfl, h1, h2, h3⟩ := h
  have hm : U.length ≤ maxLen := by omega
  unfold maxLen at hm
  have H3 := hide h3
  have HB := hide hB
  have HB2 := hide hB2
  clear h3 h2 h1 hB hB2
  go_enter Try.func129, Try.ntmps129
  go_wp2
  go_loop [9] (fun vi => ∃ k : Nat, k ≤ U.length ∧ vi = .int .i64 k ∧ ∀ i, i < k → useOk nc (U.getD i [])) (fun vi => U.length - (intOf vi).toNat)
  case atStart => exact ⟨0, Nat.zero_le _, rfl, fun i hi => by omega⟩
  case round =>
    obtain ⟨k, hk, rfl, hall⟩ := hrel
    have HA := hide hall
    clear hall
    by_cases hlt : k < U.length
    · rcases H3.out with h3 | ⟨b, off, rfl, hbs, hc⟩
      · subst h3; simp at hlt
      obtain ⟨u, hc1, hru⟩ := hc k hlt
      have RU := hide hru
      clear hc
      obtain ⟨z, hzz⟩ : ∃ z, z = U.getD k [] := ⟨_, rfl⟩
      rw [← hzz] at RU hru
      have HZ := hide hzz
      obtain ⟨au, cu, rfl, _⟩ := hru
      have hlt' : (k : Int) < (U.length : Int) := by omega
      clear hzz
      go_wp2_with fail
      refine (isUse_calls _ z B B2 ac nc cc _ RU.out HB.out HB2.out).mono ?_
      rintro e w1 ⟨rfl, rfl⟩
      by_cases h16 : useOk nc z
      · rw [decide_eq_true h16]
        have H16 := hide h16
        clear h16
        go_wp2
        go_round
        case rel =>
          refine ⟨k + 1, by omega, by go_num, fun i hi => ?_⟩
          by_cases e : i = k
          · subst e; rw [← HZ.out]; exact H16.out
          · exact HA.out i (by omega)
        case measure => simp [intOf]; omega
      · rw [decide_eq_false h16]
        have H16 := hide h16
        clear h16
        go_wp2
        go_ret
        refine ⟨ret_bool ?_, rfl⟩
        symm
        exact decide_eq_false (fun h => H16.out (by rw [HZ.out]; exact h k hlt))
    · obtain rfl : k = U.length := by omega
      go_wp2
      go_ret
      exact ⟨ret_bool (decide_eq_true HA.out).symm, rfl⟩

set_option maxRecDepth 100000 in
set_option maxHeartbeats 1600000 in
theorem isGoodRecipe_calls (vc vu : Value) (C : List ByteArray) (U : List (List Int)) (w : World) (hc : RdT w vc C) (hu : RdM w vu U) (hn : C.length ≤ 1048576) :
    Calls Try.prog 70 #[.agg #[vc, vu]] w fun e w' => e = .returned (.bool (decide (goodRec C U))) ∧ Below w.heap.size w w' := by
  have RC := hide hc
  have RU := hide hu
  obtain ⟨ac, cc, rfl, _, hcm, _, _⟩ := hc
  obtain ⟨au, cu, rfl, _, hum, _⟩ := hu
  have hlc : C.length ≤ maxLen := by omega
  have hlu : U.length ≤ maxLen := by omega
  unfold maxLen at hlc hlu
  clear hcm hum
  have F1 : Hid (Boxed2 ((w.alloc (.cells #[.slice ac C.length cc, .slice au U.length cu] 27)).alloc (.cells #[.func (.func 125) #[] #[.pointer (some ⟨w.heap.size, 0, none⟩)]] 79)) w.heap.size 27 (.slice ac C.length cc) (.slice au U.length cu)) := boxed2_alloc (boxed2_new w _ _ _) _
  have F2 : Hid (Boxed ((w.alloc (.cells #[.slice ac C.length cc, .slice au U.length cu] 27)).alloc (.cells #[.func (.func 125) #[] #[.pointer (some ⟨w.heap.size, 0, none⟩)]] 79)) (w.heap.size + 1) 79 (.func (.func 125) #[] #[.pointer (some ⟨w.heap.size, 0, none⟩)])) := by
    have := Boxed.new (w.alloc (.cells #[.slice ac C.length cc, .slice au U.length cu] 27)) 79 (.func (.func 125) #[] #[.pointer (some ⟨w.heap.size, 0, none⟩)])
    rwa [World.size_alloc] at this
  have B0 : Hid (Below w.heap.size w ((w.alloc (.cells #[.slice ac C.length cc, .slice au U.length cu] 27)).alloc (.cells #[.func (.func 125) #[] #[.pointer (some ⟨w.heap.size, 0, none⟩)]] 79))) := ((Below.refl _ w).alloc (Nat.le_refl _) _).alloc (by simp) _
  have hen : ∀ args w, (callFunc 127 args).run Try.prog w = .ok (.enter 127 args) w := enters_of Try.func127 (by kernel_rfl) rfl
  have CK := hide (fun W h => allTexts_calls 127 chunkOk isChunk_calls hen (.slice ac C.length cc) C W h)
  generalize hgr : decide (goodRec C U) = y
  have HY := hide hgr
  clear hgr hen
  by_cases h8 : U.length ≤ 8
  case neg =>
    obtain rfl : y = false := by rw [← HY.out]; exact decide_eq_false (fun h => h8 h.1)
    have u : ¬ (U.length : Int) ≤ 8 := by omega
    have ub : decide ((U.length : Int) ≤ 8) = false := decide_eq_false u
    go_enter Try.func70, Try.ntmps70
    go_wp2
    go_ret
    exact ⟨rfl, B0.out⟩
  have u8 : (U.length : Int) ≤ 8 := by omega
  by_cases h600 : C.length ≤ 600
  case neg =>
    obtain rfl : y = false := by rw [← HY.out]; exact decide_eq_false (fun h => h600 h.2.1)
    have u : ¬ (C.length : Int) ≤ 600 := by omega
    have ub : decide ((C.length : Int) ≤ 600) = false := decide_eq_false u
    go_enter Try.func70, Try.ntmps70
    go_wp2
    go_ret
    exact ⟨rfl, B0.out⟩
  have u6 : (C.length : Int) ≤ 600 := by omega
  go_enter Try.func70, Try.ntmps70
  go_wp2_with fail
  refine (CK.out _ (RC.out.below B0.out)).mono ?_
  rintro e w1 ⟨rfl, rfl⟩
  by_cases hck : ∀ i, i < C.length → chunkOk (C.getD i ⟨#[]⟩)
  case neg =>
    rw [decide_eq_false hck]
    obtain rfl : y = false := by rw [← HY.out]; exact decide_eq_false (fun h => hck h.2.2.1)
    go_wp2
    go_ret
    exact ⟨rfl, B0.out⟩
  rw [decide_eq_true hck]
  have HCK := hide hck
  clear hck
  have f10 := F1.out.c0
  have f11 := F1.out.c1
  have RC1 := hide (RC.out.below B0.out)
  have RU1 := hide (RU.out.below B0.out)
  have f20 := F2.out.cell
  have hsz : ((w.alloc (.cells #[.slice ac C.length cc, .slice au U.length cu] 27)).alloc (.cells #[.func (.func 125) #[] #[.pointer (some ⟨w.heap.size, 0, none⟩)]] 79)).heap.size = w.heap.size + 2 := by simp
  generalize (w.alloc (.cells #[.slice ac C.length cc, .slice au U.length cu] 27)).alloc (.cells #[.func (.func 125) #[] #[.pointer (some ⟨w.heap.size, 0, none⟩)]] 79) = w0 at F1 F2 B0 f10 f11 f20 RC1 RU1 hsz ⊢
  go_wp2_with fail
  refine (areUnlikeTexts_calls _ C _ RC1.out hn).mono ?_
  rintro e w2 ⟨rfl, b2⟩
  by_cases hun : unlike9 C
  case neg =>
    rw [decide_eq_false hun]
    obtain rfl : y = false := by rw [← HY.out]; exact decide_eq_false (fun h => hun h.2.2.2.1)
    have B2 := hide (B0.out.trans (b2.mono B0.out.size))
    clear b2
    go_wp2
    go_ret
    exact ⟨rfl, B2.out⟩
  rw [decide_eq_true hun]
  have HUN := hide hun
  have B2 := hide (B0.out.trans (b2.mono B0.out.size))
  have g10 : w2.cell? ⟨w.heap.size, 0, none⟩ = some (.slice ac C.length cc) := (b2.cell (p := ⟨w.heap.size, 0, none⟩) (by show w.heap.size < _; omega)).trans f10
  have g11 : w2.cell? ⟨w.heap.size, 1, none⟩ = some (.slice au U.length cu) := (b2.cell (p := ⟨w.heap.size, 1, none⟩) (by show w.heap.size < _; omega)).trans f11
  have g20 : w2.cell? ⟨w.heap.size + 1, 0, none⟩ = some (.func (.func 125) #[] #[.pointer (some ⟨w.heap.size, 0, none⟩)]) := (b2.cell (p := ⟨w.heap.size + 1, 0, none⟩) (by show w.heap.size + 1 < _; omega)).trans f20
  have RU2 := hide (RU1.out.below b2)
  have G := hide (And.intro g10 g20)
  have e5 : Hid (decide (∀ i, i < U.length → useOk C.length (U.getD i [])) = y) := by
    show _ = _
    rw [← HY.out]
    exact decide_eq_decide.2 ⟨fun h => ⟨h8, h600, HCK.out, HUN.out, h⟩, fun h => h.2.2.2.2⟩
  clear hun b2 f10 f11 f20 g20 RC1 RU1 F1 F2
  go_wp2_with fail
  refine (allUse_calls _ U w.heap.size (w.heap.size + 1) ac C.length cc _ RU2.out G.out.1 G.out.2).mono ?_
  rintro e w3 ⟨rfl, rfl⟩
  rw [e5.out]
  go_wp2
  go_ret
  exact ⟨rfl, B2.out⟩

def pick9 (C : List ByteArray) (xs : List Int) : List ByteArray := xs.map fun n => C.getD n.toNat ⟨#[]⟩
set_option maxRecDepth 100000 in
theorem chunkOf_calls (x : Int) (B : Nat) (vc : Value) (C : List ByteArray) (w : World) (hB : w.cell? ⟨B, 0, none⟩ = some vc) (hc : RdT w vc C) (h : thereOk C.length x) :
    Calls Try.prog 72 #[.int .i64 x, .pointer (some ⟨B, 0, none⟩)] w fun e w' => e = .returned (.string (C.getD x.toNat ⟨#[]⟩)) ∧ w = w' := by
  obtain ⟨n, rfl⟩ := Int.eq_ofNat_of_zero_le h.1
  obtain ⟨ac, cc, rfl, _, _, _, h3⟩ := hc
  have hn : n < C.length := by have := h.2; omega
  rcases h3 with h3 | ⟨b, off, rfl, hbs, hcs⟩
  · subst h3; simp at hn
  have hc1 := hcs n hn
  rw [Int.toNat_natCast]
  generalize C.getD n ⟨#[]⟩ = z at hc1 ⊢
  have hn' : (n : Int) < (C.length : Int) := by omega
  clear hcs h
  go_enter Try.func72, Try.ntmps72
  go_wp2
  go_ret
  exact ⟨rfl, rfl⟩
end Go.Proofs.Ythmijjcddjlebaa

namespace Go.Proofs.Ythmijjcddjlebaa
open Go.RowKit
set_option linter.unusedVariables false

theorem pick9_length (C : List ByteArray) (xs : List Int) : (pick9 C xs).length = xs.length := by unfold pick9; rw [List.length_map]
theorem pick9_getD (C : List ByteArray) (xs : List Int) (k : Nat) (h : k < xs.length) : (pick9 C xs).getD k ⟨#[]⟩ = C.getD (xs.getD k 0).toNat ⟨#[]⟩ := by
  unfold pick9
  rw [List.getD_eq_getElem?_getD, List.getElem?_map, List.getElem?_eq_getElem h, List.getD_eq_getElem?_getD (l := xs), List.getElem?_eq_getElem h]
  rfl

set_option maxRecDepth 100000 in
set_option maxHeartbeats 800000 in
theorem eachChunk_calls (v : Value) (xs : List Int) (B : Nat) (vc : Value) (C : List ByteArray) (w : World) (h : Rd w v xs) (hn : xs.length ≤ 1048576) (hBl : B < w.heap.size) (hB : w.cell? ⟨B, 0, none⟩ = some vc) (hc : RdT w vc C) (hth : ∀ i, i < xs.length → thereOk C.length (xs.getD i 0)) :
    Calls Try.prog 71 #[v, .func (.func 72) #[] #[.pointer (some ⟨B, 0, none⟩)]] w fun e w' => ∃ v', e = .returned v' ∧ OwnT w' w.heap.size v' (pick9 C xs) ∧ Below w.heap.size w w' := by
  obtain ⟨a, cap, rfl, h1, h2, h3⟩ := h
  have H3 := hide h3
  have HB := hide hB
  have HC := hide hc
  have HT := hide hth
  clear h3 hB hc hth h2 h1
  obtain ⟨ys, hys⟩ : ∃ ys, ys = pick9 C xs := ⟨_, rfl⟩
  have hyl : ys.length = xs.length := by rw [hys, pick9_length]
  have HG : Hid (∀ k, k < xs.length → ys.getD k ⟨#[]⟩ = C.getD (xs.getD k 0).toNat ⟨#[]⟩) := fun k hk => by rw [hys, pick9_getD C xs k hk]
  rw [← hys]
  clear hys
  have HYL := hide hyl
  go_enter Try.func71, Try.ntmps71
  clear hyl
  go_wp2_with (at_make; refine wpList_make_texts rfl _ _ rfl w.heap.size _ _ xs.length rfl rfl (by omega) (by omega) (by omega) (Nat.le_refl _) ?_)
  intro w0 hown0 hgrow0
  have E0 := hide hown0
  have G0 := hide hgrow0
  clear hown0 hgrow0
  go_wp2
  go_loopw [13] (fun vi wr => ∃ k : Nat, k ≤ xs.length ∧ vi = .int .i64 k ∧ wr.ownsRow w.heap.size 9 1 (.slice (some ⟨w.heap.size, 0, none⟩) xs.length xs.length) xs.length ((cpT ys k).map Value.string) ∧ Below w.heap.size w wr) (fun vi _ => xs.length - (intOf vi).toNat)
  case atStart =>
    refine ⟨0, Nat.zero_le _, rfl, ?_, (Below.refl _ _).grown G0.out (Nat.le_refl _) (fun k h => by cases h)⟩
    rw [cpT_zero, HYL.out]
    have := E0.out
    unfold OwnT at this
    rwa [List.length_replicate] at this
  case round =>
    obtain ⟨k, hk, rfl, hown, hb⟩ := hrel
    by_cases hlt : k < xs.length
    · rcases H3.out with h3 | ⟨b, off, rfl, hbs, hc⟩
      · subst h3; simp at hlt
      have hc1 : wr.cell? ⟨b, off + k, none⟩ = some (.int .i64 (xs.getD k 0)) := (hb.cell (by exact hbs)).trans (hc k hlt)
      have hc2 : wr.frozen? ⟨w.heap.size, k, none⟩ = false := hown.frozenAt k
      obtain ⟨old, hc3⟩ : ∃ old, wr.cell? ⟨w.heap.size, k, none⟩ = some old := by
        rw [hown.cellAt k (by omega)]
        have := cpT_length ys k (by rw [HYL.out]; exact hk)
        have := HYL.out
        exact ⟨_, List.getElem?_eq_getElem (by simp; omega)⟩
      have hst := hown.stored k (.string (C.getD (xs.getD k 0).toNat ⟨#[]⟩))
      have K := hide hst
      have CALL := hide (chunkOf_calls (xs.getD k 0) B vc C wr ((hb.cell (p := ⟨B, 0, none⟩) hBl).trans HB.out) (HC.out.below hb) (HT.out k hlt))
      have GK := hide (HG.out k hlt)
      have HBR := hide hb
      generalize C.getD (xs.getD k 0).toNat ⟨#[]⟩ = z at K CALL GK
      generalize xs.getD k 0 = x at hc1 CALL
      have hlt' : (k : Int) < (xs.length : Int) := by omega
      clear hst hc hown hb
      go_wp2_with fail
      refine CALL.out.mono ?_
      rintro e w1 ⟨rfl, rfl⟩
      go_wp2
      go_roundw
      case rel =>
        refine ⟨k + 1, by omega, by go_num, ?_, ?_⟩
        · have := K.out.1
          rw [← List.map_set, ← GK.out, cpT_step ys k (by rw [HYL.out]; exact hlt)] at this
          rw [← GK.out]
          simpa [hlt] using this
        · exact HBR.out.setCell (Nat.le_refl _) _
      case measure => simp [intOf]; omega
    · obtain rfl : k = xs.length := by omega
      go_wp2
      go_ret
      rw [← HYL.out, cpT_end] at hown
      rw [← HYL.out]
      exact ⟨_, rfl, hown, hb⟩

abbrev rebOk (C : List ByteArray) (U : List (List Int)) (k : Int) : Prop := goodRec C U ∧ 0 ≤ k ∧ k < (U.length : Int)
def rebR (C : List ByteArray) (U : List (List Int)) (k : Int) : ByteArray × Bool := if rebOk C U k then jchR (pick9 C (U.getD k.toNat [])) else (⟨#[]⟩, false)
/-- What is picked of good chunks is small. -/
theorem pick9_small {C : List ByteArray} {U : List (List Int)} (h : goodRec C U) (j : Nat) (hj : j < U.length) : (pick9 C (U.getD j [])).length ≤ 1048576 ∧ (∀ i, i < (pick9 C (U.getD j [])).length → ((pick9 C (U.getD j [])).getD i ⟨#[]⟩).size ≤ 1048576) ∧ ∀ t ∈ pick9 C (U.getD j []), t.size ≤ maxLen := by
  obtain ⟨h1, h2⟩ := h.2.2.2.2 j hj
  have hsz : ∀ i, (C.getD i ⟨#[]⟩).size ≤ 20 := by
    intro i
    by_cases hi : i < C.length
    · exact (h.2.2.1 i hi).2
    · rw [List.getD_eq_getElem?_getD, List.getElem?_eq_none (by omega)]; exact Nat.zero_le _
  refine ⟨by rw [pick9_length]; omega, fun i hi => ?_, fun t ht => ?_⟩
  · rw [pick9_length] at hi
    rw [pick9_getD _ _ i hi]
    have := hsz ((U.getD j []).getD i 0).toNat
    omega
  · unfold pick9 at ht
    obtain ⟨n, _, rfl⟩ := List.mem_map.1 ht
    have := hsz n.toNat
    unfold maxLen
    omega

set_option maxRecDepth 100000 in
set_option maxHeartbeats 1600000 in
theorem rebuildText_calls (vc vu : Value) (C : List ByteArray) (U : List (List Int)) (k : Int) (w : World) (hc : RdT w vc C) (hu : RdM w vu U) (hn : C.length ≤ 1048576) :
    Calls Try.prog 19 #[.agg #[vc, vu], .int .i64 k] w fun e w' => e = .returned (.tuple #[.string (rebR C U k).1, .bool (rebR C U k).2]) ∧ Below w.heap.size w w' := by
  have RC := hide hc
  have RU := hide hu
  obtain ⟨ac, cc, rfl, _, hcm, _, _⟩ := hc
  obtain ⟨au, cu, rfl, _, hum, _⟩ := hu
  have hlu : U.length ≤ maxLen := by omega
  unfold maxLen at hlu
  clear hcm hum
  have F1 : Hid (Boxed2 (w.alloc (.cells #[.slice ac C.length cc, .slice au U.length cu] 27)) w.heap.size 27 (.slice ac C.length cc) (.slice au U.length cu)) := boxed2_new w _ _ _
  have B0 : Hid (Below w.heap.size w (w.alloc (.cells #[.slice ac C.length cc, .slice au U.length cu] 27))) := (Below.refl _ w).alloc (Nat.le_refl _) _
  have GC := hide (fun W hC hU => isGoodRecipe_calls (.slice ac C.length cc) (.slice au U.length cu) C U W hC hU hn)
  have RC0 := hide (RC.out.below B0.out)
  have RU0 := hide (RU.out.below B0.out)
  have hsz : (w.alloc (.cells #[.slice ac C.length cc, .slice au U.length cu] 27)).heap.size = w.heap.size + 1 := by simp
  by_cases hg : goodRec C U
  case neg =>
    rw [show rebR C U k = (⟨#[]⟩, false) from if_neg (fun h => hg h.1)]
    rw [decide_eq_false hg] at GC
    go_enter Try.func19, Try.ntmps19
    go_wp2_with fail
    refine (GC.out _ RC0.out RU0.out).mono ?_
    rintro e w1 ⟨rfl, b1⟩
    have S1 := hide (B0.out.trans (b1.mono B0.out.size))
    clear b1
    go_wp2
    go_ret2
    exact ⟨rfl, S1.out⟩
  rw [decide_eq_true hg] at GC
  by_cases hk0 : 0 ≤ k
  case neg =>
    rw [show rebR C U k = (⟨#[]⟩, false) from if_neg (fun h => hk0 h.2.1)]
    have hk0' : k < 0 := by omega
    go_enter Try.func19, Try.ntmps19
    go_wp2_with fail
    refine (GC.out _ RC0.out RU0.out).mono ?_
    rintro e w1 ⟨rfl, b1⟩
    have S1 := hide (B0.out.trans (b1.mono B0.out.size))
    clear b1
    go_wp2
    go_ret2
    exact ⟨rfl, S1.out⟩
  have hk0' : ¬ k < 0 := by omega
  have hk0b : decide (k < 0) = false := decide_eq_false hk0'
  go_enter Try.func19, Try.ntmps19
  go_wp2_with fail
  refine (GC.out _ RC0.out RU0.out).mono ?_
  rintro e w1 ⟨rfl, b1⟩
  have S1 := hide (B0.out.trans (b1.mono B0.out.size))
  have g10 : w1.cell? ⟨w.heap.size, 0, none⟩ = some (.slice ac C.length cc) := (b1.cell (p := ⟨w.heap.size, 0, none⟩) (by show w.heap.size < _; omega)).trans F1.out.c0
  have g11 : w1.cell? ⟨w.heap.size, 1, none⟩ = some (.slice au U.length cu) := (b1.cell (p := ⟨w.heap.size, 1, none⟩) (by show w.heap.size < _; omega)).trans F1.out.c1
  have hl1 : w.heap.size < w1.heap.size := by have := b1.size; omega
  have RC1 := hide (RC0.out.below b1)
  have RU1 := hide (RU0.out.below b1)
  clear b1 RC0 RU0 F1
  by_cases hk1 : k < (U.length : Int)
  case neg =>
    have ER := hide (show rebR C U k = (⟨#[]⟩, false) from if_neg (fun h => hk1 h.2.2))
    have hk1' : (U.length : Int) ≤ k := by omega
    go_wp2
    go_ret2
    exact ⟨by rw [ER.out]; rfl, S1.out⟩
  have hk1' : ¬ (U.length : Int) ≤ k := by omega
  have hk1b : decide ((U.length : Int) ≤ k) = false := decide_eq_false hk1'
  have ER := hide (show rebR C U k = jchR (pick9 C (U.getD k.toNat [])) from if_pos ⟨hg, hk0, hk1⟩)
  obtain ⟨j, rfl⟩ := Int.eq_ofNat_of_zero_le hk0
  rw [Int.toNat_natCast] at ER
  have hj : j < U.length := by omega
  obtain ⟨p1, p2, p3⟩ := pick9_small hg j hj
  obtain ⟨bu, ou, u, hau, hcu, hru⟩ := RU1.out.row j hj
  subst hau
  have US := hide (hg.2.2.2.2 j hj)
  have RX := hide hru
  generalize U.getD j [] = xs at ER p1 p2 p3 US RX hru
  have hx8 := US.out.1
  obtain ⟨ax, cx, rfl, _⟩ := hru
  have P2 := hide p2
  have P3 := hide p3
  have PL := hide (pick9_length C xs)
  have G10 := hide g10
  clear p2 p3 hg g10
  go_wp2_with fail
  refine (eachChunk_calls _ xs w.heap.size _ C _ RX.out (by omega) hl1 G10.out RC1.out US.out.2).mono ?_
  rintro e w2 ⟨v2, rfl, o2, b2⟩
  have S2 := hide (S1.out.trans (b2.mono S1.out.size))
  have R2 := hide (o2.rd P3.out)
  obtain ⟨a2, c2, rfl⟩ : ∃ a cap, v2 = .slice a (pick9 C xs).length cap := by
    rcases o2.2 with ⟨rfl, h0⟩ | ⟨g, cap, cur, rfl, _⟩
    · exact ⟨none, 0, by rw [h0]⟩
    · exact ⟨_, cap, rfl⟩
  clear o2 b2
  go_wp2_with fail
  refine (joinChunks_calls _ (pick9 C xs) _ R2.out p1 P2.out).mono ?_
  rintro e w3 ⟨rfl, b3⟩
  have S3 := hide (S2.out.trans (b3.mono S2.out.size))
  clear b3
  go_wp2
  go_ret2
  exact ⟨by rw [ER.out]; rfl, S3.out⟩
end Go.Proofs.Ythmijjcddjlebaa

/-
  Whether a recipe is good, by the program: chunks, unlike ones by a map, uses by closures, call by call. Each says what it asks.
-/
import Derived.Test.YthmijjcddjlebaaJch
import Derived.Test.YthmijjcddjlebaaMatC
import Derived.Maps.Own
import Derived.Maps.OwnSet
import Derived.Maps.Views
import Derived.Carry
namespace Go.Proofs.Ythmijjcddjlebaa
open Go.RowKit
set_option linter.unusedVariables false

abbrev chunkOk (t : ByteArray) : Prop := t ≠ ⟨#[]⟩ ∧ t.size ≤ 20
theorem nonempty_list {z : ByteArray} (h : z ≠ ⟨#[]⟩) : ¬ z.toList = [] := by
  intro h'
  apply h
  rw [ByteArray.toList_eq] at h'
  have : z.data = #[] := by apply Array.ext'; simpa using h'
  cases z
  simp at this
  rw [this]

set_option maxRecDepth 100000 in
theorem isChunk_calls (t : ByteArray) (w : World) (ht : t.size ≤ maxLen) : Calls Try.prog 127 #[.string t] w fun e w' => e = .returned (.bool (decide (chunkOk t))) ∧ w = w' := by
  unfold maxLen at ht
  by_cases h0 : t = ⟨#[]⟩
  · have e : decide (chunkOk t) = false := decide_eq_false (fun h => h.1 h0)
    rw [e]
    subst h0
    go_enter Try.func127, Try.ntmps127
    go_wp2
    go_ret
    exact ⟨rfl, rfl⟩
  · have e : decide (chunkOk t) = decide ((t.size : Int) ≤ 20) := decide_eq_decide.2 ⟨fun h => by have := h.2; omega, fun h => ⟨h0, by omega⟩⟩
    have h1 := nonempty_list h0
    have h2 : (t.toList == []) = false := by simpa using h1
    rw [e]
    clear e h0
    go_enter Try.func127, Try.ntmps127
    go_wp2
    go_ret
    exact ⟨rfl, rfl⟩

set_option maxRecDepth 100000 in
set_option maxHeartbeats 400000 in
theorem allTexts_calls (f : Nat) (p : ByteArray → Prop) [DecidablePred p] (hf : ∀ (t : ByteArray) (w : World), t.size ≤ maxLen → Calls Try.prog f #[.string t] w fun e w' => e = .returned (.bool (decide (p t))) ∧ w = w')
    (hen : ∀ args w, (callFunc f args).run Try.prog w = .ok (.enter f args) w) (v : Value) (xs : List ByteArray) (w : World) (h : RdT w v xs) :
    Calls Try.prog 61 #[v, .func (.func f) #[] #[]] w fun e w' => e = .returned (.bool (decide (∀ i, i < xs.length → p (xs.getD i ⟨#[]⟩)))) ∧ w = w' := by
  obtain ⟨a, cap, rfl, h1, h2, h4, h3⟩ := h
  have hm : xs.length ≤ maxLen := by omega
  unfold maxLen at hm
  have H3 := hide h3
  have H4 := hide h4
  have HF := hide hf
  clear h3 h4 h2 h1 hf
  go_enter Try.func61, Try.ntmps61
  go_wp2
  go_loop [9] (fun vi => ∃ k : Nat, k ≤ xs.length ∧ vi = .int .i64 k ∧ ∀ i, i < k → p (xs.getD i ⟨#[]⟩)) (fun vi => xs.length - (intOf vi).toNat)
  case atStart => exact ⟨0, Nat.zero_le _, rfl, fun i hi => by omega⟩
  case round =>
    obtain ⟨k, hk, rfl, hall⟩ := hrel
    have HA := hide hall
    clear hall
    by_cases hlt : k < xs.length
    · rcases H3.out with h3 | ⟨b, off, rfl, hbs, hc⟩
      · subst h3; simp at hlt
      have hc1 := hc k hlt
      have hz : (xs.getD k ⟨#[]⟩).size ≤ maxLen := by
        apply H4.out
        rw [List.getD_eq_getElem?_getD, List.getElem?_eq_getElem hlt]
        exact List.getElem_mem hlt
      clear hc
      obtain ⟨z, hzz⟩ : ∃ z, z = xs.getD k ⟨#[]⟩ := ⟨_, rfl⟩
      rw [← hzz] at hc1 hz
      have HZ := hide hzz
      have hlt' : (k : Int) < (xs.length : Int) := by omega
      clear hzz
      go_wp2_with fail
      refine (HF.out z _ hz).mono ?_
      rintro e w1 ⟨rfl, rfl⟩
      by_cases h16 : p z
      · rw [decide_eq_true h16]
        have H16 := hide h16
        clear h16
        go_wp2
        go_round
        case rel =>
          refine ⟨k + 1, by omega, by go_num, fun i hi => ?_⟩
          by_cases e : i = k
          · subst e; rw [← HZ.out]; exact H16.out
          · exact HA.out i (by omega)
        case measure => simp [intOf]; omega
      · rw [decide_eq_false h16]
        have H16 := hide h16
        clear h16
        go_wp2
        go_ret
        refine ⟨ret_bool ?_, rfl⟩
        symm
        exact decide_eq_false (fun h => H16.out (by rw [HZ.out]; exact h k hlt))
    · obtain rfl : k = xs.length := by omega
      go_wp2
      go_ret
      exact ⟨ret_bool (decide_eq_true HA.out).symm, rfl⟩

/-! Unlike texts, by a map. -/
abbrev unlike9 (xs : List ByteArray) : Prop := ∀ j, j < xs.length → ∀ i, i < j → xs.getD i ⟨#[]⟩ ≠ xs.getD j ⟨#[]⟩

def klit (t : ByteArray) : Lit := .string t.data.toList
theorem klit_inj {s t : ByteArray} (h : klit s = klit t) : s = t := by
  unfold klit at h
  injection h with h
  apply ByteArray.ext
  apply Array.ext'
  exact h
theorem klit_key (t : ByteArray) : WideAt.IsKeyLit (klit t) := trivial
/-- What a map of the first k texts is. -/
structure Seen (xs : List ByteArray) (k : Nat) (D : DataW Unit) : Prop where
  tidy : Maps.Tidy D
  has : ∀ t, Maps.has D (klit t) = true ↔ ∃ i, i < k ∧ xs.getD i ⟨#[]⟩ = t
  le : Maps.size D ≤ k
  eq : Maps.size D = k ↔ ∀ i j, i < j → j < k → xs.getD i ⟨#[]⟩ ≠ xs.getD j ⟨#[]⟩
theorem seen_zero (xs : List ByteArray) : Seen xs 0 (.map []) :=
  ⟨Maps.tidy_empty, fun t => ⟨fun h => by simp [Maps.has] at h, fun ⟨i, hi, _⟩ => by omega⟩, Nat.le_refl _, ⟨fun _ i j h1 h2 => by omega, fun _ => rfl⟩⟩
theorem Seen.step {xs : List ByteArray} {k : Nat} {D : DataW Unit} (h : Seen xs k D) (d : DataW Unit) : Seen xs (k + 1) (D.put (klit (xs.getD k ⟨#[]⟩)) d) := by
  have hsz := Maps.size_put (k := klit (xs.getD k ⟨#[]⟩)) h.tidy d
  have hle := h.le
  refine ⟨h.tidy.put (klit_key _) d, fun t => ?_, ?_, ?_⟩
  · by_cases e : t = xs.getD k ⟨#[]⟩
    · subst e
      rw [Maps.has_put_same h.tidy.isMap (klit_key _)]
      exact ⟨fun _ => ⟨k, by omega, rfl⟩, fun _ => rfl⟩
    · rw [Maps.has_put_other (fun e' => e (klit_inj e')), h.has]
      constructor
      · rintro ⟨i, hi, hx⟩; exact ⟨i, by omega, hx⟩
      · rintro ⟨i, hi, hx⟩
        refine ⟨i, ?_, hx⟩
        rcases Nat.lt_succ_iff_lt_or_eq.1 hi with h' | h'
        · exact h'
        · subst h'; exact absurd hx.symm e
  · rw [hsz]; split <;> omega
  · cases hh : Maps.has D (klit (xs.getD k ⟨#[]⟩))
    · rw [hsz, hh]
      simp only [Bool.false_eq_true, if_false]
      constructor
      · intro e i j hij hj
        have e' : Maps.size D = k := by omega
        rcases Nat.lt_succ_iff_lt_or_eq.1 hj with h' | h'
        · exact h.eq.1 e' i j hij h'
        · subst h'
          intro he
          have := (h.has (xs.getD j ⟨#[]⟩)).2 ⟨i, hij, he⟩
          rw [hh] at this; cases this
      · intro hu
        have := h.eq.2 (fun i j hij hj => hu i j hij (by omega))
        omega
    · rw [hsz, hh]
      simp only [if_true]
      constructor
      · intro e; omega
      · intro hu
        obtain ⟨i, hi, hx⟩ := (h.has _).1 hh
        exact absurd hx (hu i k hi (by omega))

set_option maxRecDepth 100000 in
set_option maxHeartbeats 800000 in
theorem areUnlikeTexts_calls (v : Value) (xs : List ByteArray) (w : World) (h : RdT w v xs) (hn : xs.length ≤ 1048576) :
    Calls Try.prog 128 #[v] w fun e w' => e = .returned (.bool (decide (unlike9 xs))) ∧ Below w.heap.size w w' := by
  obtain ⟨a, cap, rfl, h1, h2, h4, h3⟩ := h
  have H3 := hide h3
  have H4 := hide h4
  have hmm := @run_makeMap Try.prog
  have OM0 := hide (World.ownsMap_made w Try.prog 9 (plainElem (H := Unit) Try.prog 3))
  have B0 : Hid (Below w.heap.size w (w.alloc (.map #[] 0))) := (Below.refl _ w).alloc (Nat.le_refl _) _
  clear h3 h4 h2 h1
  go_enter Try.func128, Try.ntmps128
  go_wp2
  go_loopw [9] (fun vi wr => ∃ (k : Nat) (D : DataW Unit), k ≤ xs.length ∧ vi = .int .i64 k ∧ wr.ownsMap Try.prog 9 (plainElem (H := Unit) Try.prog 3) w.heap.size k D ∧ Seen xs k D ∧ Below w.heap.size w wr) (fun vi _ => xs.length - (intOf vi).toNat)
  case atStart => exact ⟨0, .map [], Nat.zero_le _, rfl, OM0.out, seen_zero xs, B0.out⟩
  case round =>
    obtain ⟨k, D, hk, rfl, om, sn, hb⟩ := hrel
    by_cases hlt : k < xs.length
    · rcases H3.out with h3 | ⟨b, off, rfl, hbs, hc⟩
      · subst h3; simp at hlt
      have hc1 : wr.cell? ⟨b, off + k, none⟩ = some (.string (xs.getD k ⟨#[]⟩)) := (hb.cell (p := ⟨b, off + k, none⟩) hbs).trans (hc k hlt)
      have hz : (xs.getD k ⟨#[]⟩).size ≤ maxLen := by
        apply H4.out
        rw [List.getD_eq_getElem?_getD, List.getElem?_eq_getElem hlt]
        exact List.getElem_mem hlt
      have ST := hide (sn.step (.lit (.int .i64 (k : Int))))
      have OM := hide om
      have HB := hide hb
      have hkey : keyOf Try.prog 9 (.string (xs.getD k ⟨#[]⟩)) = some (klit (xs.getD k ⟨#[]⟩)) := WideMaps.keyOf_string_mk Try.underlying9 hz
      have HK := hide hkey
      generalize xs.getD k ⟨#[]⟩ = z at hc1 hz ST HK
      have hlt' : (k : Int) < (xs.length : Int) := by omega
      clear hc hb om sn hmm hkey
      go_wp2_with (at_mapUpdate; refine wpList_mapUpdate_own _ rfl _ _ _ 84 rfl 9 3 (Maps.string_keyed Try.underlying9) Try.underlying84 (plainElem (H := Unit) Try.prog 3) w.heap.size k D rfl OM.out (by unfold maxLen; omega) _ _ (klit z) rfl rfl HK.out (.lit (.int .i64 (k : Int))) [] (plainElem_int Try.underlying3 (by simp [Lit.wf, IntKind.min, IntKind.max, IntKind.signed, IntKind.bits]; omega)) ?_)
      intro w1 om1 g1
      have B1 := hide (HB.out.grown g1 HB.out.size (fun j e => by cases e; exact Nat.le_refl _))
      have OM1 := hide om1
      clear om1 g1
      go_wp2
      go_roundw
      case rel => exact ⟨k + 1, _, by omega, by go_num, OM1.out, ST.out, B1.out⟩
      case measure => simp [intOf]; omega
    · obtain rfl : k = xs.length := by omega
      have OM := hide om
      have HB := hide hb
      have hle := sn.le
      have EQ := hide sn.eq
      have hl := fun ty => World.ownsMap.len om Try.underlying84 ty
      generalize Maps.size D = sz at hle EQ hl
      clear om hb hmm
      have er : decide (unlike9 xs) = ((sz : Int) == (xs.length : Int)) := by
        rw [Bool.eq_iff_iff, decide_eq_true_iff]
        constructor
        · intro hu
          have := EQ.out.2 (fun i j hij hj => hu j hj i hij)
          simp [this]
        · intro he j hj i hij
          have he' : (sz : Int) = (xs.length : Int) := by simpa using he
          have : sz = xs.length := by omega
          exact EQ.out.1 this i j hij hj
      have ER := hide er
      clear er
      go_wp2
      go_ret
      exact ⟨ret_bool ER.out.symm, HB.out⟩
end Go.Proofs.Ythmijjcddjlebaa

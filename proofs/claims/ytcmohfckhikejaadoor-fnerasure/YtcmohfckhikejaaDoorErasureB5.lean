/-
  Any rows of the code, as many as there are data, can be solved (Cauchy): plain mathematics. No call is walked here. Rising numbers below an end, and how many pieces may be lost: the program's functions and its model's, call by call. No condition. Rows taken out of a matrix by their numbers: the model's function, in one call. The contract says what it asks. What is not lost, and rows by their places: the program's functions, call by call. Each contract says what it asks. Pieces held against pieces: the program's arrays and its model's lists, call by call. Each contract says what it asks. How many pieces are unlike: the program's function and its model's, call by call. Each contract says what it asks. How many rows are unlike, as the model tells it, call by call. Each contract says what it asks.
-/
import Derived.Test.YtcmohfckhikejaaDoorErasureB4
import Derived.Test.YtcmohfckhikejaaDoorErasureB3
import Derived.Test.YtcmohfckhikejaaDoorErasureB1
import Derived.Deep.WholeRow
import Derived.ChangeKeysEq
namespace Go.Proofs.YtcmohfckhikejaaDoor
open Go.RowKit
namespace Gf

/-- The numbers below n that p tells. -/
def those (p : Nat → Bool) (n : Nat) : List Nat := (List.range n).filter p
theorem those_succ (p : Nat → Bool) (n : Nat) : those p (n + 1) = those p n ++ (if p n then [n] else []) := by
  unfold those
  rw [List.range_succ, List.filter_append]
  cases h : p n <;> simp [h]
theorem those_mem {p : Nat → Bool} {n k : Nat} : k ∈ those p n ↔ k < n ∧ p k = true := by simp [those]
theorem those_not (p : Nat → Bool) (n : Nat) : (those p n).length + (those (fun k => !p k) n).length = n := by
  induction n with
  | zero => rfl
  | succ n ih =>
    rw [those_succ, those_succ]
    cases p n <;> simp <;> omega
theorem those_prefix (p : Nat → Bool) (m : Nat) : ∀ d, ∃ r, those p (m + d) = those p m ++ r := by
  intro d
  induction d with
  | zero => exact ⟨[], by simp⟩
  | succ d ih =>
    obtain ⟨r, hr⟩ := ih
    exact ⟨r ++ (if p (m + d) then [m + d] else []), by rw [← Nat.add_assoc, those_succ, hr, List.append_assoc]⟩
theorem those_getD {p : Nat → Bool} {m n : Nat} (h : m < n) (hp : p m = true) : (those p n).getD (those p m).length 0 = m := by
  obtain ⟨r, hr⟩ := those_prefix p (m + 1) (n - (m + 1))
  rw [show m + 1 + (n - (m + 1)) = n by omega] at hr
  rw [hr, those_succ, hp]
  simp
theorem those_lt {p : Nat → Bool} {n : Nat} (h : 0 < n) (t : Nat) : (those p n).getD t 0 < n := by
  rw [List.getD_eq_getElem?_getD]
  cases e : (those p n)[t]? with
  | none => exact h
  | some z => exact (those_mem.1 (List.mem_of_getElem? e)).1
theorem those_at {p : Nat → Bool} {n t : Nat} (h : t < (those p n).length) : (those p n).getD t 0 < n ∧ p ((those p n).getD t 0) = true := by
  rw [List.getD_eq_getElem?_getD, List.getElem?_eq_getElem h, Option.getD_some]
  exact those_mem.1 (List.getElem_mem h)
theorem those_inj {p : Nat → Bool} {n s t : Nat} (hs : s < (those p n).length) (ht : t < (those p n).length) (h : s ≠ t) : (those p n).getD s 0 ≠ (those p n).getD t 0 := by
  have hp : (those p n).Pairwise (· < ·) := List.Pairwise.filter _ List.pairwise_lt_range
  rw [List.pairwise_iff_getElem] at hp
  rw [List.getD_eq_getElem?_getD, List.getElem?_eq_getElem hs, List.getD_eq_getElem?_getD, List.getElem?_eq_getElem ht, Option.getD_some, Option.getD_some]
  rcases Nat.lt_or_gt_of_ne h with hl | hl
  · have := hp s t hs ht hl; omega
  · have := hp t s ht hs hl; omega
theorem those_find {p : Nat → Bool} {n k : Nat} (hk : k < n) (hp : p k = true) : ∃ t, t < (those p n).length ∧ (those p n).getD t 0 = k := by
  obtain ⟨t, ht, e⟩ := List.getElem_of_mem (those_mem.2 ⟨hk, hp⟩)
  exact ⟨t, ht, by rw [List.getD_eq_getElem?_getD, List.getElem?_eq_getElem ht]; exact e⟩
theorem those_add (p : Nat → Bool) (a b : Nat) : those p (a + b) = those p a ++ (those (fun i => p (a + i)) b).map (a + ·) := by
  induction b with
  | zero => simp [those]
  | succ b ih =>
    rw [← Nat.add_assoc, those_succ, ih, those_succ, List.map_append, List.append_assoc]
    congr 2
    cases p (a + b) <;> rfl
/-- The sum over all columns is the sum over those that are not struck, where the struck ones' numbers are 0. -/
theorem dot_those {r z : List Nat} {x Q D : Nat} {p : Nat → Bool} (hz : AllLt z) (hr : ∀ j, j < D → r.getD j 0 = inv (x ^^^ (Q + j))) (h0 : ∀ j, j < D → p j = false → z.getD j 0 = 0) :
    ∀ m, m ≤ D → dotTo r z m = cs (fun t => z.getD ((those p D).getD t 0) 0) (fun t => Q + (those p D).getD t 0) x (those p m).length := by
  intro m
  induction m with
  | zero => intro _; rfl
  | succ m ih =>
    intro hm
    rw [dotTo, ih (by omega), those_succ]
    cases h : p m with
    | false =>
      rw [h0 m (by omega) h, mul_zero, Nat.xor_zero]
      simp
    | true =>
      rw [if_pos rfl, List.length_append, List.length_singleton, cs, those_getD (by omega) h, hr m (by omega), mul_comm _ _ (inv_lt _) (hz m)]
/-- Any rows of a code, as many as data, take no column but noughts to noughts. -/
theorem code_kern {D Q : Nat} {p : Nat → Bool} (hD : 0 < D) (hDQ : D + Q ≤ 16) (hn : (those p (D + Q)).length = D) (z : List Nat) (hz : AllLt z)
    (h : ∀ i, i < D → dotTo ((selM (codeN D Q) (those p (D + Q))).getD i []) z D = 0) : ∀ j, j < D → z.getD j 0 = 0 := by
  have hrow : ∀ k, k < D + Q → p k = true → dotTo ((codeN D Q).getD k []) z D = 0 := by
    intro k hk hp
    obtain ⟨t, ht, e⟩ := those_find hk hp
    have := h t (by omega)
    rw [selM_get _ _ _ ht, e] at this
    exact this
  have hlow : ∀ j, j < D → p j = true → z.getD j 0 = 0 := by
    intro j hj hp
    have := hrow j (by omega) hp
    rw [code_low hj, dot_unit hz hj, if_pos hj] at this
    exact this
  have hlen : (those (fun k => !p k) D).length = (those (fun i => p (D + i)) Q).length := by
    have h1 := those_not p D
    rw [those_add, List.length_append, List.length_map] at hn
    omega
  by_cases hQ : Q = 0
  · intro j hj
    subst hQ
    cases hp : p j with
    | true => exact hlow j hj hp
    | false =>
      have : (those (fun k => !p k) D).length = 0 := by rw [hlen]; rfl
      obtain ⟨t, ht, _⟩ := those_find (p := fun k => !p k) hj (by simp [hp])
      omega
  have key := cauchy_zero (those (fun k => !p k) D).length (fun i => (those (fun i => p (D + i)) Q).getD i 0) (fun t => Q + (those (fun k => !p k) D).getD t 0) (fun t => z.getD ((those (fun k => !p k) D).getD t 0) 0)
    (fun i => by have := those_lt (p := fun i => p (D + i)) (n := Q) (by omega) i; show _ < 256; omega)
    (fun j => by have := those_lt (p := fun k => !p k) (n := D) hD j; show _ < 256; omega)
    (fun j => hz _)
    (fun i j hi hj e => those_inj (by rw [← hlen]; exact hi) (by rw [← hlen]; exact hj) e)
    (fun i j hi hj e => by have := those_inj (p := fun k => !p k) (n := D) hi hj e; show _ ≠ _; omega)
    (fun i j _ _ => by have := those_lt (p := fun i => p (D + i)) (n := Q) (by omega) i; show _ ≠ _; omega)
    (fun i hi => by
      obtain ⟨h1, h2⟩ := those_at (p := fun i => p (D + i)) (n := Q) (t := i) (by rw [← hlen]; exact hi)
      have h3 := hrow _ (by omega) h2
      rw [dot_those (x := (those (fun i => p (D + i)) Q).getD i 0) (Q := Q) (p := fun k => !p k) hz (fun j hj => by rw [code_high (by omega) (by omega) hj, Nat.add_sub_cancel_left]) (fun j hj hp => hlow j hj (by simpa using hp)) D (Nat.le_refl _)] at h3
      exact h3)
  intro j hj
  cases hp : p j with
  | true => exact hlow j hj hp
  | false =>
    obtain ⟨t, ht, e⟩ := those_find (p := fun k => !p k) hj (by simp [hp])
    have := key t ht
    simp only [e] at this
    exact this
theorem code_inv {D Q : Nat} {p : Nat → Bool} (hD : 0 < D) (hDQ : D + Q ≤ 16) (hn : (those p (D + Q)).length = D) : Sh (selM (codeN D Q) (those p (D + Q))) D D ∧ (solN (selM (codeN D Q) (those p (D + Q))) (identN D)).2 = true := by
  have hs : Sh (selM (codeN D Q) (those p (D + Q))) D D := by
    have := sh_sel (sh_code D Q) (f := those p (D + Q)) (fun k hk => (those_mem.1 hk).1)
    rw [hn] at this
    exact this
  exact ⟨hs, solN_ok hs (sh_ident D) fun z _ hz h => code_kern hD hDQ hn z hz h⟩
/-- The first ones of those that are told. -/
theorem those_take (q : Nat → Bool) (D n : Nat) : (those q n).take D = those (fun k => q k && decide ((those q k).length < D)) n := by
  induction n with
  | zero => simp [those]
  | succ n ih =>
    rw [those_succ, those_succ, ← ih]
    cases h : q n with
    | false => simp
    | true =>
      by_cases hl : (those q n).length < D
      · rw [if_pos rfl, List.take_of_length_le (by simp; omega), List.take_of_length_le (by omega)]
        simp [hl]
      · rw [if_pos rfl, List.take_append_of_le_length (by omega)]
        simp [hl]
end Gf
end Go.Proofs.YtcmohfckhikejaaDoor

namespace Go.Proofs.YtcmohfckhikejaaDoor
open Go.RowKit

/-- The number at place i is at least 0, below the end, and greater than the one ahead of it. -/
def risAt (xs : List Int) (e : Int) (i : Nat) : Bool := decide (0 ≤ xs.getD i 0 ∧ xs.getD i 0 < e ∧ (i = 0 ∨ xs.getD (i - 1) 0 < xs.getD i 0))
def rises (xs : List Int) (e : Int) : Bool := (List.range xs.length).all (risAt xs e)
theorem rises_yes {xs : List Int} {e : Int} (h : ∀ i, i < xs.length → risAt xs e i = true) : rises xs e = true := by
  rw [rises, List.all_eq_true]
  intro i hi
  exact h i (List.mem_range.1 hi)
theorem rises_at {xs : List Int} {e : Int} (h : rises xs e = true) (i : Nat) (hi : i < xs.length) : risAt xs e i = true := List.all_eq_true.1 h i (List.mem_range.2 hi)
theorem rises_no {xs : List Int} {e : Int} {k : Nat} (hk : k < xs.length) (h : risAt xs e k = false) : rises xs e = false := by
  cases hh : rises xs e with
  | false => rfl
  | true => rw [rises_at hh k hk] at h; cases h

set_option maxRecDepth 100000 in
set_option maxHeartbeats 800000 in
theorem areRising_calls (v : Value) (xs : List Int) (en : Int) (w : World) (h : Rd w v xs) (h0 : 0 ≤ en) (h1 : en ≤ 1048576) :
    Calls Tryd.prog 48 #[v, .int .i64 en] w fun e w' => e = .returned (.bool (rises xs en)) ∧ w = w' := by
  have R := hide h
  obtain ⟨a, cap, rfl, q1, q2, q3⟩ := h
  have hm : xs.length ≤ maxLen := by omega
  unfold maxLen at hm
  clear q1 q2 q3
  go_enter Tryd.func48, Tryd.ntmps48
  go_wp2
  go_loop [5, 10] (fun vl vi => ∃ (k : Nat) (l : Int), k ≤ xs.length ∧ vi = .int .i64 k ∧ vl = .int .i64 l ∧ 0 ≤ l ∧ l ≤ 1048576 ∧ (k = 0 → l = 0) ∧ (0 < k → l = xs.getD (k - 1) 0 + 1) ∧ ∀ i, i < k → risAt xs en i = true) (fun _ vi => xs.length - (intOf vi).toNat)
  case atStart => exact ⟨0, 0, Nat.zero_le _, rfl, rfl, by omega, by omega, fun _ => rfl, fun h => by omega, fun i hi => by omega⟩
  case round =>
    obtain ⟨k, l, hk, rfl, rfl, hl0, hl1, hz, hp, hall⟩ := hrel
    have A := hide hall
    have HZ := hide hz
    have HP := hide hp
    clear hall hz hp
    by_cases hlt : k < xs.length
    · have hlt' : (k : Int) < (xs.length : Int) := by omega
      obtain ⟨b, off, u, rfl, hc, hu⟩ := R.out.row k hlt
      obtain ⟨x, hx⟩ : ∃ x, x = xs.getD k 0 := ⟨_, rfl⟩
      rw [← hx] at hu
      subst hu
      have X := hide hx
      clear hx
      have key : risAt xs en k = decide (l ≤ x ∧ x < en) := by
        unfold risAt
        rw [← X.out]
        congr 1
        by_cases e : k = 0
        · have := HZ.out e
          subst this
          simp [e]
        · have := HP.out (by omega)
          have h' := A.out (k - 1) (by omega)
          unfold risAt at h'
          simp only [decide_eq_true_eq] at h'
          apply propext
          constructor
          · rintro ⟨a1, a2, a3⟩
            exact ⟨by omega, a2⟩
          · rintro ⟨a1, a2⟩
            exact ⟨by omega, a2, .inr (by omega)⟩
      have KEY := hide key
      clear key
      by_cases c1 : l ≤ x
      · have c1' : ¬ x < l := by omega
        by_cases c2 : x < en
        · have c2' : ¬ en ≤ x := by omega
          go_wp2
          go_round
          case rel =>
            refine ⟨k + 1, x + 1, by omega, by go_num, by go_num, by omega, by omega, fun h => by omega, fun _ => by rw [X.out]; simp, fun i hi => ?_⟩
            by_cases e : i = k
            · subst e; rw [KEY.out]; exact decide_eq_true ⟨c1, c2⟩
            · exact A.out i (by omega)
          case measure => simp [intOf]; omega
        · have c2' : en ≤ x := by omega
          go_wp2
          go_ret
          exact ⟨Gf.ret_bool (rises_no hlt (by rw [KEY.out]; exact decide_eq_false (fun h => by omega))).symm, rfl⟩
      · have c1' : x < l := by omega
        go_wp2
        go_ret
        exact ⟨Gf.ret_bool (rises_no hlt (by rw [KEY.out]; exact decide_eq_false (fun h => by omega))).symm, rfl⟩
    · obtain rfl : k = xs.length := by omega
      go_wp2
      go_ret
      exact ⟨Gf.ret_bool (rises_yes A.out).symm, rfl⟩

set_option maxRecDepth 100000 in
set_option maxHeartbeats 800000 in
theorem l3Lost_calls (v : Value) (xs : List Int) (en : Int) (w : World) (h : Rd w v xs) :
    Calls Tryd.prog 61 #[v, .int .i64 en] w fun e w' => e = .returned (.bool (rises xs en)) ∧ w = w' := by
  have R := hide h
  obtain ⟨a, cap, rfl, q1, q2, q3⟩ := h
  have hm : xs.length ≤ maxLen := by omega
  unfold maxLen at hm
  clear q1 q2 q3
  go_enter Tryd.func61, Tryd.ntmps61
  go_wp2
  go_loop [9] (fun vi => ∃ (k : Nat), k ≤ xs.length ∧ vi = .int .i64 k ∧ ∀ i, i < k → risAt xs en i = true) (fun vi => xs.length - (intOf vi).toNat)
  case atStart => exact ⟨0, Nat.zero_le _, rfl, fun i hi => by omega⟩
  case round =>
    obtain ⟨k, hk, rfl, hall⟩ := hrel
    have A := hide hall
    clear hall
    by_cases hlt : k < xs.length
    · have hlt' : (k : Int) < (xs.length : Int) := by omega
      obtain ⟨b, off, u, rfl, hc, hu⟩ := R.out.row k hlt
      obtain ⟨x, hx⟩ : ∃ x, x = xs.getD k 0 := ⟨_, rfl⟩
      rw [← hx] at hu
      subst hu
      have X := hide hx
      clear hx
      have key : risAt xs en k = decide (0 ≤ x ∧ x < en ∧ (k = 0 ∨ xs.getD (k - 1) 0 < x)) := by
        unfold risAt
        rw [← X.out]
      have KEY := hide key
      clear key
      have yes : (0 ≤ x ∧ x < en ∧ (k = 0 ∨ xs.getD (k - 1) 0 < x)) → ∀ i, i < k + 1 → risAt xs en i = true := by
        intro h i hi
        by_cases e : i = k
        · subst e; rw [KEY.out]; exact decide_eq_true h
        · exact A.out i (by omega)
      have no : ¬ (0 ≤ x ∧ x < en ∧ (k = 0 ∨ xs.getD (k - 1) 0 < x)) → rises xs en = false := fun h => rises_no hlt (by rw [KEY.out]; exact decide_eq_false h)
      have Y := hide yes
      have N := hide no
      clear yes no
      by_cases c0 : 0 ≤ x
      · have c0' : ¬ x < 0 := by omega
        by_cases c2 : x < en
        · have c2' : ¬ en ≤ x := by omega
          by_cases ck : k = 0
          · subst ck
            have ck' : ¬ (0 : Int) < ((0 : Nat) : Int) := by omega
            rw [Nat.add_zero] at hc
            go_wp2
            go_round
            case rel => exact ⟨0 + 1, by omega, by go_num, Y.out ⟨c0, c2, .inl rfl⟩⟩
            case measure => simp [intOf]; omega
          · have ck' : (0 : Int) < (k : Int) := by omega
            obtain ⟨b2, off2, u2, hb2, hc2, hu2⟩ := R.out.row (k - 1) (by omega)
            simp only [Option.some.injEq, Addr.mk.injEq, and_true] at hb2
            obtain ⟨rfl, rfl⟩ := hb2
            obtain ⟨y, hy⟩ : ∃ y, y = xs.getD (k - 1) 0 := ⟨_, rfl⟩
            rw [← hy] at hu2
            subst hu2
            have e1 : ((k : Int) - 1).toNat = k - 1 := by omega
            have i1 : (0 : Int) ≤ (k : Int) - 1 := by omega
            have i2 : (k : Int) - 1 < (xs.length : Int) := by omega
            have YY := hide hy
            clear hy
            by_cases c3 : y < x
            · have c3' : ¬ x ≤ y := by omega
              go_wp2
              go_round
              case rel => exact ⟨k + 1, by omega, by go_num, Y.out ⟨c0, c2, .inr (by rw [← YY.out]; exact c3)⟩⟩
              case measure => simp [intOf]; omega
            · have c3' : x ≤ y := by omega
              go_wp2
              go_ret
              exact ⟨Gf.ret_bool (N.out (fun h => by rcases h.2.2 with h | h; omega; rw [← YY.out] at h; omega)).symm, rfl⟩
        · have c2' : en ≤ x := by omega
          go_wp2
          go_ret
          exact ⟨Gf.ret_bool (N.out (fun h => by omega)).symm, rfl⟩
      · have c0' : x < 0 := by omega
        go_wp2
        go_ret
        exact ⟨Gf.ret_bool (N.out (fun h => by omega)).symm, rfl⟩
    · obtain rfl : k = xs.length := by omega
      go_wp2
      go_ret
      exact ⟨Gf.ret_bool (rises_yes A.out).symm, rfl⟩

def canOk (d q : Int) (xs : List Int) : Bool := codeOk d q && rises xs (d + q)
def canR (d q : Int) (xs : List Int) : Bool × Bool := if canOk d q xs = true then (decide ((xs.length : Int) ≤ q), true) else (false, false)

set_option maxRecDepth 100000 in
set_option maxHeartbeats 800000 in
theorem canDecode_calls (d q : Int) (v : Value) (xs : List Int) (w : World) (h : Rd w v xs) :
    Calls Tryd.prog 28 #[.int .i64 d, .int .i64 q, v] w fun e w' => e = .returned (.tuple #[.bool (canR d q xs).1, .bool (canR d q xs).2]) ∧ Below w.heap.size w w' := by
  have R := hide h
  obtain ⟨a, cap, rfl, q1, q2, q3⟩ := h
  clear q1 q2 q3
  cases hc : codeOk d q with
  | false =>
    have e : canR d q xs = (false, false) := by simp [canR, canOk, hc]
    rw [e]
    have C := hide hc
    clear hc e
    go_enter Tryd.func28, Tryd.ntmps28
    go_wp2_with fail
    refine (isCode_calls d q _).mono ?_
    rw [C.out]
    rintro e w' ⟨rfl, rfl⟩
    go_wp2
    go_ret2
    exact ⟨rfl, Below.refl _ _⟩
  | true =>
    obtain ⟨f1, f2, f3, f4⟩ := codeOk_facts hc
    have C := hide hc
    cases hr : rises xs (d + q) with
    | false =>
      have e : canR d q xs = (false, false) := by simp [canR, canOk, hr]
      rw [e]
      have RR := hide hr
      clear hc hr e
      go_enter Tryd.func28, Tryd.ntmps28
      go_wp2_with fail
      refine (isCode_calls d q _).mono ?_
      rw [C.out]
      rintro e w' ⟨rfl, rfl⟩
      go_wp2_with fail
      refine (areRising_calls _ xs (d + q) _ R.out (by omega) (by omega)).mono ?_
      rw [RR.out]
      rintro e w' ⟨rfl, rfl⟩
      go_wp2
      go_ret2
      exact ⟨rfl, Below.refl _ _⟩
    | true =>
      have e : canR d q xs = (decide ((xs.length : Int) ≤ q), true) := by simp [canR, canOk, hc, hr]
      rw [e]
      have RR := hide hr
      clear hc hr e
      go_enter Tryd.func28, Tryd.ntmps28
      go_wp2_with fail
      refine (isCode_calls d q _).mono ?_
      rw [C.out]
      rintro e w' ⟨rfl, rfl⟩
      go_wp2_with fail
      refine (areRising_calls _ xs (d + q) _ R.out (by omega) (by omega)).mono ?_
      rw [RR.out]
      rintro e w' ⟨rfl, rfl⟩
      go_wp2
      go_ret2
      exact ⟨rfl, Below.refl _ _⟩

set_option maxRecDepth 100000 in
set_option maxHeartbeats 800000 in
theorem sCanDecode_calls (d q : Int) (v : Value) (xs : List Int) (w : World) (h : Rd w v xs) :
    Calls Tryd.prog 37 #[.int .i64 d, .int .i64 q, v] w fun e w' => e = .returned (.tuple #[.bool (canR d q xs).1, .bool (canR d q xs).2]) ∧ Below w.heap.size w w' := by
  have R := hide h
  obtain ⟨a, cap, rfl, q1, q2, q3⟩ := h
  clear q1 q2 q3
  cases hc : codeOk d q with
  | false =>
    have e : canR d q xs = (false, false) := by simp [canR, canOk, hc]
    rw [e]
    have C := hide hc
    clear hc e
    go_enter Tryd.func37, Tryd.ntmps37
    go_wp2_with fail
    refine (l3Size_calls d q _).mono ?_
    rw [C.out]
    rintro e w' ⟨rfl, rfl⟩
    go_wp2
    go_ret2
    exact ⟨rfl, Below.refl _ _⟩
  | true =>
    obtain ⟨f1, f2, f3, f4⟩ := codeOk_facts hc
    have C := hide hc
    cases hr : rises xs (d + q) with
    | false =>
      have e : canR d q xs = (false, false) := by simp [canR, canOk, hr]
      rw [e]
      have RR := hide hr
      clear hc hr e
      go_enter Tryd.func37, Tryd.ntmps37
      go_wp2_with fail
      refine (l3Size_calls d q _).mono ?_
      rw [C.out]
      rintro e w' ⟨rfl, rfl⟩
      go_wp2_with fail
      refine (l3Lost_calls _ xs (d + q) _ R.out).mono ?_
      rw [RR.out]
      rintro e w' ⟨rfl, rfl⟩
      go_wp2
      go_ret2
      exact ⟨rfl, Below.refl _ _⟩
    | true =>
      have e : canR d q xs = (decide ((xs.length : Int) ≤ q), true) := by simp [canR, canOk, hc, hr]
      rw [e]
      have RR := hide hr
      clear hc hr e
      go_enter Tryd.func37, Tryd.ntmps37
      go_wp2_with fail
      refine (l3Size_calls d q _).mono ?_
      rw [C.out]
      rintro e w' ⟨rfl, rfl⟩
      go_wp2_with fail
      refine (l3Lost_calls _ xs (d + q) _ R.out).mono ?_
      rw [RR.out]
      rintro e w' ⟨rfl, rfl⟩
      go_wp2
      go_ret2
      exact ⟨rfl, Below.refl _ _⟩
end Go.Proofs.YtcmohfckhikejaaDoor

namespace Go.Proofs.YtcmohfckhikejaaDoor
open Go.RowKit

/-- The rows with these numbers. -/
def pickR (m : List (List Int)) (ks : List Int) : List (List Int) := ks.map fun k => m.getD k.toNat []
theorem pickR_length (m : List (List Int)) (ks : List Int) : (pickR m ks).length = ks.length := by simp [pickR]
theorem pickR_get (m : List (List Int)) (ks : List Int) (i : Nat) (h : i < ks.length) : (pickR m ks).getD i [] = m.getD (ks.getD i 0).toNat [] := by
  simp [pickR, List.getD_eq_getElem?_getD, h]

set_option maxRecDepth 100000 in
set_option maxHeartbeats 800000 in
theorem l2Rows_calls (kv v : Value) (ks : List Int) (m : List (List Int)) (w : World) (hk : Rd w kv ks) (h : RdM w v m) (hn : ks.length ≤ 1048576)
    (hr : ∀ i, i < ks.length → 0 ≤ ks.getD i 0 ∧ ks.getD i 0 < (m.length : Int)) (hl : ∀ i, (m.getD i []).length ≤ 1048576) :
    Calls Tryd.prog 64 #[v, kv] w fun e w' => ∃ v', e = .returned v' ∧ Mat w' w.heap.size w'.heap.size v' (pickR m ks) ∧ Below w.heap.size w w' := by
  have R := hide h
  have KR := hide hk
  obtain ⟨a, cap, rfl, _⟩ := hk
  obtain ⟨ma, mcap, rfl, _⟩ := h
  have HR := hide hr
  have HL := hide hl
  clear hr hl
  obtain ⟨MM, hM⟩ : ∃ M, M = pickR m ks := ⟨_, rfl⟩
  rw [← hM]
  have hMl : MM.length = ks.length := by rw [hM, pickR_length]
  have hMg : ∀ k, k < ks.length → MM.getD k [] = m.getD (ks.getD k 0).toNat [] := fun k hk => by rw [hM, pickR_get _ _ _ hk]
  have ML := hide hMl
  have MG := hide hMg
  clear hM hMl hMg
  go_enter Tryd.func64, Tryd.ntmps64
  go_wp2
  go_loopw [5, 7, 10] (fun vo _ vi wr => ∃ (k : Nat) (vs : List Value), k ≤ ks.length ∧ vi = .int .i64 k ∧ MatV wr w.heap.size wr.heap.size vo vs (MM.take k) ∧ Below w.heap.size w wr) (fun _ _ vi _ => ks.length - (intOf vi).toNat)
  case atStart =>
    obtain ⟨vs, hv⟩ := Mat.nil w w.heap.size w.heap.size
    exact ⟨0, vs, Nat.zero_le _, rfl, hv, Below.refl _ _⟩
  case round =>
    obtain ⟨k, vs, hk, rfl, hm, hb⟩ := hrel
    have M := hide hm
    have B := hide hb
    clear hm hb
    by_cases hlt : k < ks.length
    · have hlt' : (k : Int) < (ks.length : Int) := by omega
      obtain ⟨b, off, u, rfl, hc1, hu⟩ := (KR.out.below B.out).row k hlt
      obtain ⟨z, hz⟩ : ∃ z, z = ks.getD k 0 := ⟨_, rfl⟩
      rw [← hz] at hu
      subst hu
      have hzr := HR.out k hlt
      have hmg := MG.out k hlt
      rw [← hz] at hzr hmg
      clear hz
      obtain ⟨hz0, hz1⟩ := hzr
      obtain ⟨j, rfl⟩ := Int.eq_ofNat_of_zero_le hz0
      rw [Int.toNat_natCast] at hmg
      obtain ⟨b2, off2, u2, rfl, hc2, hu2⟩ := (R.out.below (B.out.alloc B.out.size (.cells #[] 3))).row j (by omega)
      obtain ⟨r, hrr⟩ : ∃ r, r = m.getD j [] := ⟨_, rfl⟩
      rw [← hrr] at hu2 hmg
      have hrl : r.length ≤ 1048576 := by rw [hrr]; exact HL.out j
      have MG' := hide hmg
      clear hrr hmg
      have RR : Hid (Rd (wr.alloc (.cells #[] 3)) u2 r) := hu2
      have OO : Hid (Own (wr.alloc (.cells #[] 3)) wr.heap.size (.slice (some ⟨wr.heap.size, 0, none⟩) 0 0) []) :=
        World.ownsRow_lit wr #[] 0 (Nat.le_refl _) (Nat.zero_le _) (by rfl)
      clear hu2
      go_wp2_with (at_builtin; refine wpList_append_rd rfl (.tmp 15) (.tmp 19) rfl wr.heap.size _ 0 [] r rfl OO.out _ rfl RR.out (by omega) (by simp) ?_)
      intro v1 w1 ho1 hg1
      have hb1 : Below wr.heap.size wr w1 := ((Below.refl _ _).alloc (Nat.le_refl _) _).grown hg1 (by simp) (fun k hk => (OO.out.lt k hk).1)
      obtain ⟨xa, xn, xc, rfl⟩ := ho1.shape
      have ho1' : Own w1 wr.heap.size (.slice xa xn xc) r := by simpa using ho1
      have O1 := hide ho1'
      have B1 := hide hb1
      clear ho1 ho1' hg1 hb1
      go_wp2_with (at_builtin; refine wpList_append_row rfl (.tmp 14) (.tmp 21) rfl w.heap.size wr.heap.size _ vs (MM.take k) rfl M.out (B1.out.alloc B1.out.size _) _ r (O1.out.below ((Below.refl _ _).alloc (Nat.le_refl _) _)) (Nat.le_refl _) B.out.size _ rfl (World.cell?_alloc_at _ _ _ _ (by simp)) (by simp; omega) ?_)
      intro v2 w2 hM2 hB2
      have M2 := hide hM2
      have B3 := hide hB2
      clear hM2 hB2
      go_wp2
      go_roundw
      case rel =>
        refine ⟨k + 1, vs ++ [.slice xa xn xc], by omega, by go_num, ?_, B.out.trans B3.out⟩
        have := M2.out
        have e : MM.take k ++ [r] = MM.take (k + 1) := by
          have hl : k < MM.length := by rw [ML.out]; exact hlt
          rw [List.take_succ_eq_append_getElem hl]
          have := MG'.out
          rw [List.getD_eq_getElem?_getD, List.getElem?_eq_getElem hl, Option.getD_some] at this
          rw [this]
        rw [e] at this
        exact this
      case measure => simp [intOf]; omega
    · obtain rfl : k = ks.length := by omega
      go_wp2
      go_ret
      have hm := M.out
      rw [List.take_of_length_le (by rw [ML.out]; exact Nat.le_refl _)] at hm
      exact ⟨_, rfl, ⟨_, hm⟩, B.out⟩
end Go.Proofs.YtcmohfckhikejaaDoor

namespace Go.Proofs.YtcmohfckhikejaaDoor
open Go.RowKit

/-- Whether a number is not among some. -/
def kp (xs : List Int) (k : Nat) : Bool := decide ((k : Int) ∉ xs)
theorem rises_lt {xs : List Int} {e : Int} (h : rises xs e = true) : ∀ j, j < xs.length → ∀ i, i < j → xs.getD i 0 < xs.getD j 0 := by
  intro j
  induction j with
  | zero => intro _ i hi; omega
  | succ j ih =>
    intro hj i hi
    have h1 := rises_at h (j + 1) hj
    simp only [risAt, decide_eq_true_eq] at h1
    have h2 : xs.getD j 0 < xs.getD (j + 1) 0 := by
      rcases h1.2.2 with h | h
      · omega
      · exact h
    by_cases e : i = j
    · subst e; exact h2
    · have := ih (by omega) i (by omega); omega
theorem kp_no {xs : List Int} {k j : Nat} (hj : j < xs.length) (h : xs.getD j 0 = (k : Int)) : kp xs k = false := by
  unfold kp
  refine decide_eq_false (fun hn => hn ?_)
  rw [← h, List.getD_eq_getElem?_getD, List.getElem?_eq_getElem hj]
  exact List.getElem_mem hj
theorem kp_yes {xs : List Int} {k j : Nat} (lo : ∀ i, i < j → xs.getD i 0 < (k : Int)) (hi : ∀ i, j ≤ i → i < xs.length → (k : Int) < xs.getD i 0) : kp xs k = true := by
  unfold kp
  refine decide_eq_true (fun hm => ?_)
  obtain ⟨i, hil, he⟩ := List.getElem_of_mem hm
  have hg : xs.getD i 0 = (k : Int) := by rw [List.getD_eq_getElem?_getD, List.getElem?_eq_getElem hil]; exact he
  by_cases h : i < j
  · have := lo i h; omega
  · have := hi i (by omega) hil; omega
theorem ci_app (a b : List Nat) : Gf.ci (a ++ b) = Gf.ci a ++ Gf.ci b := by simp [Gf.ci]
theorem rd_tail {w : World} {b off n cap : Nat} {ys : List Int} (h : Rd w (.slice (some ⟨b, off, none⟩) n cap) ys) (hl : 1 ≤ ys.length) : Rd w (.slice (some ⟨b, off + 1, none⟩) (n - 1) (cap - 1)) (ys.drop 1) := by
  obtain ⟨a', cap', hv, h1, h2, h3⟩ := h
  simp only [Value.slice.injEq] at hv
  obtain ⟨rfl, rfl, rfl⟩ := hv
  have hd : (ys.drop 1).length = ys.length - 1 := List.length_drop
  refine ⟨_, cap - 1, by rw [hd], by rw [hd]; omega, ⟨by have := h2.1; omega, fun h => by cases h⟩, ?_⟩
  rcases h3 with h3 | ⟨b', off', he, hlt, hc⟩
  · subst h3; simp at hl
  · simp only [Option.some.injEq, Addr.mk.injEq, and_true] at he
    obtain ⟨rfl, rfl⟩ := he
    refine .inr ⟨b, off + 1, rfl, hlt, fun i hi => ?_⟩
    rw [hd] at hi
    have := hc (1 + i) (by omega)
    rw [← Nat.add_assoc] at this
    rw [this]
    simp [List.getD_eq_getElem?_getD, Nat.add_comm]
theorem rd_last {w : World} {b off n cap : Nat} {ys : List Int} (h : Rd w (.slice (some ⟨b, off, none⟩) n cap) ys) (hl : 1 ≤ ys.length) (hc : cap = 1) : Rd w (.slice (some ⟨b, off, none⟩) (n - 1) 0) (ys.drop 1) := by
  obtain ⟨a', cap', hv, h1, h2, h3⟩ := h
  simp only [Value.slice.injEq] at hv
  obtain ⟨rfl, rfl, rfl⟩ := hv
  have e : ys.drop 1 = [] := List.drop_eq_nil_of_le (by omega)
  rw [e]
  exact ⟨_, 0, by rw [show ys.length - 1 = 0 by omega]; rfl, Nat.le_refl _, ⟨Nat.zero_le _, fun h => by cases h⟩, .inl rfl⟩

set_option maxRecDepth 100000 in
set_option maxHeartbeats 1600000 in
theorem notLost_calls (n : Nat) (v : Value) (xs : List Int) (w : World) (h : Rd w v xs) (hr : rises xs n = true) (hn : n ≤ 4096) (hxl : xs.length ≤ n) :
    Calls Tryd.prog 30 #[.int .i64 n, v] w fun e w' => ∃ v', e = .returned v' ∧ Own w' w.heap.size v' (Gf.ci (Gf.those (kp xs) n)) ∧ Below w.heap.size w w' := by
  have R := hide h
  have RS := hide hr
  obtain ⟨a, cap, rfl, _⟩ := h
  obtain ⟨i0, hi, hz0, hz1, hz2⟩ := info_parts infoInt
  clear hr
  have hsub : (n : Int) - (xs.length : Int) = ((n - xs.length : Nat) : Int) := by omega
  go_enter Tryd.func30, Tryd.ntmps30
  go_wp2_with (at_make; refine wpList_make_own _ rfl _ _ 31 rfl w.heap.size 3 i0 (.int .i64 0) 1 Tryd.underlying31 hi hz0 hz1 _ _ _ (n - xs.length) rfl rfl (by omega) ?b2 ?b3 (Nat.le_refl _) ?_)
  case b2 => rw [hz2]; omega
  case b3 => unfold maxLen; omega
  intro w0 hown0 hg0
  have O0 := hide hown0
  have B0 := hide ((Below.refl w.heap.size w).grown hg0 (Nat.le_refl _) (fun k h => by cases h))
  clear hown0 hg0 hsub
  go_wp2
  go_loopw [1, 5, 6, 13] (fun vl vk _ vi wr => ∃ (k j : Nat) (ys : List Int), k ≤ n ∧ vi = .int .i64 k ∧ (j ≤ xs.length ∧ ys = xs.drop j) ∧ Rd w vl ys ∧ (∀ i, i < j → xs.getD i 0 < (k : Int)) ∧ (∀ i, j ≤ i → i < xs.length → (k : Int) ≤ xs.getD i 0) ∧ Own wr w.heap.size vk (Gf.ci (Gf.those (kp xs) k)) ∧ Below w.heap.size w wr) (fun _ _ _ vi _ => n - (intOf vi).toNat)
  case atStart =>
    refine ⟨0, 0, xs, Nat.zero_le _, rfl, ⟨Nat.zero_le _, rfl⟩, R.out, fun i hi => by omega, fun i _ hi => ?_, O0.out, B0.out⟩
    have := rises_at RS.out i hi
    simp only [risAt, decide_eq_true_eq] at this
    exact this.1
  case round =>
    obtain ⟨k, j, ys, hk, rfl, ⟨hj, hys⟩, hrd, hlo, hhi, ho, hb⟩ := hrel
    have RD := hide hrd
    have LO := hide hlo
    have HI := hide hhi
    have O := hide ho
    have B := hide hb
    have hyl : ys.length = xs.length - j := by rw [hys, List.length_drop]
    have YL := hide hyl
    have YS := hide hys
    obtain ⟨va, vc, rfl, hvc, hvm, _⟩ := hrd
    obtain ⟨vk, hvk⟩ : ∃ vk, vk = u5 := ⟨_, rfl⟩
    subst hvk
    clear hlo hhi ho hb hyl hys
    by_cases hlt : k < n
    · have hlt' : (k : Int) < (n : Int) := by omega
      by_cases hje : 0 < ys.length
      · have hje2 : j < xs.length := by have := YL.out; omega
        have hdl' : (0 : Int) < (ys.length : Int) := by omega
        obtain ⟨b, off, u, rfl, hc, hu⟩ := (RD.out.below B.out).row 0 hje
        rw [Nat.add_zero] at hc
        obtain ⟨x, hx⟩ : ∃ x, x = xs.getD j 0 := ⟨_, rfl⟩
        have hxy : ys.getD 0 0 = x := by rw [hx, YS.out]; simp [List.getD_eq_getElem?_getD]
        rw [hxy] at hu
        subst hu
        have hkx : (k : Int) ≤ x := by rw [hx]; exact HI.out j (Nat.le_refl _) hje2
        have HX := hide hx
        clear hx hxy
        by_cases hxk : x = (k : Int)
        · have te : (x == (k : Int)) = true := by simp [hxk]
          have XK := hide hxk
          have i1 : (1 : Int) ≤ (ys.length : Int) := by omega
          have i2 : (1 : Int) ≤ (vc : Int) := by omega
          have NX : Hid (Gf.those (kp xs) (k + 1) = Gf.those (kp xs) k) := by
            show _ = _
            rw [Gf.those_succ, kp_no hje2 (by rw [← HX.out, XK.out])]
            simp
          have LO2 : Hid (∀ i, i < j + 1 → xs.getD i 0 < ((k + 1 : Nat) : Int)) := fun i hi => by
            by_cases e : i = j
            · subst e; rw [← HX.out, XK.out]; omega
            · have := LO.out i (by omega); omega
          have HI2 : Hid (∀ i, j + 1 ≤ i → i < xs.length → ((k + 1 : Nat) : Int) ≤ xs.getD i 0) := fun i h1 h2 => by
            have := rises_lt RS.out i h2 j (by omega)
            rw [← HX.out, XK.out] at this
            omega
          have YS2 : Hid (ys.drop 1 = xs.drop (j + 1)) := by show _ = _; rw [YS.out, List.drop_drop]
          clear hxk
          by_cases hc1 : vc = 1
          · have RD2 := hide (rd_last RD.out hje hc1)
            go_wp2
            go_roundw
            case rel => exact ⟨k + 1, j + 1, ys.drop 1, by omega, by go_num, ⟨by omega, YS2.out⟩, RD2.out, LO2.out, HI2.out, by rw [NX.out]; exact O.out, B.out⟩
            case measure => simp [intOf]; omega
          · have RD2 := hide (rd_tail RD.out hje)
            go_wp2
            go_roundw
            case rel => exact ⟨k + 1, j + 1, ys.drop 1, by omega, by go_num, ⟨by omega, YS2.out⟩, RD2.out, LO2.out, HI2.out, by rw [NX.out]; exact O.out, B.out⟩
            case measure => simp [intOf]; omega
        · have te : (x == (k : Int)) = false := by simp [hxk]
          have HI2 : Hid (∀ i, j ≤ i → i < xs.length → (k : Int) < xs.getD i 0) := fun i h1 h2 => by
            by_cases e : i = j
            · subst e; rw [← HX.out]; omega
            · have := rises_lt RS.out i h2 j (by omega)
              rw [← HX.out] at this
              omega
          have NX : Hid (Gf.ci (Gf.those (kp xs) (k + 1)) = Gf.ci (Gf.those (kp xs) k) ++ [(k : Int)]) := by
            show _ = _
            rw [Gf.those_succ, kp_yes LO.out HI2.out, if_pos rfl, ci_app]
            rfl
          have O2 := hide (O.out.alloc (.cells #[.int .i64 (k : Int)] 3))
          have tl : (Gf.ci (Gf.those (kp xs) k)).length ≤ 4096 := by
            have := Gf.those_not (kp xs) k
            rw [Gf.ci_length]
            omega
          have TL := hide tl
          clear tl hxk
          go_wp2_with (at_builtin; refine wpList_append_rd rfl (.tmp 28) (.tmp 30) rfl w.heap.size _ (Gf.ci (Gf.those (kp xs) k)).length (Gf.ci (Gf.those (kp xs) k)) [(k : Int)] rfl O2.out _ rfl rd_single (by have := TL.out; simp; omega) (by have := B.out.size; simp; omega) ?_)
          intro v' w5 ho5 hg5
          have low : ∀ i, vk.ownBlock = some i → w.heap.size ≤ i := fun i hi => (O.out.lt i hi).1
          have B5 := hide ((B.out.alloc B.out.size _).grown hg5 (by have := B.out.size; simp; omega) low)
          have O6 := hide ho5
          clear ho5 hg5 low
          go_wp2
          go_roundw
          case rel => exact ⟨k + 1, j, ys, by omega, by go_num, ⟨hj, YS.out⟩, RD.out, fun i hi => by have := LO.out i hi; omega, fun i h1 h2 => by have := HI2.out i h1 h2; omega, by rw [NX.out]; exact O6.out, B5.out⟩
          case measure => simp [intOf]; omega
      · have hdl' : ¬ (0 : Int) < (ys.length : Int) := by omega
        have HI2 : Hid (∀ i, j ≤ i → i < xs.length → (k : Int) < xs.getD i 0) := fun i h1 h2 => by have := YL.out; omega
        have NX : Hid (Gf.ci (Gf.those (kp xs) (k + 1)) = Gf.ci (Gf.those (kp xs) k) ++ [(k : Int)]) := by
          show _ = _
          rw [Gf.those_succ, kp_yes LO.out HI2.out, if_pos rfl, ci_app]
          rfl
        have O2 := hide (O.out.alloc (.cells #[.int .i64 (k : Int)] 3))
        have tl : (Gf.ci (Gf.those (kp xs) k)).length ≤ 4096 := by
          have := Gf.those_not (kp xs) k
          rw [Gf.ci_length]
          omega
        have TL := hide tl
        clear tl
        go_wp2_with (at_builtin; refine wpList_append_rd rfl (.tmp 28) (.tmp 30) rfl w.heap.size _ (Gf.ci (Gf.those (kp xs) k)).length (Gf.ci (Gf.those (kp xs) k)) [(k : Int)] rfl O2.out _ rfl rd_single (by have := TL.out; simp; omega) (by have := B.out.size; simp; omega) ?_)
        intro v' w5 ho5 hg5
        have low : ∀ i, vk.ownBlock = some i → w.heap.size ≤ i := fun i hi => (O.out.lt i hi).1
        have B5 := hide ((B.out.alloc B.out.size _).grown hg5 (by have := B.out.size; simp; omega) low)
        have O6 := hide ho5
        clear ho5 hg5 low
        go_wp2
        go_roundw
        case rel => exact ⟨k + 1, j, ys, by omega, by go_num, ⟨hj, YS.out⟩, RD.out, fun i hi => by have := LO.out i hi; omega, fun i h1 h2 => by have := HI2.out i h1 h2; omega, by rw [NX.out]; exact O6.out, B5.out⟩
        case measure => simp [intOf]; omega
    · obtain rfl : k = n := by omega
      go_wp2
      go_ret
      exact ⟨_, rfl, O.out, B.out⟩

/-- Rows by their places, the places told by integers. -/
theorem pick_sel (m : List (List Int)) (f : List Nat) : pickR m (Gf.ci f) = Gf.selM m f := by
  unfold pickR Gf.ci Gf.selM
  rw [List.map_map]
  exact List.map_congr_left fun k _ => by simp

set_option maxRecDepth 100000 in
set_option maxHeartbeats 800000 in
theorem rowAt_calls (k : Nat) (v : Value) (m : List (List Int)) (g : Nat) (w0 w : World) (h : RdM w0 v m) (hb : Below w0.heap.size w0 w) (hg : w.cell? ⟨g, 0, none⟩ = some v) (h1 : k < m.length) :
    Calls Tryd.prog 51 #[.int .i64 k, .pointer (some ⟨g, 0, none⟩)] w fun e w' => ∃ u, e = .returned u ∧ Rd w0 u (m.getD k []) ∧ w = w' := by
  have R := hide h
  obtain ⟨a, cap, rfl, _⟩ := h
  obtain ⟨b, off, u, rfl, hbl, hc0, hu⟩ := R.out.rowAt k h1
  have hc1 : w.cell? ⟨b, off + k, none⟩ = some u := (hb.cell (p := ⟨b, off + k, none⟩) hbl).trans hc0
  have U := hide hu
  have hk : (k : Int) < (m.length : Int) := by omega
  clear hu hc0
  go_enter Tryd.func51, Tryd.ntmps51
  go_wp2
  go_ret
  exact ⟨_, rfl, U.out, rfl⟩
/-- Some values, and behind them empty rows. -/
def padV (us : List Value) (n : Nat) : List Value := us ++ List.replicate (n - us.length) nilRow
theorem padV_length (us : List Value) (n : Nat) (h : us.length ≤ n) : (padV us n).length = n := by simp [padV]; omega
theorem padV_set (us : List Value) (n : Nat) (u : Value) (h : us.length < n) : (padV us n).set us.length u = padV (us ++ [u]) n := by
  unfold padV
  rw [List.set_append_right _ _ (Nat.le_refl _), Nat.sub_self]
  obtain ⟨m, hm⟩ : ∃ m, n - us.length = m + 1 := ⟨n - us.length - 1, by omega⟩
  have hm2 : n - (us ++ [u]).length = m := by simp; omega
  rw [hm, hm2, List.replicate_succ, List.set_cons_zero, List.append_assoc]
  rfl

set_option maxRecDepth 100000 in
set_option maxHeartbeats 1600000 in
theorem eachAt_calls (kv v : Value) (f : List Nat) (m : List (List Int)) (g : Nat) (w : World) (hk : Rd w kv (Gf.ci f)) (h : RdM w v m) (hgc : w.cell? ⟨g, 0, none⟩ = some v) (hgl : g < w.heap.size) (hn : f.length ≤ 4096)
    (hr : ∀ k ∈ f, k < m.length) :
    Calls Tryd.prog 50 #[kv, .func (.func 51) #[] #[.pointer (some ⟨g, 0, none⟩)]] w fun e w' => ∃ v', e = .returned v' ∧ RdM w' v' (Gf.selM m f) ∧ Below w.heap.size w w' := by
  have R := hide h
  have KR := hide hk
  obtain ⟨a, cap, hv, _⟩ := hk
  rw [Gf.ci_length] at hv
  subst hv
  have HR := hide hr
  have GC := hide hgc
  clear hr hgc
  go_enter Tryd.func50, Tryd.ntmps50
  go_wp2_with (at_make; refine wpList_make_rows rfl _ _ rfl _ _ f.length rfl rfl (by omega) (by omega) (by omega) ?_)
  intro w0 hm0 hg0
  have M0 := hide hm0.head
  have B0 := hide ((Below.refl w.heap.size w).grown hg0 (Nat.le_refl _) (fun k h => by cases h))
  clear hm0 hg0
  go_wp2
  go_loopw [6, 7, 13] (fun _ _ vi wr => ∃ us : List Value, us.length ≤ f.length ∧ vi = .int .i64 us.length ∧ wr.ownsRow w.heap.size 31 1 (.slice (some ⟨w.heap.size, 0, none⟩) f.length f.length) f.length (padV us f.length) ∧ (∀ i, i < us.length → Rd w (us.getD i nilRow) (m.getD (f.getD i 0) [])) ∧ Below w.heap.size w wr) (fun _ _ vi _ => f.length - (intOf vi).toNat)
  case atStart =>
    refine ⟨[], Nat.zero_le _, rfl, ?_, fun i hi => by simp at hi, B0.out⟩
    have := M0.out
    rw [List.length_replicate] at this
    exact this
  case round =>
    obtain ⟨us, hk, rfl, ho, hus, hb⟩ := hrel
    have O := hide ho
    have US := hide hus
    have B := hide hb
    clear ho hus hb
    by_cases hlt : us.length < f.length
    · have hlt' : (us.length : Int) < (f.length : Int) := by omega
      obtain ⟨b, off, u, rfl, hc1, hu⟩ := (KR.out.below B.out).row us.length (by rw [Gf.ci_length]; exact hlt)
      obtain ⟨z, hz⟩ : ∃ z, z = f.getD us.length 0 := ⟨_, rfl⟩
      rw [Gf.ci_getD, ← hz] at hu
      subst hu
      have Z := hide hz
      have hzm : z < m.length := by rw [hz, List.getD_eq_getElem?_getD, List.getElem?_eq_getElem hlt]; exact HR.out _ (List.getElem_mem hlt)
      clear hz
      have hgc2 : wr.cell? ⟨g, 0, none⟩ = some v := (B.out.cell (p := ⟨g, 0, none⟩) hgl).trans GC.out
      have GC2 := hide hgc2
      clear hgc2
      go_wp2_with fail
      refine (rowAt_calls z v m g w _ R.out B.out GC2.out hzm).mono ?_
      rintro e w1 ⟨x, rfl, hx, rfl⟩
      have X := hide hx
      obtain ⟨xa, xc, rfl, _⟩ := hx
      generalize (m.getD z []).length = xn at X ⊢
      have hpl : us.length < (padV us f.length).length := by rw [padV_length _ _ hk]; exact hlt
      have hc2 : wr.frozen? ⟨w.heap.size, us.length, none⟩ = false := O.out.frozenAt us.length
      obtain ⟨old, hc3⟩ : ∃ old, wr.cell? ⟨w.heap.size, us.length, none⟩ = some old := by
        rw [O.out.cellAt us.length (by omega)]
        exact ⟨_, List.getElem?_eq_getElem hpl⟩
      have ST := hide (O.out.stored us.length (.slice xa xn xc))
      go_wp2
      go_roundw
      case rel =>
        refine ⟨us ++ [.slice xa xn xc], by simp; omega, by simp, ?_, fun i hi => ?_, B.out.setCell (Nat.le_refl _) _⟩
        · have := ST.out.1
          rw [padV_set us f.length _ hlt] at this
          exact this
        · rw [getD_app]
          by_cases e : i < us.length
          · rw [if_pos e]; exact US.out i e
          · have e2 : i = us.length := by simp at hi; omega
            rw [if_neg e, e2, Nat.sub_self, ← Z.out]
            exact X.out
      case measure => simp [intOf]; omega
    · have e : us.length = f.length := by omega
      go_wp2
      go_ret
      refine ⟨_, rfl, ?_, B.out⟩
      have ho := O.out
      have ep : padV us f.length = us := by unfold padV; rw [show f.length - us.length = 0 by omega, List.replicate_zero, List.append_nil]
      rw [ep] at ho
      have hc : f.length ≤ maxLen := by unfold maxLen; omega
      have hlt : w.heap.size < wr.heap.size := (World.ownsRow.lt ho w.heap.size rfl).2
      refine ⟨some ⟨w.heap.size, 0, none⟩, f.length, by rw [Gf.selM_length]; rfl, by rw [Gf.selM_length]; exact Nat.le_refl _, ⟨hc, fun h => by cases h⟩, .inr ⟨w.heap.size, 0, rfl, hlt, fun i hi => ?_⟩⟩
      rw [Gf.selM_length] at hi
      refine ⟨us.getD i nilRow, ?_, ?_⟩
      · rw [Nat.zero_add, World.ownsRow.cellAt ho i (by omega), List.getD_eq_getElem?_getD, List.getElem?_eq_getElem (by omega)]
        rfl
      · rw [Gf.selM_get _ _ _ hi]
        exact (US.out i (by omega)).below B.out

set_option maxRecDepth 100000 in
set_option maxHeartbeats 800000 in
theorem rowsAt_calls (v kv : Value) (m : List (List Int)) (f : List Nat) (w : World) (h : RdM w v m) (hk : Rd w kv (Gf.ci f)) (hn : f.length ≤ 4096) (hr : ∀ k ∈ f, k < m.length) :
    Calls Tryd.prog 32 #[v, kv] w fun e w' => ∃ v', e = .returned v' ∧ RdM w' v' (Gf.selM m f) ∧ Below w.heap.size w w' := by
  have R := hide h
  have KR := hide hk
  obtain ⟨a, cap, rfl, _⟩ := h
  have B0 := hide ((Below.refl w.heap.size w).alloc (Nat.le_refl _) (.cells #[.slice a m.length cap] 23))
  have hc : (w.alloc (.cells #[.slice a m.length cap] 23)).cell? ⟨w.heap.size, 0, none⟩ = some (.slice a m.length cap) := by
    rw [cell_of_row _ _ _ _ _ _ (heap_alloc_new w _)]
    rfl
  have HC := hide hc
  clear hc
  go_enter Tryd.func32, Tryd.ntmps32
  go_wp2_with fail
  refine (eachAt_calls kv _ f m w.heap.size _ (KR.out.below B0.out) (R.out.below B0.out) HC.out (by simp) hn hr).mono ?_
  rintro e w1 ⟨v1, rfl, hr1, hb1⟩
  have R1 := hide hr1
  have B1 := hide (B0.out.trans (hb1.mono B0.out.size))
  clear hr1 hb1
  go_wp2
  go_ret
  exact ⟨_, rfl, R1.out, B1.out⟩
end Go.Proofs.YtcmohfckhikejaaDoor

namespace Go.Proofs.YtcmohfckhikejaaDoor
open Go.RowKit

def padL (r : List Int) : List Int := r ++ List.replicate (32 - r.length) 0
def padA (r : List Int) : Array Value := ((padL r).map (Value.int .i64)).toArray
theorem padL_length (r : List Int) (h : r.length ≤ 32) : (padL r).length = 32 := by simp [padL]; omega
theorem padA_size (r : List Int) (h : r.length ≤ 32) : (padA r).size = 32 := by simp [padA, padL_length r h]
theorem padA_one (r : List Int) : (padA r).all (·.oneCell') = true := by
  rw [Array.all_eq_true_iff_forall_mem]
  intro v hv
  simp only [padA, List.mem_toArray, List.mem_map] at hv
  obtain ⟨x, _, rfl⟩ := hv
  rfl
theorem padA_nil : padA [] = #[.int .i64 0, .int .i64 0, .int .i64 0, .int .i64 0, .int .i64 0, .int .i64 0, .int .i64 0, .int .i64 0, .int .i64 0, .int .i64 0, .int .i64 0, .int .i64 0, .int .i64 0, .int .i64 0, .int .i64 0, .int .i64 0, .int .i64 0, .int .i64 0, .int .i64 0, .int .i64 0, .int .i64 0, .int .i64 0, .int .i64 0, .int .i64 0, .int .i64 0, .int .i64 0, .int .i64 0, .int .i64 0, .int .i64 0, .int .i64 0, .int .i64 0, .int .i64 0] := by rfl
theorem zeros1 : (#[.int .i64 0, .int .i64 0, .int .i64 0, .int .i64 0, .int .i64 0, .int .i64 0, .int .i64 0, .int .i64 0, .int .i64 0, .int .i64 0, .int .i64 0, .int .i64 0, .int .i64 0, .int .i64 0, .int .i64 0, .int .i64 0, .int .i64 0, .int .i64 0, .int .i64 0, .int .i64 0, .int .i64 0, .int .i64 0, .int .i64 0, .int .i64 0, .int .i64 0, .int .i64 0, .int .i64 0, .int .i64 0, .int .i64 0, .int .i64 0, .int .i64 0, .int .i64 0] : Array Value).all (·.oneCell') = true := by
  rw [← padA_nil]
  exact padA_one []
theorem wholeInfo : (Tryd.prog.info? 70).map (·.size) = some 32 := by kernel_rfl
theorem wholeUnder : Tryd.prog.underlying 70 = some (.array 32 3) := by kernel_rfl
theorem padA_copy (r : List Int) : ((padA []).toList.take 0 ++ (r.map (Value.int .i64) ++ (padA []).toList.drop (0 + (r.map (Value.int .i64)).length))).toArray = padA r := by
  have e : (padA []).toList = List.replicate 32 (Value.int .i64 0) := by unfold padA padL; simp only [List.nil_append, List.length_nil, Nat.sub_zero, List.map_replicate]
  rw [e, List.take_zero, List.nil_append, List.drop_replicate, List.length_map, Nat.zero_add]
  unfold padA padL
  rw [List.map_append, List.map_replicate]
theorem setRow2 (w : World) (A : Obj) (c c' : Array Value) (t : TypeId) : ((w.alloc A).alloc (.cells c t)).setRow (w.heap.size + 1) c' = (w.alloc A).alloc (.cells c' t) := by
  have := World.setRow_alloc_new (w.alloc A) c c' t
  have e : (w.alloc A).heap.size = w.heap.size + 1 := by simp
  rwa [e] at this

theorem copy_whole {w2 : World} {g : Nat} {Z PR : Array Value} {a : Option Addr} {cap : Nat} {r : List Int} (hg : w2.heap[g]? = some (.cells Z 70 (0, 0))) (hr : Rd w2 (.slice a r.length cap) r) (hl : r.length ≤ 32) (hz : Z.size = 32)
    (hc : (Z.toList.take 0 ++ (r.map (Value.int .i64) ++ Z.toList.drop (0 + (r.map (Value.int .i64)).length))).toArray = PR) :
    ∃ w3, (Builtin.copy_ #[31, 31] 3 #[.slice (some ⟨g, 0, none⟩) 32 32, .slice a r.length cap]).run Tryd.prog w2 = .ok (goInt r.length) w3 ∧ w3.heap[g]? = some (.cells PR 70 (0, 0)) ∧ w2.grownBy w3 (some g) := by
  obtain ⟨a', cap', hv, _, _, h3⟩ := hr
  simp only [Value.slice.injEq, true_and] at hv
  obtain ⟨rfl, rfl⟩ := hv
  rcases h3 with h3 | ⟨b, off, rfl, _, hcell⟩
  · subst h3
    refine ⟨w2, run_copy_none (P := Tryd.prog) w2 _ _ _ 3 _ _ _ _ _ _ Tryd.underlying31 infoSize (by simp), ?_, World.grownBy.refl _ _⟩
    have : PR = Z := by rw [← hc]; simp
    rw [this]
    exact hg
  · have hrun := run_copy_row (P := Tryd.prog) w2 31 31 3 3 g 0 32 32 ⟨b, off, none⟩ r.length cap Z 70 (r.map (Value.int .i64)) Tryd.underlying31 infoSize hg (by rw [List.length_map]; exact (Nat.min_eq_left hl).symm) (fun j y hj => by
      have hjl : j < r.length := by simpa using (List.getElem?_eq_some_iff.1 hj).1
      have hadd : (⟨b, off, none⟩ : Addr).add j = ⟨b, off + j, none⟩ := by unfold Addr.add; split <;> simp_all
      rw [hadd, hcell j hjl]
      rw [List.getElem?_map, List.getElem?_eq_getElem hjl] at hj
      simp only [Option.map_some, Option.some.injEq] at hj
      rw [← hj, List.getD_eq_getElem?_getD, List.getElem?_eq_getElem hjl, Option.getD_some]) (by simp; omega) (ints_oneCell _ _)
    rw [List.append_assoc, hc, List.length_map] at hrun
    exact ⟨_, hrun, setRow_heap w2 g _ PR 70 _ hg, rfl, rfl, rfl, by simp [World.setRow], fun k _ hk => setRow_other w2 g k _ (fun e => hk (by simp [e]))⟩

set_option maxRecDepth 100000 in
set_option maxHeartbeats 1600000 in
theorem wholeOf_calls (v : Value) (r : List Int) (w : World) (h : Rd w v r) (hl : r.length ≤ 32) :
    Calls Tryd.prog 47 #[v] w fun e w' => e = .returned (.agg (padA r)) ∧ Below w.heap.size w w' := by
  have R := hide h
  obtain ⟨a, cap, rfl, _⟩ := h
  obtain ⟨Z, hZ⟩ : ∃ Z, Z = padA [] := ⟨_, rfl⟩
  have Zsz : Hid (Z.size = 32) := by rw [hZ]; exact padA_size [] (by simp)
  have Z1 : Hid (Z.all (·.oneCell') = true) := by rw [hZ]; exact padA_one []
  have ZC : Hid ((Z.toList.take 0 ++ (r.map (Value.int .i64) ++ Z.toList.drop (0 + (r.map (Value.int .i64)).length))).toArray = padA r) := by rw [hZ]; exact padA_copy r
  have ZE : Hid (#[.int .i64 0, .int .i64 0, .int .i64 0, .int .i64 0, .int .i64 0, .int .i64 0, .int .i64 0, .int .i64 0, .int .i64 0, .int .i64 0, .int .i64 0, .int .i64 0, .int .i64 0, .int .i64 0, .int .i64 0, .int .i64 0, .int .i64 0, .int .i64 0, .int .i64 0, .int .i64 0, .int .i64 0, .int .i64 0, .int .i64 0, .int .i64 0, .int .i64 0, .int .i64 0, .int .i64 0, .int .i64 0, .int .i64 0, .int .i64 0, .int .i64 0, .int .i64 0] = Z) := by rw [hZ]; exact padA_nil.symm
  clear hZ
  go_enter Tryd.func47, Tryd.ntmps47
  go_wp2_with (refine wpList_store_row rfl 70 (.tmp 3) (.tmp 4) rfl (w.heap.size + 1) _ rfl rfl 70 _ (heap_alloc2_new w _ _) wholeInfo rfl zeros1 ?_)
  rw [setRow2, ZE.out]
  obtain ⟨w2, hw2⟩ : ∃ w2, w2 = (w.alloc (.cells Z 70)).alloc (.cells Z 70) := ⟨_, rfl⟩
  have hg1 : w2.heap[w.heap.size + 1]? = some (.cells Z 70 (0, 0)) := by rw [hw2]; exact heap_alloc2_new w _ _
  have hg0 : w2.heap[w.heap.size]? = some (.cells Z 70 (0, 0)) := by
    rw [hw2, heap_alloc_old _ _ (by simp)]
    exact heap_alloc_new w _
  have hb2 : Below w.heap.size w w2 := by
    rw [hw2]
    exact ((Below.refl _ _).alloc (Nat.le_refl _) _).alloc (by simp) _
  rw [← hw2]
  have G1 := hide hg1
  have G0 := hide hg0
  have B2 := hide hb2
  have RR := hide (R.out.below hb2)
  clear hw2 hg1 hg0 hb2
  obtain ⟨PR, hPR⟩ : ∃ PR, PR = padA r := ⟨_, rfl⟩
  have PS : Hid (PR.size = 32) := by rw [hPR]; exact padA_size r hl
  have P1 : Hid (PR.all (·.oneCell') = true) := by rw [hPR]; exact padA_one r
  have PE := hide hPR
  have ZC2 := ZC.out
  rw [← hPR] at ZC2
  obtain ⟨w3, hrun, hg3, hgr3⟩ := copy_whole G1.out RR.out hl Zsz.out ZC2
  have G3 := hide hg3
  have G30 : Hid (w3.heap[w.heap.size]? = some (.cells Z 70 (0, 0))) := by
    have hlt : w.heap.size < w2.heap.size := (Array.getElem?_eq_some_iff.1 G0.out).1
    exact (hgr3.block w.heap.size hlt (by simp)).trans G0.out
  have B3 := hide (B2.out.grown hgr3 B2.out.size (fun k hk => by cases hk; omega))
  rw [hrun]
  simp only [Result.andThen]
  rw [Oper.upon_value]
  clear hrun hg3 hgr3 hPR ZC2
  go_wp2_with (first | (refine wpList_load_row rfl 70 (.tmp 3) rfl (w.heap.size + 1) rfl 70 PR (0, 0) (.array 32 3) G3.out wholeUnder rfl (by rw [PS.out]; exact wholeInfo) ?_) | (refine wpList_store_row rfl 70 (.tmp 2) (.tmp 8) rfl w.heap.size PR rfl rfl 70 Z G30.out (by rw [PS.out]; exact wholeInfo) (by rw [PS.out, Zsz.out]) P1.out ?_))
  have hg4 : (w3.setRow w.heap.size PR).heap[w.heap.size]? = some (.cells PR 70 (0, 0)) := setRow_heap w3 w.heap.size _ PR 70 _ G30.out
  have hb4 : Below w.heap.size w (w3.setRow w.heap.size PR) := below_setRow B3.out (Nat.le_refl _) _
  (try simp only [Exit.inBlock, Exit.then])
  refine bodyPost_ret (v := .agg PR) (results_cell_row rfl _ _ w.heap.size 70 PR (0, 0) (.array 32 3) rfl hg4 wholeUnder rfl (by rw [PS.out]; exact wholeInfo)) rfl ⟨by rw [PE.out], hb4⟩
set_option maxRecDepth 100000 in
theorem eqItems_ints (d : Nat) (xs ys : List Int) (w : World) : ∀ (is : List Nat), (∀ i ∈ is, i < xs.length ∧ i < ys.length) →
    (Op.eqItems (d + 1) 3 1 (xs.map (Value.int .i64)).toArray (ys.map (Value.int .i64)).toArray is).run Tryd.prog w = .ok (is.all fun i => xs.getD i 0 == ys.getD i 0) w := by
  intro is
  induction is with
  | nil => intro _; simp [Op.eqItems]
  | cons i is ih =>
    intro h
    obtain ⟨h1, h2⟩ := h i (by simp)
    have px : (part 3 (xs.map (Value.int .i64)).toArray (i * 1)).run Tryd.prog w = .ok (.int .i64 (xs.getD i 0)) w := by
      simp [part, isAgg, run_underlying Tryd.underlying3, List.getD_eq_getElem?_getD, List.getElem?_eq_getElem h1]
    have py : (part 3 (ys.map (Value.int .i64)).toArray (i * 1)).run Tryd.prog w = .ok (.int .i64 (ys.getD i 0)) w := by
      simp [part, isAgg, run_underlying Tryd.underlying3, List.getD_eq_getElem?_getD, List.getElem?_eq_getElem h2]
    have pe := run_equalIn_int (P := Tryd.prog) w d 3 .i64 .i64 (xs.getD i 0) (ys.getD i 0) Tryd.underlying3
    simp only [Op.eqItems, Sem.run_bind, px, py, pe, Result.andThen_ok, List.all_cons]
    cases (xs.getD i 0 == ys.getD i 0) with
    | false => simp
    | true =>
      simp only [Bool.not_true, Bool.false_eq_true, if_false, Bool.true_and]
      exact ih fun j hj => h j (by simp [hj])
theorem all_same {xs ys : List Int} (h : xs.length = ys.length) : ((List.range xs.length).all fun i => xs.getD i 0 == ys.getD i 0) = decide (xs = ys) := by
  rw [Bool.eq_iff_iff]
  simp only [List.all_eq_true, List.mem_range, beq_iff_eq, decide_eq_true_eq]
  constructor
  · intro hh
    apply List.ext_getElem h
    intro i h1 h2
    have := hh i h1
    rwa [List.getD_eq_getElem?_getD, List.getD_eq_getElem?_getD, List.getElem?_eq_getElem h1, List.getElem?_eq_getElem h2, Option.getD_some, Option.getD_some] at this
  · rintro rfl i _; rfl
theorem padL_inj {r s : List Int} (h : r.length = s.length) : padL r = padL s ↔ r = s := by
  constructor
  · intro e
    unfold padL at e
    exact (List.append_inj e h).1
  · rintro rfl; rfl
theorem intInfo : ∃ i, Tryd.prog.info? 3 = some i := by
  obtain ⟨i0, hi, _⟩ := info_parts infoInt
  exact ⟨i0, hi⟩
theorem cellsOfInt : Tryd.prog.cellsOf 3 = 1 := by kernel_rfl
set_option maxRecDepth 100000 in
theorem equal_whole (r s : List Int) (hr : r.length ≤ 32) (hs : s.length ≤ 32) (h : r.length = s.length) (w : World) :
    (Op.equalIn 10000 70 (.agg (padA r)) (.agg (padA s))).run Tryd.prog w = .ok (decide (r = s)) w := by
  obtain ⟨i, hi⟩ := intInfo
  rw [run_equalIn_array (P := Tryd.prog) w 9999 _ _ wholeUnder hi, cellsOfInt]
  unfold padA
  rw [eqItems_ints 9998 (padL r) (padL s) w (List.range 32) (fun i hi => by rw [padL_length r hr, padL_length s hs]; exact ⟨List.mem_range.1 hi, List.mem_range.1 hi⟩)]
  have := all_same (xs := padL r) (ys := padL s) (by rw [padL_length r hr, padL_length s hs])
  rw [padL_length r hr] at this
  rw [this]
  congr 1
  rw [Bool.eq_iff_iff]
  simp only [decide_eq_true_eq]
  exact padL_inj h
end Go.Proofs.YtcmohfckhikejaaDoor

namespace Go.Proofs.YtcmohfckhikejaaDoor
open Go.RowKit

/-- How many of the first k rows are unlike. -/
def unlTo (a b : List (List Int)) : Nat → Nat
  | 0 => 0
  | k + 1 => unlTo a b k + if a.getD k [] = b.getD k [] then 0 else 1
theorem unlTo_le (a b : List (List Int)) (k : Nat) : unlTo a b k ≤ k := by
  induction k with
  | zero => exact Nat.le_refl _
  | succ k ih => rw [unlTo]; split <;> omega
theorem unlTo_comm (a b : List (List Int)) (k : Nat) : unlTo a b k = unlTo b a k := by
  induction k with
  | zero => rfl
  | succ k ih =>
    rw [unlTo, unlTo, ih]
    by_cases h : a.getD k [] = b.getD k []
    · rw [if_pos h, if_pos h.symm]
    · rw [if_neg h, if_neg (fun e => h e.symm)]
theorem RdM.at {w : World} {a : Option Addr} {n cap : Nat} {m : List (List Int)} (h : RdM w (.slice a n cap) m) (i : Nat) (hi : i < m.length) :
    ∃ b off u, a = some ⟨b, off, none⟩ ∧ b < w.heap.size ∧ w.cell? ⟨b, off + i, none⟩ = some u ∧ Rd w u (m.getD i []) := by
  obtain ⟨a', cap', hv, _, _, h3⟩ := h
  simp only [Value.slice.injEq] at hv
  obtain ⟨rfl, rfl, rfl⟩ := hv
  rcases h3 with h3 | ⟨b, off, rfl, hlt, hc⟩
  · subst h3; simp at hi
  · obtain ⟨u, hu, hr⟩ := hc i hi
    exact ⟨b, off, u, rfl, hlt, hu, hr⟩
theorem below_drewC {B : Nat} {w w' : World} (h : Below B w w') : Below B w w'.drew := ⟨h.os, h.tape, h.output, h.size, h.block⟩

set_option maxRecDepth 100000 in
set_option maxHeartbeats 3200000 in
theorem countUnlike_calls (av bv : Value) (a b : List (List Int)) (n : Nat) (w : World) (ha : RdM w av a) (hb : RdM w bv b) (hal : a.length = n) (hbl : b.length = n) (hn : n ≤ 4096)
    (hr : ∀ i, i < n → (a.getD i []).length = (b.getD i []).length ∧ (a.getD i []).length ≤ 32) :
    Calls Tryd.prog 27 #[av, bv] w fun e w' => e = .returned (.int .i64 ((unlTo a b n : Nat) : Int)) ∧ Below w.heap.size w w' := by
  have RA := hide ha
  have RB := hide hb
  have HR := hide hr
  have AL := hide hal
  have BL := hide hbl
  obtain ⟨aa, acap, hav, _⟩ := ha
  obtain ⟨ba, bcap, hbv, _⟩ := hb
  rw [hal] at hav
  rw [hbl] at hbv
  subst hav hbv
  clear hr hal hbl
  go_enter Tryd.func27, Tryd.ntmps27
  go_wp2
  go_loopw [5, 9] (fun vn vi wr => ∃ k c : Nat, k ≤ n ∧ vi = .int .i64 k ∧ vn = .int .i64 c ∧ c = unlTo a b k ∧ Below w.heap.size w wr) (fun _ vi _ => n - (intOf vi).toNat)
  case atStart => exact ⟨0, 0, Nat.zero_le _, rfl, rfl, rfl, Below.refl _ _⟩
  case round =>
    obtain ⟨k, c, hk, rfl, rfl, hc, hb⟩ := hrel
    have C := hide hc
    have B := hide hb
    have hcn : c ≤ 4096 := by rw [hc]; have := unlTo_le a b k; omega
    clear hc hb
    by_cases hlt : k < n
    · have hlt' : (k : Int) < (n : Int) := by omega
      obtain ⟨ab, aoff, au, rfl, hab, hac, hau⟩ := RA.out.at k (by rw [AL.out]; exact hlt)
      obtain ⟨bb, boff, bu, rfl, hbb, hbc, hbu⟩ := RB.out.at k (by rw [BL.out]; exact hlt)
      have hac1 : wr.cell? ⟨ab, aoff + k, none⟩ = some au := (B.out.cell (p := ⟨ab, aoff + k, none⟩) hab).trans hac
      have hbc1 : wr.cell? ⟨bb, boff + k, none⟩ = some bu := (B.out.cell (p := ⟨bb, boff + k, none⟩) hbb).trans hbc
      obtain ⟨r, hrr⟩ : ∃ r, r = a.getD k [] := ⟨_, rfl⟩
      obtain ⟨s, hss⟩ : ∃ s, s = b.getD k [] := ⟨_, rfl⟩
      obtain ⟨hl1, hl2⟩ := HR.out k hlt
      rw [← hrr] at hau hl1 hl2
      rw [← hss] at hbu hl1
      obtain ⟨A, hA⟩ : ∃ A, A = padA r := ⟨_, rfl⟩
      obtain ⟨S, hS⟩ : ∃ S, S = padA s := ⟨_, rfl⟩
      obtain ⟨t, ht⟩ : ∃ t, t = decide (r = s) := ⟨_, rfl⟩
      have heq : ∀ w', Sem.run Tryd.prog (Op.equalIn 10000 70 (.agg A) (.agg S)) w' = .ok t w' := fun w' => by
        rw [hA, hS, ht]
        exact equal_whole r s hl2 (by omega) hl1 w'
      have HA : Hid (∀ W, Below w.heap.size w W → Calls Tryd.prog 47 #[au] W fun e w' => e = .returned (.agg A) ∧ Below W.heap.size W w') := fun W hW => by
        rw [hA]
        exact wholeOf_calls au r W ((hau.below hW)) hl2
      have HB : Hid (∀ W, Below w.heap.size w W → Calls Tryd.prog 47 #[bu] W fun e w' => e = .returned (.agg S) ∧ Below W.heap.size W w') := fun W hW => by
        rw [hS]
        exact wholeOf_calls bu s W ((hbu.below hW)) (by omega)
      have nx : unlTo a b (k + 1) = c + if t = true then 0 else 1 := by
        rw [unlTo, ← C.out, ht, ← hrr, ← hss]
        simp only [decide_eq_true_eq]
      have NX := hide nx
      have i0 : (0 : Int) ≤ (k : Int) := by omega
      have BD := hide (below_drewC B.out)
      obtain ⟨W0, rfl⟩ : ∃ W0, W0 = wr := ⟨_, rfl⟩
      clear hA hS ht nx hac hbc hau hbu hrr hss
      go_wp2
      go_region_with (first
        | (go_at_call 47; refine (HA.out _ BD.out).mono ?_; rintro e w1 ⟨rfl, hb1⟩; have hB1 : Below w.heap.size w w1 := BD.out.trans (hb1.mono BD.out.size); have hbc1' : w1.cell? ⟨bb, boff + k, none⟩ = some bu := (hb1.cell (p := ⟨bb, boff + k, none⟩) (Nat.lt_of_lt_of_le hbb BD.out.size)).trans hbc1)
        | (go_at_call 47; refine (HB.out _ hB1).mono ?_; rintro e w2 ⟨rfl, hb2⟩; have hB2 : Below w.heap.size w w2 := hB1.trans (hb2.mono hB1.size)))
      all_goals
        have BB := hide hB2
        clear hb1 hB1 hbc1' hb2 hB2 heq
        cases t with
        | true =>
          go_wp2
          go_roundw
          case rel => exact ⟨k + 1, c, by omega, by go_num, rfl, by rw [NX.out]; rfl, BB.out⟩
          case measure => simp [intOf]; omega
        | false =>
          go_wp2
          go_roundw
          case rel => exact ⟨k + 1, c + 1, by omega, by go_num, by go_num, by rw [NX.out]; rfl, BB.out⟩
          case measure => simp [intOf]; omega
    · obtain rfl : k = n := by omega
      go_wp2
      go_ret
      rw [C.out]
      exact ⟨rfl, B.out⟩
end Go.Proofs.YtcmohfckhikejaaDoor

namespace Go.Proofs.YtcmohfckhikejaaDoor
open Go.RowKit

theorem take_same {xs ys : List Int} {k : Nat} (h1 : k < xs.length) (h2 : k < ys.length) (h : xs.take k = ys.take k) (e : xs.getD k 0 = ys.getD k 0) : xs.take (k + 1) = ys.take (k + 1) := by
  rw [List.take_succ_eq_append_getElem h1, List.take_succ_eq_append_getElem h2, h]
  rw [List.getD_eq_getElem?_getD, List.getD_eq_getElem?_getD, List.getElem?_eq_getElem h1, List.getElem?_eq_getElem h2, Option.getD_some, Option.getD_some] at e
  rw [e]

end Go.Proofs.YtcmohfckhikejaaDoor

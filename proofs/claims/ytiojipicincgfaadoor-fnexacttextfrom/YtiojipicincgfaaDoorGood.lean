/-
  Which rows of rows are matrices: the program's function and its model's, call by call: both answer 'goodM'. No condition.
-/
import Derived.Test.YtiojipicincgfaaDoorMatC
import Derived.Test.YtiojipicincgfaaDoorEl
namespace Go.Proofs.YtiojipicincgfaaDoor
open Go.RowKit

theorem all_yes {α : Type} {l : List α} {d : α} {p : α → Bool} (h : ∀ i, i < l.length → p (l.getD i d) = true) : l.all p = true := by
  rw [List.all_eq_true]
  intro x hx
  obtain ⟨i, hi, rfl⟩ := List.mem_iff_getElem.1 hx
  have := h i hi
  rwa [List.getD_eq_getElem?_getD, List.getElem?_eq_getElem hi, Option.getD_some] at this
theorem all_at {α : Type} {l : List α} {d : α} {p : α → Bool} (h : l.all p = true) (i : Nat) (hi : i < l.length) : p (l.getD i d) = true := by
  rw [List.getD_eq_getElem?_getD, List.getElem?_eq_getElem hi, Option.getD_some]
  exact List.all_eq_true.1 h _ (List.getElem_mem hi)
theorem all_no {α : Type} {l : List α} {d : α} {p : α → Bool} {k : Nat} (hk : k < l.length) (h : p (l.getD k d) = false) : l.all p = false := by
  cases hh : l.all p with
  | false => rfl
  | true => rw [all_at hh k hk] at h; cases h
theorem Rd.row {w : World} {a : Option Addr} {n cap : Nat} {xs : List Int} (h : Rd w (.slice a n cap) xs) (i : Nat) (hi : i < xs.length) :
    ∃ b off u, a = some ⟨b, off, none⟩ ∧ w.cell? ⟨b, off + i, none⟩ = some u ∧ u = .int .i64 (xs.getD i 0) := by
  obtain ⟨a', cap', hv, _, _, h3⟩ := h
  simp only [Value.slice.injEq] at hv
  obtain ⟨rfl, rfl, rfl⟩ := hv
  rcases h3 with h3 | ⟨b, off, rfl, hlt, hc⟩
  · subst h3; simp at hi
  · exact ⟨b, off, _, rfl, hc i hi, rfl⟩

set_option maxRecDepth 100000 in
theorem isSide_calls (n : Int) (w : World) :
    Calls Tryd.prog 88 #[.int .i64 n] w fun e w' => e = .returned (.bool (decide (1 ≤ n ∧ n ≤ 8))) ∧ w = w' := by
  by_cases h : 1 ≤ n
  · by_cases h2 : n ≤ 8
    · rw [decide_eq_true ⟨h, h2⟩]
      go_enter Tryd.func88, Tryd.ntmps88
      go_wp2
      go_ret
      exact ⟨rfl, rfl⟩
    · rw [decide_eq_false (fun e => h2 e.2)]
      go_enter Tryd.func88, Tryd.ntmps88
      go_wp2
      go_ret
      exact ⟨rfl, rfl⟩
  · rw [decide_eq_false (fun e => h e.1)]
    go_enter Tryd.func88, Tryd.ntmps88
    go_wp2
    go_ret
    exact ⟨rfl, rfl⟩
set_option maxRecDepth 100000 in
theorem isLong_calls (u : Value) (r : List Int) (n : Int) (g : Nat) (w : World) (h : Rd w u r) (hg : w.cell? ⟨g, 0, none⟩ = some (.int .i64 n)) :
    Calls Tryd.prog 45 #[u, .pointer (some ⟨g, 0, none⟩)] w fun e w' => e = .returned (.bool ((fun r : List Int => decide ((r.length : Int) = n)) r)) ∧ w = w' := by
  obtain ⟨a, cap, rfl, h1, h2, h3⟩ := h
  clear h3 h2 h1
  by_cases h : (r.length : Int) = n
  · simp only [decide_eq_true h]
    have e : ((r.length : Int) == n) = true := by simp [h]
    have H := hide h
    clear h
    go_enter Tryd.func45, Tryd.ntmps45
    go_wp2
    go_ret
    exact ⟨rfl, rfl⟩
  · simp only [decide_eq_false h]
    have e : ((r.length : Int) == n) = false := by simp [h]
    go_enter Tryd.func45, Tryd.ntmps45
    go_wp2
    go_ret
    exact ⟨rfl, rfl⟩
theorem areEls_calls (v : Value) (xs : List Int) (w : World) (h : Rd w v xs) :
    Calls Tryd.prog 59 #[v] w fun e w' => e = .returned (.bool ((fun r : List Int => r.all Gf.elOk) xs)) ∧ w = w' := Gf.areElements_calls v xs w h
set_option maxRecDepth 100000 in
set_option maxHeartbeats 800000 in
theorem allLong_calls (v : Value) (m : List (List Int)) (n : Int) (g : Nat) (w : World) (h : RdM w v m) (hg : w.cell? ⟨g, 0, none⟩ = some (.int .i64 n)) :
    Calls Tryd.prog 44 #[v, .func (.func 45) #[] #[.pointer (some ⟨g, 0, none⟩)]] w fun e w' => e = .returned (.bool (m.all (fun r : List Int => decide ((r.length : Int) = n)))) ∧ w = w' := by
  have R := hide h
  obtain ⟨a, cap, rfl, h1, h2, h3⟩ := h
  have hm : m.length ≤ maxLen := by omega
  unfold maxLen at hm
  obtain ⟨p, hp⟩ : ∃ p, p = (fun r : List Int => decide ((r.length : Int) = n)) := ⟨_, rfl⟩
  rw [← hp]
  have HP := hide hp
  clear h3 h2 h1 hp
  go_enter Tryd.func44, Tryd.ntmps44
  go_wp2
  go_loop [9] (fun vi => ∃ k : Nat, k ≤ m.length ∧ vi = .int .i64 k ∧ ∀ i, i < k → p (m.getD i []) = true) (fun vi => m.length - (intOf vi).toNat)
  case atStart => exact ⟨0, Nat.zero_le _, rfl, fun i hi => by omega⟩
  case round =>
    obtain ⟨k, hk, rfl, hall⟩ := hrel
    have A := hide hall
    clear hall
    by_cases hlt : k < m.length
    · have hlt' : (k : Int) < (m.length : Int) := by omega
      obtain ⟨b, off, u, rfl, hc1, hu⟩ := R.out.row k hlt
      obtain ⟨r, hr⟩ : ∃ r, r = m.getD k [] := ⟨_, rfl⟩
      rw [← hr] at hu
      have U := hide hu
      have Hr := hide hr
      clear hu hr
      obtain ⟨q, hq⟩ : ∃ q, q = p r := ⟨_, rfl⟩
      have Q := hide hq
      have HC : Hid (Calls Tryd.prog 45 #[u, .pointer (some ⟨g, 0, none⟩)] w fun e w' => e = .returned (.bool q) ∧ w = w') := by
        rw [hq, HP.out]
        exact isLong_calls _ r _ _ _ U.out hg
      cases q with
      | true =>
        clear hq
        go_wp2_with (go_at_call 45; refine HC.out.mono ?_; rintro e w' ⟨rfl, rfl⟩)
        go_round
        case rel =>
          refine ⟨k + 1, by omega, by go_num, fun i hi => ?_⟩
          by_cases e : i = k
          · subst e; rw [← Hr.out, ← Q.out]
          · exact A.out i (by omega)
        case measure => simp [intOf]; omega
      | false =>
        clear hq
        go_wp2_with (go_at_call 45; refine HC.out.mono ?_; rintro e w' ⟨rfl, rfl⟩)
        go_ret
        exact ⟨Gf.ret_bool (all_no hlt (by rw [← Hr.out, ← Q.out])).symm, rfl⟩
    · obtain rfl : k = m.length := by omega
      go_wp2
      go_ret
      exact ⟨Gf.ret_bool (all_yes A.out).symm, rfl⟩
set_option maxRecDepth 100000 in
set_option maxHeartbeats 800000 in
theorem allEls_calls (v : Value) (m : List (List Int))  (w : World) (h : RdM w v m) :
    Calls Tryd.prog 44 #[v, .func (.func 59) #[] #[]] w fun e w' => e = .returned (.bool (m.all (fun r : List Int => r.all Gf.elOk))) ∧ w = w' := by
  have R := hide h
  obtain ⟨a, cap, rfl, h1, h2, h3⟩ := h
  have hm : m.length ≤ maxLen := by omega
  unfold maxLen at hm
  obtain ⟨p, hp⟩ : ∃ p, p = (fun r : List Int => r.all Gf.elOk) := ⟨_, rfl⟩
  rw [← hp]
  have HP := hide hp
  clear h3 h2 h1 hp
  go_enter Tryd.func44, Tryd.ntmps44
  go_wp2
  go_loop [9] (fun vi => ∃ k : Nat, k ≤ m.length ∧ vi = .int .i64 k ∧ ∀ i, i < k → p (m.getD i []) = true) (fun vi => m.length - (intOf vi).toNat)
  case atStart => exact ⟨0, Nat.zero_le _, rfl, fun i hi => by omega⟩
  case round =>
    obtain ⟨k, hk, rfl, hall⟩ := hrel
    have A := hide hall
    clear hall
    by_cases hlt : k < m.length
    · have hlt' : (k : Int) < (m.length : Int) := by omega
      obtain ⟨b, off, u, rfl, hc1, hu⟩ := R.out.row k hlt
      obtain ⟨r, hr⟩ : ∃ r, r = m.getD k [] := ⟨_, rfl⟩
      rw [← hr] at hu
      have U := hide hu
      have Hr := hide hr
      clear hu hr
      obtain ⟨q, hq⟩ : ∃ q, q = p r := ⟨_, rfl⟩
      have Q := hide hq
      have HC : Hid (Calls Tryd.prog 59 #[u] w fun e w' => e = .returned (.bool q) ∧ w = w') := by
        rw [hq, HP.out]
        exact areEls_calls _ r _ U.out
      cases q with
      | true =>
        clear hq
        go_wp2_with (go_at_call 59; refine HC.out.mono ?_; rintro e w' ⟨rfl, rfl⟩)
        go_round
        case rel =>
          refine ⟨k + 1, by omega, by go_num, fun i hi => ?_⟩
          by_cases e : i = k
          · subst e; rw [← Hr.out, ← Q.out]
          · exact A.out i (by omega)
        case measure => simp [intOf]; omega
      | false =>
        clear hq
        go_wp2_with (go_at_call 59; refine HC.out.mono ?_; rintro e w' ⟨rfl, rfl⟩)
        go_ret
        exact ⟨Gf.ret_bool (all_no hlt (by rw [← Hr.out, ← Q.out])).symm, rfl⟩
    · obtain rfl : k = m.length := by omega
      go_wp2
      go_ret
      exact ⟨Gf.ret_bool (all_yes A.out).symm, rfl⟩

set_option maxRecDepth 100000 in
theorem areAllLong_calls (v : Value) (m : List (List Int)) (n : Int) (w : World) (h : RdM w v m) :
    Calls Tryd.prog 28 #[v, .int .i64 n] w fun e w' => e = .returned (.bool (m.all fun r : List Int => decide ((r.length : Int) = n))) ∧ Below w.heap.size w w' := by
  have R := hide h
  have S : ∃ a n c, v = .slice a n c := by
    obtain ⟨a, cap, rfl, _⟩ := h
    exact ⟨_, _, _, rfl⟩
  obtain ⟨a, k, c, rfl⟩ := S
  clear h
  go_enter Tryd.func28, Tryd.ntmps28
  go_wp2_with fail
  refine (allLong_calls _ m n _ _ (R.out.below ((Below.refl _ _).alloc (Nat.le_refl _) _)) (World.cell?_alloc_at _ _ _ _ rfl)).mono ?_
  rintro e w' ⟨rfl, rfl⟩
  go_wp2
  go_ret
  exact ⟨rfl, (Below.refl _ _).alloc (Nat.le_refl _) _⟩

/-- What both call a matrix. -/
def goodM (m : List (List Int)) : Bool :=
  decide (1 ≤ (m.length : Int) ∧ (m.length : Int) ≤ 8) && (decide (1 ≤ ((m.getD 0 []).length : Int) ∧ ((m.getD 0 []).length : Int) ≤ 8) && (m.all (fun r : List Int => decide ((r.length : Int) = ((m.getD 0 []).length : Int))) && m.all (fun r : List Int => r.all Gf.elOk)))
theorem goodM_rows {m : List (List Int)} (h : goodM m = true) : 1 ≤ m.length ∧ m.length ≤ 8 ∧ 1 ≤ (m.getD 0 []).length ∧ (m.getD 0 []).length ≤ 8 ∧ ∀ i, i < m.length → (m.getD i []).length = (m.getD 0 []).length ∧ (m.getD i []).all Gf.elOk = true := by
  simp only [goodM, Bool.and_eq_true, decide_eq_true_eq] at h
  obtain ⟨h1, h2, h3, h4⟩ := h
  refine ⟨by omega, by omega, by omega, by omega, fun i hi => ⟨?_, all_at h4 i hi⟩⟩
  have := all_at (d := []) h3 i hi
  simp only [decide_eq_true_eq] at this
  omega
theorem goodM_tot {m : List (List Int)} (h : goodM m = true) : m.length + tot m ≤ 1048576 := by
  obtain ⟨h1, h2, h3, h4, h5⟩ := goodM_rows h
  have : ∀ k, k ≤ m.length → tot (m.take k) ≤ 8 * k := by
    intro k
    induction k with
    | zero => intro _; simp [tot]
    | succ k ih =>
      intro hk
      rw [tot_take_succ m k (by omega)]
      have := ih (by omega)
      have := (h5 k (by omega)).1
      omega
  have := this m.length (Nat.le_refl _)
  rw [List.take_length] at this
  omega

end Go.Proofs.YtiojipicincgfaaDoor

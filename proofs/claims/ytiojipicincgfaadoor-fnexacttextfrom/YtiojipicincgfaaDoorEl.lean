/-
  Elements of the field in lists: which integers are elements, which lists hold elements alone, which integers lie between two: the program's functions and its model's, call by call; memory stays as it was. No condition.
-/
import Derived.Test.YtiojipicincgfaaDoorInts
import Derived.Deep.RegionWith
namespace Go.Proofs.YtiojipicincgfaaDoor
open Go.RowKit
namespace Gf

theorem isE_yes (a : Int) (w : World) (ha0 : 0 ≤ a) (ha : a < 256) :
    Calls Tryd.prog 76 #[.int .i64 a] w fun e w' => e = .returned (.bool true) ∧ w = w' := by
  go_enter Tryd.func76, Tryd.ntmps76
  go_wp2
  go_ret
  exact ⟨rfl, rfl⟩
theorem l1In_yes (a lo hi : Int) (w : World) (ha0 : lo ≤ a) (ha : a ≤ hi) :
    Calls Tryd.prog 63 #[.int .i64 a, .int .i64 lo, .int .i64 hi] w fun e w' => e = .returned (.bool true) ∧ w = w' := by
  go_enter Tryd.func63, Tryd.ntmps63
  go_wp2
  go_ret
  exact ⟨rfl, rfl⟩
theorem l1Gf_yes (a : Int) (w : World) (ha0 : 0 ≤ a) (ha : a ≤ 255) :
    Calls Tryd.prog 62 #[.int .i64 a] w fun e w' => e = .returned (.bool true) ∧ w = w' := by
  go_enter Tryd.func62, Tryd.ntmps62
  go_wp2
  go_ret
  exact ⟨rfl, rfl⟩
/-- An owned slice that is not empty, opened. -/
theorem Own.open {w : World} {base : Nat} {v : Value} {xs : List Int} (h : Own w base v xs) (hn : 0 < xs.length) :
    ∃ g cap, v = .slice (some ⟨g, 0, none⟩) xs.length cap ∧ base ≤ g ∧ g < w.heap.size ∧ ∀ i, i < xs.length → w.cell? ⟨g, i, none⟩ = some (.int .i64 (xs.getD i 0)) := by
  rcases h.2 with ⟨_, h0⟩ | ⟨g, cap, cur, rfl, hb, hg, _⟩
  · omega
  · refine ⟨g, cap, rfl, hb, (Array.getElem?_eq_some_iff.1 hg).1, fun i hi => ?_⟩
    rw [World.ownsRow.cellAt h i (by omega)]
    simp [hi]

def elOk (x : Int) : Bool := decide (0 ≤ x ∧ x ≤ 255)
theorem ret_bool {a b : Bool} (h : a = b) : Ending.returned (.bool a) = .returned (.bool b) := by rw [h]
theorem elOk_iff {x : Int} : elOk x = true ↔ 0 ≤ x ∧ x ≤ 255 := by simp [elOk]
theorem elOk_no {x : Int} : elOk x = false ↔ ¬ (0 ≤ x ∧ x ≤ 255) := by simp [elOk]
theorem all_of_getD {xs : List Int} : (xs.all elOk = true) ↔ ∀ i, i < xs.length → elOk (xs.getD i 0) = true := by
  rw [List.all_eq_true]
  constructor
  · intro h i hi
    rw [List.getD_eq_getElem?_getD, List.getElem?_eq_getElem hi, Option.getD_some]
    exact h _ (List.getElem_mem hi)
  · intro h x hx
    obtain ⟨i, hi, rfl⟩ := List.mem_iff_getElem.1 hx
    have := h i hi
    rwa [List.getD_eq_getElem?_getD, List.getElem?_eq_getElem hi, Option.getD_some] at this
theorem all_bad {xs : List Int} {k : Nat} (hk : k < xs.length) (h : elOk (xs.getD k 0) = false) : xs.all elOk = false := by
  cases hh : xs.all elOk with
  | false => rfl
  | true => rw [all_of_getD.1 hh k hk] at h; cases h
/-- An element's outcome, in the walk's own form. -/
theorem elOk_tests {z : Int} (h : elOk z = true) : 0 ≤ z ∧ z < 256 := by have := elOk_iff.1 h; omega

set_option maxRecDepth 100000 in
theorem isE_calls (a : Int) (w : World) :
    Calls Tryd.prog 76 #[.int .i64 a] w fun e w' => e = .returned (.bool (elOk a)) ∧ w = w' := by
  by_cases h : 0 ≤ a
  · by_cases h2 : a < 256
    · have e : elOk a = true := elOk_iff.2 (by omega)
      rw [e]
      exact isE_yes a w h h2
    · have e : elOk a = false := elOk_no.2 (by omega)
      rw [e]
      go_enter Tryd.func76, Tryd.ntmps76
      go_wp2
      go_ret
      exact ⟨rfl, rfl⟩
  · have e : elOk a = false := elOk_no.2 (by omega)
    rw [e]
    go_enter Tryd.func76, Tryd.ntmps76
    go_wp2
    go_ret
    exact ⟨rfl, rfl⟩
set_option maxRecDepth 100000 in
theorem l1Gf_calls (a : Int) (w : World) :
    Calls Tryd.prog 62 #[.int .i64 a] w fun e w' => e = .returned (.bool (elOk a)) ∧ w = w' := by
  by_cases h : 0 ≤ a
  · by_cases h2 : a ≤ 255
    · have e : elOk a = true := elOk_iff.2 (by omega)
      rw [e]
      exact l1Gf_yes a w h h2
    · have e : elOk a = false := elOk_no.2 (by omega)
      rw [e]
      go_enter Tryd.func62, Tryd.ntmps62
      go_wp2
      go_ret
      exact ⟨rfl, rfl⟩
  · have e : elOk a = false := elOk_no.2 (by omega)
    rw [e]
    go_enter Tryd.func62, Tryd.ntmps62
    go_wp2
    go_ret
    exact ⟨rfl, rfl⟩

set_option maxRecDepth 100000 in
set_option maxHeartbeats 400000 in
theorem l1All_calls (v : Value) (xs : List Int) (w : World) (h : Rd w v xs) :
    Calls Tryd.prog 40 #[v] w fun e w' => e = .returned (.bool (xs.all elOk)) ∧ w = w' := by
  obtain ⟨a, cap, rfl, h1, h2, h3⟩ := h
  have hm : xs.length ≤ maxLen := by omega
  unfold maxLen at hm
  have H := hide h3
  clear h3 h2
  go_enter Tryd.func40, Tryd.ntmps40
  go_wp2
  go_loop [7] (fun vi => ∃ k : Nat, k ≤ xs.length ∧ vi = .int .i64 k ∧ ∀ i, i < k → elOk (xs.getD i 0) = true) (fun vi => xs.length - (intOf vi).toNat)
  case atStart => exact ⟨0, Nat.zero_le _, rfl, fun i hi => by omega⟩
  case round =>
    obtain ⟨k, hk, rfl, hall⟩ := hrel
    have A := hide hall
    clear hall
    by_cases hlt : k < xs.length
    · rcases H.out with h3 | ⟨b, off, rfl, hbs, hc⟩
      · subst h3; simp at hlt
      have hc1 := hc k hlt
      clear hc
      obtain ⟨z, hz⟩ : ∃ z, z = xs.getD k 0 := ⟨_, rfl⟩
      rw [← hz] at hc1
      have Z := hide hz
      clear hz
      cases hel : elOk z with
      | true =>
        go_wp2_with (go_at_call 62; refine (l1Gf_calls _ _).mono ?_; rintro e w' ⟨rfl, rfl⟩)
        go_round
        case rel =>
          refine ⟨k + 1, by omega, by go_num, fun i hi => ?_⟩
          by_cases e : i = k
          · subst e; rw [← Z.out]; exact hel
          · exact A.out i (by omega)
        case measure => simp [intOf]; omega
      | false =>
        go_wp2_with (go_at_call 62; refine (l1Gf_calls _ _).mono ?_; rintro e w' ⟨rfl, rfl⟩)
        go_ret
        exact ⟨ret_bool (by rw [all_bad hlt (by rw [← Z.out]; exact hel)]), rfl⟩
    · obtain rfl : k = xs.length := by omega
      go_wp2
      go_ret
      exact ⟨ret_bool (by rw [all_of_getD.2 A.out]), rfl⟩

theorem quiet_same {P : Program} {f : FuncId} {args : Array Value} {w : World} {n : Nat} {v : Value}
    (h : Calls P f args (w.drewN n) fun e w' => e = .returned v ∧ w.drewN n = w') : Calls P f args (w.drewN n) fun e w'' => e = .returned v ∧ ∃ m, w'' = w.drewN m :=
  h.mono fun _ _ ⟨he, hm⟩ => ⟨he, n, hm.symm⟩
set_option maxRecDepth 100000 in
set_option maxHeartbeats 400000 in
theorem areElements_calls (v : Value) (xs : List Int) (w : World) (h : Rd w v xs) :
    Calls Tryd.prog 59 #[v] w fun e w' => e = .returned (.bool (xs.all elOk)) ∧ w = w' := by
  obtain ⟨a, cap, rfl, h1, h2, h3⟩ := h
  have hm : xs.length ≤ maxLen := by omega
  unfold maxLen at hm
  have H := hide h3
  clear h3 h2
  go_enter Tryd.func59, Tryd.ntmps59
  go_wp2
  go_loop [7] (fun vi => ∃ k : Nat, k ≤ xs.length ∧ vi = .int .i64 k ∧ ∀ i, i < k → elOk (xs.getD i 0) = true) (fun vi => xs.length - (intOf vi).toNat)
  case atStart => exact ⟨0, Nat.zero_le _, rfl, fun i hi => by omega⟩
  case round =>
    obtain ⟨k, hk, rfl, hall⟩ := hrel
    have A := hide hall
    clear hall
    by_cases hlt : k < xs.length
    · rcases H.out with h3 | ⟨b, off, rfl, hbs, hc⟩
      · subst h3; simp at hlt
      have hc1 := hc k hlt
      clear hc
      obtain ⟨z, hz⟩ : ∃ z, z = xs.getD k 0 := ⟨_, rfl⟩
      rw [← hz] at hc1
      have Z := hide hz
      clear hz
      cases hel : elOk z with
      | true =>
        go_wp2_with (go_at_call 76; refine (isE_calls _ _).mono ?_; rintro e w' ⟨rfl, rfl⟩)
        go_round
        case rel =>
          refine ⟨k + 1, by omega, by go_num, fun i hi => ?_⟩
          by_cases e : i = k
          · subst e; rw [← Z.out]; exact hel
          · exact A.out i (by omega)
        case measure => simp [intOf]; omega
      | false =>
        go_wp2_with (go_at_call 76; refine (isE_calls _ _).mono ?_; rintro e w' ⟨rfl, rfl⟩)
        go_ret
        exact ⟨ret_bool (by rw [all_bad hlt (by rw [← Z.out]; exact hel)]), rfl⟩
    · obtain rfl : k = xs.length := by omega
      go_wp2
      go_ret
      exact ⟨ret_bool (by rw [all_of_getD.2 A.out]), rfl⟩
set_option maxRecDepth 100000 in
theorem l1In_calls (a lo hi : Int) (w : World) :
    Calls Tryd.prog 63 #[.int .i64 a, .int .i64 lo, .int .i64 hi] w fun e w' => e = .returned (.bool (decide (lo ≤ a ∧ a ≤ hi))) ∧ w = w' := by
  by_cases h : lo ≤ a
  · by_cases h2 : a ≤ hi
    · rw [decide_eq_true ⟨h, h2⟩]
      exact l1In_yes a lo hi w h h2
    · rw [decide_eq_false (fun e => h2 e.2)]
      go_enter Tryd.func63, Tryd.ntmps63
      go_wp2
      go_ret
      exact ⟨rfl, rfl⟩
  · rw [decide_eq_false (fun e => h e.1)]
    go_enter Tryd.func63, Tryd.ntmps63
    go_wp2
    go_ret
    exact ⟨rfl, rfl⟩
end Gf
end Go.Proofs.YtiojipicincgfaaDoor

/-
  Whether rooms are good, of the program: the parts of it, call by call. Each contract says what it asks. Whether rooms are good, of the program: the held ones, the cover, the whole. Each contract says what it asks.
-/
import Derived.Test.YtjffjoednmlkiaaPlayRoomsB15
namespace Go.Proofs.Ytjffjoednmlkiaa
open Go.RowKit Go.Maps Go.MapKept Go.ChangeMaps
set_option linter.unusedVariables false

theorem ret_boolR {a b : Bool} (h : a = b) : Ending.returned (.bool a) = Ending.returned (.bool b) := by rw [h]
/-- The number at place i is at least 0, below the end, and greater than the one ahead of it. -/
def risAtR (xs : List Int) (e : Int) (i : Nat) : Bool := decide (0 ≤ xs.getD i 0 ∧ xs.getD i 0 < e ∧ (i = 0 ∨ xs.getD (i - 1) 0 < xs.getD i 0))
def risesR (xs : List Int) (e : Int) : Bool := (List.range xs.length).all (risAtR xs e)
theorem rises_yesR {xs : List Int} {e : Int} (h : ∀ i, i < xs.length → risAtR xs e i = true) : risesR xs e = true := by
  rw [risesR, List.all_eq_true]
  intro i hi
  exact h i (List.mem_range.1 hi)
theorem rises_atR {xs : List Int} {e : Int} (h : risesR xs e = true) (i : Nat) (hi : i < xs.length) : risAtR xs e i = true := List.all_eq_true.1 h i (List.mem_range.2 hi)
theorem rises_noR {xs : List Int} {e : Int} {k : Nat} (hk : k < xs.length) (h : risAtR xs e k = false) : risesR xs e = false := by
  cases hh : risesR xs e with
  | false => rfl
  | true => rw [rises_atR hh k hk] at h; cases h

set_option maxRecDepth 100000 in
set_option maxHeartbeats 800000 in
theorem areRising_callsR (v : Value) (xs : List Int) (en : Int) (w : World) (h : Rd w v xs) (h0 : 0 ≤ en) (h1 : en ≤ 1048576) :
    Calls Try.prog 145 #[v, .int .i64 en] w fun e w' => e = .returned (.bool (risesR xs en)) ∧ w = w' := by
  have R := hide h
  obtain ⟨a, cap, rfl, q1, q2, q3⟩ := h
  have hm : xs.length ≤ maxLen := by omega
  unfold maxLen at hm
  clear q1 q2 q3
  go_enter Try.func145, Try.ntmps145
  go_wp2
  go_loop [5, 10] (fun vl vi => ∃ (k : Nat) (l : Int), k ≤ xs.length ∧ vi = .int .i64 k ∧ vl = .int .i64 l ∧ 0 ≤ l ∧ l ≤ 1048576 ∧ (k = 0 → l = 0) ∧ (0 < k → l = xs.getD (k - 1) 0 + 1) ∧ ∀ i, i < k → risAtR xs en i = true) (fun _ vi => xs.length - (intOf vi).toNat)
  case atStart => exact ⟨0, 0, Nat.zero_le _, rfl, rfl, by omega, by omega, fun _ => rfl, fun h => by omega, fun i hi => by omega⟩
  case round =>
    obtain ⟨k, l, hk, rfl, rfl, hl0, hl1, hz, hp, hall⟩ := hrel
    have A := hide hall
    have HZ := hide hz
    have HP := hide hp
    clear hall hz hp
    by_cases hlt : k < xs.length
    · have hlt' : (k : Int) < (xs.length : Int) := by omega
      obtain ⟨b, off, rfl, hc⟩ := R.out.cellAt k hlt
      obtain ⟨x, hx⟩ : ∃ x, x = xs.getD k 0 := ⟨_, rfl⟩
      rw [← hx] at hc
      have X := hide hx
      clear hx
      have key : risAtR xs en k = decide (l ≤ x ∧ x < en) := by
        unfold risAtR
        rw [← X.out]
        congr 1
        by_cases e : k = 0
        · have := HZ.out e
          subst this
          simp [e]
        · have := HP.out (by omega)
          have h' := A.out (k - 1) (by omega)
          unfold risAtR at h'
          simp only [decide_eq_true_eq] at h'
          apply propext
          constructor
          · rintro ⟨a1, a2, a3⟩
            exact ⟨by omega, a2⟩
          · rintro ⟨a1, a2⟩
            exact ⟨by omega, a2, .inr (by omega)⟩
      have KEY := hide key
      clear key
      by_cases c1 : l ≤ x
      · have c1' : ¬ x < l := by omega
        by_cases c2 : x < en
        · have c2' : ¬ en ≤ x := by omega
          go_wp2
          go_round
          case rel =>
            refine ⟨k + 1, x + 1, by omega, by go_num, by go_num, by omega, by omega, fun h => by omega, fun _ => by rw [X.out]; simp, fun i hi => ?_⟩
            by_cases e : i = k
            · subst e; rw [KEY.out]; exact decide_eq_true ⟨c1, c2⟩
            · exact A.out i (by omega)
          case measure => simp [intOf]; omega
        · have c2' : en ≤ x := by omega
          go_wp2
          go_ret
          exact ⟨ret_boolR (rises_noR hlt (by rw [KEY.out]; exact decide_eq_false (fun h => by omega))).symm, rfl⟩
      · have c1' : x < l := by omega
        go_wp2
        go_ret
        exact ⟨ret_boolR (rises_noR hlt (by rw [KEY.out]; exact decide_eq_false (fun h => by omega))).symm, rfl⟩
    · obtain rfl : k = xs.length := by omega
      go_wp2
      go_ret
      exact ⟨ret_boolR (rises_yesR A.out).symm, rfl⟩


theorem rises_iffR (xs : List Int) (e : Int) : risesR xs e = true ↔ ∀ i, i < xs.length → 0 ≤ xs.getD i 0 ∧ xs.getD i 0 < e ∧ (i = 0 ∨ xs.getD (i - 1) 0 < xs.getD i 0) := by
  constructor
  · intro h i hi
    have := rises_atR h i hi
    unfold risAtR at this
    exact of_decide_eq_true this
  · intro h
    exact rises_yesR fun i hi => decide_eq_true (h i hi)


theorem bol_exR (p : Prop) : ∃ g : Bool, g = true ↔ p := by
  by_cases h : p
  · exact ⟨true, fun _ => h, fun _ => rfl⟩
  · exact ⟨false, fun e => by simp at e, fun e => absurd e h⟩
set_option maxRecDepth 100000 in
set_option maxHeartbeats 800000 in
theorem indexR_calls (v : Value) (xs : List Int) (x : Int) (w : World) (h : Rd w v xs) :
    Calls Try.prog 185 #[v, .int .i64 x] w fun e w' => (∃ r : Int, e = .returned (.int .i64 r) ∧ (0 ≤ r ↔ x ∈ xs)) ∧ w = w' := by
  have R := hide h
  obtain ⟨a, cap, rfl, q1, q2, q3⟩ := h
  have hm : xs.length ≤ maxLen := by omega
  unfold maxLen at hm
  clear q1 q2 q3
  go_enter Try.func185, Try.ntmps185
  go_wp2
  go_loop [8] (fun vi => ∃ k : Nat, k ≤ xs.length ∧ vi = .int .i64 k ∧ ∀ i, i < k → xs.getD i 0 ≠ x) (fun vi => xs.length - (intOf vi).toNat)
  case atStart => exact ⟨0, Nat.zero_le _, rfl, fun i hi => by omega⟩
  case round =>
    obtain ⟨k, hk, rfl, hall⟩ := hrel
    have A := hide hall
    clear hall
    by_cases hlt : k < xs.length
    · have hlt' : (k : Int) < (xs.length : Int) := by omega
      obtain ⟨b, off, rfl, hc⟩ := R.out.cellAt k hlt
      obtain ⟨y, hy⟩ : ∃ y, y = xs.getD k 0 := ⟨_, rfl⟩
      rw [← hy] at hc
      have Y := hide hy
      clear hy
      by_cases e : x = y
      · have te : (x == y) = true := by simpa using e
        have M : Hid (x ∈ xs) := by
          show x ∈ xs
          rw [e, Y.out, List.getD_eq_getElem?_getD, List.getElem?_eq_getElem hlt, Option.getD_some]
          exact List.getElem_mem hlt
        clear e
        go_wp2
        go_ret
        exact ⟨⟨_, rfl, fun _ => M.out, fun _ => by omega⟩, rfl⟩
      · have te : (x == y) = false := by simpa using e
        have E := hide e
        clear e
        go_wp2
        go_round
        case rel =>
          refine ⟨k + 1, by omega, by go_num, fun i hi => ?_⟩
          by_cases e : i = k
          · subst e; rw [← Y.out]; exact fun h => E.out h.symm
          · exact A.out i (by omega)
        case measure => simp [intOf]; omega
    · obtain rfl : k = xs.length := by omega
      have M : Hid (¬ x ∈ xs) := by
        intro h
        obtain ⟨i, hi, he⟩ := List.getElem_of_mem h
        exact A.out i hi (by rw [List.getD_eq_getElem?_getD, List.getElem?_eq_getElem hi, Option.getD_some]; exact he)
      go_wp2
      go_ret
      exact ⟨⟨-1, rfl, fun h => by omega, fun h => absurd h M.out⟩, rfl⟩
set_option maxRecDepth 100000 in
theorem containsR_calls (v : Value) (xs : List Int) (x : Int) (w : World) (h : Rd w v xs) :
    Calls Try.prog 176 #[v, .int .i64 x] w fun e w' => e = .returned (.bool (decide (x ∈ xs))) ∧ w = w' := by
  obtain ⟨y, hy⟩ : ∃ y, y = decide (x ∈ xs) := ⟨_, rfl⟩
  rw [← hy]
  have Y := hide hy
  clear hy
  go_enter Try.func176, Try.ntmps176
  go_wp2_with fail
  refine (indexR_calls v xs x w h).mono ?_
  rintro e w1 ⟨⟨r, rfl, hr⟩, rfl⟩
  have e2 : decide (0 ≤ r) = y := by rw [Y.out]; exact decide_eq_decide.2 hr
  have E2 := hide e2
  clear hr e2
  go_wp2
  go_ret
  rw [← E2.out]
  exact ⟨rfl, rfl⟩

set_option maxRecDepth 100000 in
set_option maxHeartbeats 800000 in
theorem hasBuddy_calls (v : Value) (xs : List Int) (a o : Int) (w : World) (h : Rd w v xs) :
    Calls Try.prog 148 #[v, .int .i64 a, .int .i64 o] w fun e w' => e = .returned (.bool (bdB a o && decide (bdV a o ∈ xs))) ∧ w = w' := by
  have C := hide (buddyOf_calls a o w)
  have D := hide (containsR_calls v xs (bdV a o) w h)
  obtain ⟨y, hy⟩ : ∃ y, y = bdV a o := ⟨_, rfl⟩
  obtain ⟨z, hz⟩ : ∃ z, z = decide (bdV a o ∈ xs) := ⟨_, rfl⟩
  rw [← hz] at D ⊢
  rw [← hy] at C D
  obtain ⟨q, hq⟩ : ∃ q, q = bdB a o := ⟨_, rfl⟩
  rw [← hq] at C ⊢
  clear hy hz h hq
  cases q with
  | false =>
    go_enter Try.func148, Try.ntmps148
    go_wp2_with (go_at_call 152; refine C.out.mono ?_; rintro e w' ⟨rfl, rfl⟩)
    go_ret
    exact ⟨rfl, rfl⟩
  | true =>
    rw [Bool.true_and]
    go_enter Try.func148, Try.ntmps148
    go_wp2_with (first | (go_at_call 152; refine C.out.mono ?_; rintro e w' ⟨rfl, rfl⟩) | (go_at_call 176; refine D.out.mono ?_; rintro e w' ⟨rfl, rfl⟩))
    go_ret
    exact ⟨rfl, rfl⟩

/-- A free room of a row. -/
def rmFree (xs : List Int) (o : Int) (a : Int) : Bool := rmB a o && !(bdB a o && decide (bdV a o ∈ xs))
set_option maxRecDepth 100000 in
set_option maxHeartbeats 800000 in
theorem isFree_calls (a o : Int) (v : Value) (xs : List Int) (g1 g2 : Nat) (w : World) (h : Rd w v xs) (h1 : w.cell? ⟨g1, 0, none⟩ = some (.int .i64 o)) (h2 : w.cell? ⟨g2, 0, none⟩ = some v) :
    Calls Try.prog 147 #[.int .i64 a, .pointer (some ⟨g1, 0, none⟩), .pointer (some ⟨g2, 0, none⟩)] w fun e w' => e = .returned (.bool (rmFree xs o a)) ∧ w = w' := by
  have C := hide (isRoom_calls a o w)
  have D := hide (hasBuddy_calls v xs a o w h)
  unfold rmFree
  obtain ⟨z, hz⟩ : ∃ z, z = (bdB a o && decide (bdV a o ∈ xs)) := ⟨_, rfl⟩
  rw [← hz] at D ⊢
  obtain ⟨av, cv, rfl, _⟩ := h
  obtain ⟨q, hq⟩ : ∃ q, q = rmB a o := ⟨_, rfl⟩
  rw [← hq] at C ⊢
  clear hz hq
  cases q with
  | false =>
    go_enter Try.func147, Try.ntmps147
    go_wp2_with (go_at_call 142; refine C.out.mono ?_; rintro e w' ⟨rfl, rfl⟩)
    go_ret
    exact ⟨rfl, rfl⟩
  | true =>
    rw [Bool.true_and]
    go_enter Try.func147, Try.ntmps147
    go_wp2_with (first | (go_at_call 142; refine C.out.mono ?_; rintro e w' ⟨rfl, rfl⟩) | (go_at_call 148; refine D.out.mono ?_; rintro e w' ⟨rfl, rfl⟩))
    go_ret
    exact ⟨rfl, rfl⟩
theorem all_takeR {α : Type} (g : α → Bool) (xs : List α) (d : α) (h : ∀ i, i < xs.length → g (xs.getD i d) = true) : xs.all g = true := by
  rw [List.all_eq_true]
  intro x hx
  obtain ⟨i, hi, rfl⟩ := List.getElem_of_mem hx
  have := h i hi
  rwa [List.getD_eq_getElem?_getD, List.getElem?_eq_getElem hi, Option.getD_some] at this
theorem all_noR {α : Type} (g : α → Bool) (xs : List α) (d : α) (k : Nat) (hk : k < xs.length) (h : g (xs.getD k d) = false) : xs.all g = false := by
  cases ha : xs.all g with
  | false => rfl
  | true =>
    rw [List.all_eq_true] at ha
    have := ha (xs.getD k d) (by rw [List.getD_eq_getElem?_getD, List.getElem?_eq_getElem hk, Option.getD_some]; exact List.getElem_mem hk)
    rw [h] at this
    cases this

set_option maxRecDepth 100000 in
theorem isOne_calls (a : Int) (w : World) : Calls Try.prog 151 #[.int .i64 a] w fun e w' => e = .returned (.bool (a == 1)) ∧ w = w' := by
  go_enter Try.func151, Try.ntmps151
  go_wp2
  go_ret
  exact ⟨rfl, rfl⟩

set_option maxRecDepth 100000 in
set_option maxHeartbeats 800000 in
theorem allFree_calls (v : Value) (xs : List Int) (o : Int) (u : Value) (ys : List Int) (g1 g2 : Nat) (w : World) (h : Rd w v xs) (hu : Rd w u ys) (h1 : w.cell? ⟨g1, 0, none⟩ = some (.int .i64 o)) (h2 : w.cell? ⟨g2, 0, none⟩ = some u) :
    Calls Try.prog 140 #[v, .func (.func 147) #[] #[.pointer (some ⟨g1, 0, none⟩), .pointer (some ⟨g2, 0, none⟩)]] w fun e w' => e = .returned (.bool (xs.all (rmFree ys o))) ∧ w = w' := by
  have R := hide h
  obtain ⟨G, hG⟩ : ∃ G : Int → Bool, G = (rmFree ys o) := ⟨_, rfl⟩
  have C : Hid (∀ x, Calls Try.prog 147 #[.int .i64 x, .pointer (some ⟨g1, 0, none⟩), .pointer (some ⟨g2, 0, none⟩)] w fun e w' => e = .returned (.bool (G x)) ∧ w = w') := by
    intro x
    rw [hG]
    exact isFree_calls x o u ys g1 g2 w hu h1 h2
  rw [← hG]
  clear hG h1 h2 hu
  obtain ⟨a, cap, rfl, q1, q2, q3⟩ := h
  have hm : xs.length ≤ maxLen := by omega
  unfold maxLen at hm
  clear q1 q2 q3
  go_enter Try.func140, Try.ntmps140
  go_wp2
  go_loop [9] (fun vi => ∃ k : Nat, k ≤ xs.length ∧ vi = .int .i64 k ∧ ∀ i, i < k → G (xs.getD i 0) = true) (fun vi => xs.length - (intOf vi).toNat)
  case atStart => exact ⟨0, Nat.zero_le _, rfl, fun i hi => by omega⟩
  case round =>
    obtain ⟨k, hk, rfl, hall⟩ := hrel
    have A := hide hall
    clear hall
    by_cases hlt : k < xs.length
    · have hlt' : (k : Int) < (xs.length : Int) := by omega
      obtain ⟨b, off, rfl, hc⟩ := R.out.cellAt k hlt
      obtain ⟨y, hy⟩ : ∃ y, y = xs.getD k 0 := ⟨_, rfl⟩
      rw [← hy] at hc
      have CC := hide (C.out y)
      have Y := hide hy
      clear hy
      cases hg : G y with
      | true =>
        rw [hg] at CC
        have HG := hide hg
        clear hg
        go_wp2_with (go_at_call 147; refine CC.out.mono ?_; rintro e w' ⟨rfl, rfl⟩)
        go_round
        case rel =>
          refine ⟨k + 1, by omega, by go_num, fun i hi => ?_⟩
          by_cases e : i = k
          · subst e; rw [← Y.out]; exact HG.out
          · exact A.out i (by omega)
        case measure => simp [intOf]; omega
      | false =>
        rw [hg] at CC
        have HG : Hid (xs.all G = false) := all_noR G xs 0 k hlt (by rw [← Y.out]; exact hg)
        clear hg
        go_wp2_with (go_at_call 147; refine CC.out.mono ?_; rintro e w' ⟨rfl, rfl⟩)
        go_ret
        rw [HG.out]
        exact ⟨rfl, rfl⟩
    · obtain rfl : k = xs.length := by omega
      have HG : Hid (xs.all G = true) := all_takeR G xs 0 A.out
      go_wp2
      go_ret
      rw [HG.out]
      exact ⟨rfl, rfl⟩

set_option maxRecDepth 100000 in
set_option maxHeartbeats 800000 in
theorem allOne_calls (v : Value) (xs : List Int) (w : World) (h : Rd w v xs) :
    Calls Try.prog 140 #[v, .func (.func 151) #[] #[]] w fun e w' => e = .returned (.bool (xs.all (fun a => a == 1))) ∧ w = w' := by
  have R := hide h
  obtain ⟨G, hG⟩ : ∃ G : Int → Bool, G = (fun a => a == 1) := ⟨_, rfl⟩
  have C : Hid (∀ x, Calls Try.prog 151 #[.int .i64 x] w fun e w' => e = .returned (.bool (G x)) ∧ w = w') := by
    intro x
    rw [hG]
    exact isOne_calls x w
  rw [← hG]
  clear hG
  obtain ⟨a, cap, rfl, q1, q2, q3⟩ := h
  have hm : xs.length ≤ maxLen := by omega
  unfold maxLen at hm
  clear q1 q2 q3
  go_enter Try.func140, Try.ntmps140
  go_wp2
  go_loop [9] (fun vi => ∃ k : Nat, k ≤ xs.length ∧ vi = .int .i64 k ∧ ∀ i, i < k → G (xs.getD i 0) = true) (fun vi => xs.length - (intOf vi).toNat)
  case atStart => exact ⟨0, Nat.zero_le _, rfl, fun i hi => by omega⟩
  case round =>
    obtain ⟨k, hk, rfl, hall⟩ := hrel
    have A := hide hall
    clear hall
    by_cases hlt : k < xs.length
    · have hlt' : (k : Int) < (xs.length : Int) := by omega
      obtain ⟨b, off, rfl, hc⟩ := R.out.cellAt k hlt
      obtain ⟨y, hy⟩ : ∃ y, y = xs.getD k 0 := ⟨_, rfl⟩
      rw [← hy] at hc
      have CC := hide (C.out y)
      have Y := hide hy
      clear hy
      cases hg : G y with
      | true =>
        rw [hg] at CC
        have HG := hide hg
        clear hg
        go_wp2_with (go_at_call 151; refine CC.out.mono ?_; rintro e w' ⟨rfl, rfl⟩)
        go_round
        case rel =>
          refine ⟨k + 1, by omega, by go_num, fun i hi => ?_⟩
          by_cases e : i = k
          · subst e; rw [← Y.out]; exact HG.out
          · exact A.out i (by omega)
        case measure => simp [intOf]; omega
      | false =>
        rw [hg] at CC
        have HG : Hid (xs.all G = false) := all_noR G xs 0 k hlt (by rw [← Y.out]; exact hg)
        clear hg
        go_wp2_with (go_at_call 151; refine CC.out.mono ?_; rintro e w' ⟨rfl, rfl⟩)
        go_ret
        rw [HG.out]
        exact ⟨rfl, rfl⟩
    · obtain rfl : k = xs.length := by omega
      have HG : Hid (xs.all G = true) := all_takeR G xs 0 A.out
      go_wp2
      go_ret
      rw [HG.out]
      exact ⟨rfl, rfl⟩

/-- A row of free rooms of an order. -/
def frRow (xs : List Int) (o : Int) : Bool := risesR xs 32 && xs.all (rmFree xs o)
set_option maxRecDepth 100000 in
set_option maxHeartbeats 800000 in
theorem areFree_calls (v : Value) (xs : List Int) (o : Int) (w : World) (h : Rd w v xs) :
    Calls Try.prog 116 #[v, .int .i64 o] w fun e w' => e = .returned (.bool (frRow xs o)) ∧ Below w.heap.size w w' := by
  obtain ⟨a, cap, rfl, q1, q2⟩ := h.slc
  have A0 := hide (Hand.twoN w #[.slice a xs.length cap] #[.int .i64 o] 36 3)
  have R := hide (h.below A0.out.below)
  have c1 := (A0.out.atBox 1 rfl).cell 0
  have c2 := (A0.out.atBox 0 rfl).cell 0
  have c1' := hide c1
  have c2' := hide c2
  clear h
  unfold frRow
  obtain ⟨z, hz⟩ : ∃ z, z = xs.all (rmFree xs o) := ⟨_, rfl⟩
  have Z := hide hz
  rw [← hz]
  clear hz
  cases hr : risesR xs 32 with
  | false =>
    have HR := hide hr
    clear hr
    go_enter Try.func116, Try.ntmps116
    go_wp2_with fail
    refine (areRising_callsR _ xs 32 _ R.out (by omega) (by omega)).mono ?_
    rw [HR.out]
    rintro e w' ⟨rfl, rfl⟩
    go_wp2
    go_ret
    exact ⟨rfl, A0.out.below⟩
  | true =>
    have HR := hide hr
    clear hr
    rw [Bool.true_and]
    go_enter Try.func116, Try.ntmps116
    go_wp2_with fail
    refine (areRising_callsR _ xs 32 _ R.out (by omega) (by omega)).mono ?_
    rw [HR.out]
    rintro e w' ⟨rfl, rfl⟩
    go_wp2_with fail
    refine (allFree_calls _ xs o _ xs _ _ _ R.out R.out c2'.out c1'.out).mono ?_
    rw [← Z.out]
    rintro e w' ⟨rfl, rfl⟩
    go_wp2
    go_ret
    exact ⟨rfl, A0.out.below⟩
end Go.Proofs.Ytjffjoednmlkiaa

namespace Go.Proofs.Ytjffjoednmlkiaa
open Go.RowKit Go.Maps Go.MapKept Go.ChangeMaps
set_option linter.unusedVariables false

set_option maxRecDepth 100000 in
theorem isHeld_calls (k z : Int) (w : World) : Calls Try.prog 141 #[.agg #[.int .i64 k, .int .i64 z]] w fun e w' => e = .returned (.bool (rmB k z)) ∧ Below w.heap.size w w' := by
  have bb := hide (below_box w (.cells #[.int .i64 k, .int .i64 z] 136))
  go_enter Try.func141, Try.ntmps141
  go_wp2_with fail
  refine (isRoom_calls k z _).mono ?_
  rintro e w' ⟨rfl, rfl⟩
  go_wp2
  go_ret
  exact ⟨rfl, bb.out⟩
set_option maxRecDepth 100000 in
theorem atOf_calls (k z : Int) (w : World) : Calls Try.prog 144 #[.agg #[.int .i64 k, .int .i64 z]] w fun e w' => e = .returned (.int .i64 k) ∧ Below w.heap.size w w' := by
  have bb := hide (below_box w (.cells #[.int .i64 k, .int .i64 z] 136))
  go_enter Try.func144, Try.ntmps144
  go_wp2
  go_ret
  exact ⟨rfl, bb.out⟩

/-- What is told so far of the places. -/
def atTo (hs : List Hl) (k : Nat) : List Int := (hs.map Prod.fst).take k ++ List.replicate (hs.length - k) 0
theorem atTo_len (hs : List Hl) (k : Nat) (h : k ≤ hs.length) : (atTo hs k).length = hs.length := by simp [atTo]; omega
theorem atTo_step (hs : List Hl) (k : Nat) (h : k < hs.length) : (atTo hs k).set k (hs.getD k hl0).1 = atTo hs (k + 1) := by
  have e1 : ((hs.map Prod.fst).take k).length = k := by simp; omega
  have e2 : (hs.map Prod.fst).getD k 0 = (hs.getD k hl0).1 := by simp [List.getD_eq_getElem?_getD, h]
  unfold atTo
  rw [take_succ_getD (hs.map Prod.fst) k 0 (by simpa using h), e2, List.set_append_right _ _ (by omega), e1, Nat.sub_self]
  obtain ⟨n, hn⟩ : ∃ n, hs.length - k = n + 1 := ⟨hs.length - k - 1, by omega⟩
  have hn2 : hs.length - (k + 1) = n := by omega
  rw [hn, hn2, List.replicate_succ, List.set_cons_zero]
  simp
theorem atTo_end (hs : List Hl) : atTo hs hs.length = hs.map Prod.fst := by simp [atTo, List.take_of_length_le]
theorem atTo_zero (hs : List Hl) : atTo hs 0 = List.replicate hs.length 0 := by simp [atTo]

set_option maxRecDepth 100000 in
set_option maxHeartbeats 1600000 in
theorem eachHeld_calls (v : Value) (hs : List Hl) (w : World) (h : RdH w v hs) (hn : hs.length ≤ 1048576) :
    Calls Try.prog 143 #[v, .func (.func 144) #[] #[]] w fun e w' => ∃ v', e = .returned v' ∧ Own w' w.heap.size v' (hs.map Prod.fst) ∧ Below w.heap.size w w' := by
  have R := hide h
  obtain ⟨a, cap, rfl, q1, q2⟩ := h.sl
  clear h
  go_enter Try.func143, Try.ntmps143
  go_wp2_with (at_make; refine wpList_make_ints rfl _ _ rfl w.heap.size _ _ hs.length rfl rfl (by omega) (by omega) (by omega) (Nat.le_refl _) ?_)
  intro w0 hm0 hg0
  have M0 := hide hm0
  have B0 := hide ((Below.refl w.heap.size w).grown hg0 (Nat.le_refl _) (fun k h => by cases h))
  clear hm0 hg0
  go_wp2
  go_loopw [13] (fun vi wr => ∃ k : Nat, k ≤ hs.length ∧ vi = .int .i64 k ∧ wr.ownsRow w.heap.size 3 1 (.slice (some ⟨w.heap.size, 0, none⟩) hs.length hs.length) hs.length ((atTo hs k).map (Value.int .i64)) ∧ Below w.heap.size w wr) (fun vi _ => hs.length - (intOf vi).toNat)
  case atStart =>
    refine ⟨0, Nat.zero_le _, rfl, ?_, B0.out⟩
    have := M0.out
    rw [atTo_zero]
    unfold Own at this
    rwa [List.length_replicate] at this
  case round =>
    obtain ⟨k, hk, rfl, hown, hb⟩ := hrel
    have O := hide hown
    have B := hide hb
    clear hown hb M0 B0
    by_cases hlt : k < hs.length
    · have hlt' : (k : Int) < (hs.length : Int) := by omega
      obtain ⟨b, off, x, z, rfl, hx, _, c0, c1⟩ := (R.out.below B.out).at k hlt
      have bb := below_box wr (.cells #[.int .i64 x, .int .i64 z] 136)
      have X := BoxAt.new wr #[.int .i64 x, .int .i64 z] 136
      have d0 := X.c2.1
      have d1 := X.c2.2
      have ST := atTo_step hs k hlt
      rw [hx] at ST
      have S := hide ST
      have O2 := hide (rowsBelow O.out bb)
      have B2 := hide (B.out.trans (bb.mono B.out.size))
      clear hx ST X bb O
      go_wp2_with fail
      refine (atOf_calls x z _).mono ?_
      rintro e w1 ⟨rfl, b1⟩
      have O3 := hide (rowsBelow O2.out b1)
      have B3 := hide (B2.out.trans (b1.mono B2.out.size))
      have st := O3.out.stored k (.int .i64 x)
      have fz := O3.out.frozenAt k
      obtain ⟨old, oc⟩ : ∃ old, w1.cell? ⟨w.heap.size, k, none⟩ = some old := by
        rw [O3.out.cellAt k (by omega)]
        have := atTo_len hs k hk
        exact ⟨_, List.getElem?_eq_getElem (by simp; omega)⟩
      have ST := hide st
      clear st b1 O2 B2 d0 d1 c0 c1
      go_wp2
      go_roundw
      case rel =>
        refine ⟨k + 1, by omega, by go_num, ?_, ?_⟩
        · have := ST.out.1
          rw [← List.map_set, S.out] at this
          exact this
        · exact B3.out.setCell (Nat.le_refl _) _
      case measure => simp [intOf]; omega
    · obtain rfl : k = hs.length := by omega
      go_wp2
      go_ret
      refine ⟨_, rfl, ?_, B.out⟩
      have := O.out
      rw [atTo_end] at this
      unfold Own
      rwa [List.length_map]

set_option maxRecDepth 100000 in
set_option maxHeartbeats 1600000 in
theorem allHeld_calls (v : Value) (hs : List Hl) (w : World) (h : RdH w v hs) :
    Calls Try.prog 146 #[v, .func (.func 141) #[] #[]] w fun e w' => e = .returned (.bool (hs.all fun x => rmB x.1 x.2)) ∧ Below w.heap.size w w' := by
  have R := hide h
  obtain ⟨G, hG⟩ : ∃ G : Hl → Bool, G = (fun x => rmB x.1 x.2) := ⟨_, rfl⟩
  have C : Hid (∀ k z W, Calls Try.prog 141 #[.agg #[.int .i64 k, .int .i64 z]] W fun e w' => e = .returned (.bool (G (k, z))) ∧ Below W.heap.size W w') := by
    intro k z W
    rw [hG]
    exact isHeld_calls k z W
  rw [← hG]
  clear hG
  obtain ⟨a, cap, rfl, q1, q2⟩ := h.sl
  have hm : hs.length ≤ maxLen := by omega
  unfold maxLen at hm
  clear q1 q2 h
  go_enter Try.func146, Try.ntmps146
  go_wp2
  go_loopw [9] (fun vi wr => ∃ k : Nat, k ≤ hs.length ∧ vi = .int .i64 k ∧ (∀ i, i < k → G (hs.getD i hl0) = true) ∧ Below w.heap.size w wr) (fun vi _ => hs.length - (intOf vi).toNat)
  case atStart => exact ⟨0, Nat.zero_le _, rfl, fun i hi => by omega, Below.refl _ _⟩
  case round =>
    obtain ⟨k, hk, rfl, hall, hb⟩ := hrel
    have A := hide hall
    have B := hide hb
    clear hall hb
    by_cases hlt : k < hs.length
    · have hlt' : (k : Int) < (hs.length : Int) := by omega
      obtain ⟨b, off, x, z, rfl, hx, _, c0, c1⟩ := (R.out.below B.out).at k hlt
      have bb := below_box wr (.cells #[.int .i64 x, .int .i64 z] 136)
      have X := BoxAt.new wr #[.int .i64 x, .int .i64 z] 136
      have d0 := X.c2.1
      have d1 := X.c2.2
      have B2 := hide (B.out.trans (bb.mono B.out.size))
      have CC := hide (C.out x z)
      have HX := hide hx
      clear hx X bb
      cases hg : G (x, z) with
      | true =>
        rw [hg] at CC
        have HG := hide hg
        clear hg
        go_wp2_with fail
        refine (CC.out _).mono ?_
        rintro e w1 ⟨rfl, b1⟩
        have B3 := hide (B2.out.trans (b1.mono B2.out.size))
        clear b1
        go_wp2
        go_roundw
        case rel =>
          refine ⟨k + 1, by omega, by go_num, fun i hi => ?_, B3.out⟩
          by_cases e : i = k
          · subst e; rw [HX.out]; exact HG.out
          · exact A.out i (by omega)
        case measure => simp [intOf]; omega
      | false =>
        rw [hg] at CC
        have HG : Hid (hs.all G = false) := all_noR G hs hl0 k hlt (by rw [HX.out]; exact hg)
        clear hg
        go_wp2_with fail
        refine (CC.out _).mono ?_
        rintro e w1 ⟨rfl, b1⟩
        have B3 := hide (B2.out.trans (b1.mono B2.out.size))
        clear b1
        go_wp2
        go_ret
        rw [HG.out]
        exact ⟨rfl, B3.out⟩
    · obtain rfl : k = hs.length := by omega
      have HG : Hid (hs.all G = true) := all_takeR G hs hl0 A.out
      go_wp2
      go_ret
      rw [HG.out]
      exact ⟨rfl, B.out⟩

/-- Held rooms, by rising places. -/
def hdRow (hs : List Hl) : Bool := risesR (hs.map Prod.fst) 32 && hs.all fun x => rmB x.1 x.2
set_option maxRecDepth 100000 in
set_option maxHeartbeats 800000 in
theorem areHeld_calls (v : Value) (hs : List Hl) (w : World) (h : RdH w v hs) (hn : hs.length ≤ 1048576) :
    Calls Try.prog 115 #[v] w fun e w' => e = .returned (.bool (hdRow hs)) ∧ Below w.heap.size w w' := by
  have R := hide h
  unfold hdRow
  obtain ⟨z, hz⟩ : ∃ z, z = hs.all fun x => rmB x.1 x.2 := ⟨_, rfl⟩
  have Z := hide hz
  rw [← hz]
  clear hz h
  cases hr : risesR (hs.map Prod.fst) 32 with
  | false =>
    have HR := hide hr
    clear hr
    go_enter Try.func115, Try.ntmps115
    go_wp2_with fail
    refine (eachHeld_calls v hs w R.out hn).mono ?_
    rintro e w1 ⟨v1, rfl, o1, b1⟩
    have O := hide (Own.rd o1)
    have B := hide b1
    clear o1 b1
    go_wp2_with fail
    refine (areRising_callsR _ _ 32 _ O.out (by omega) (by omega)).mono ?_
    rw [HR.out]
    rintro e w' ⟨rfl, rfl⟩
    go_wp2
    go_ret
    exact ⟨rfl, B.out⟩
  | true =>
    have HR := hide hr
    clear hr
    rw [Bool.true_and]
    go_enter Try.func115, Try.ntmps115
    go_wp2_with fail
    refine (eachHeld_calls v hs w R.out hn).mono ?_
    rintro e w1 ⟨v1, rfl, o1, b1⟩
    have O := hide (Own.rd o1)
    have B := hide b1
    clear o1 b1
    go_wp2_with fail
    refine (areRising_callsR _ _ 32 _ O.out (by omega) (by omega)).mono ?_
    rw [HR.out]
    rintro e w' ⟨rfl, rfl⟩
    go_wp2_with fail
    refine (allHeld_calls v hs _ (R.out.below B.out)).mono ?_
    rw [← Z.out]
    rintro e w2 ⟨rfl, b2⟩
    have B2 := hide (B.out.trans (b2.mono B.out.size))
    clear b2
    go_wp2
    go_ret
    exact ⟨rfl, B2.out⟩
end Go.Proofs.Ytjffjoednmlkiaa

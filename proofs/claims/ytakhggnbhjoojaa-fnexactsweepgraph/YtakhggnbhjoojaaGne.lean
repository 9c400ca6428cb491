/-
  Good graphs: rows held against rows, all named, and GoodGraph of the program and of the model, call by call. Each contract says what it asks.
-/
import Derived.Test.YtakhggnbhjoojaaGnd
namespace Go.Proofs.Ytakhggnbhjoojaa
open Go.RowKit
set_option linter.unusedVariables false

theorem take_like {xs ys : List Int} {k : Nat} (h1 : k < xs.length) (h2 : k < ys.length) (h : xs.take k = ys.take k) (e : xs.getD k 0 = ys.getD k 0) : xs.take (k + 1) = ys.take (k + 1) := by
  rw [take_succ_getD xs k 0 h1, take_succ_getD ys k 0 h2, h, e]
theorem drewN_below (w : World) (n : Nat) : Below w.heap.size w (w.drewN n) := below_drewN' n

set_option maxRecDepth 100000 in
set_option maxHeartbeats 800000 in
theorem l1SameN_drew (v1 v2 : Value) (xs ys : List Int) (t : Bool) (w : World) (h1 : Rd w v1 xs) (h2 : Rd w v2 ys) (ht : t = decide (xs = ys)) :
    Calls Try.prog 77 #[v1, v2] w fun e w' => e = .returned (.bool t) ∧ ∃ n, w' = w.drewN n := by
  have R1 := hide h1
  have R2 := hide h2
  have T := hide ht
  obtain ⟨a1, c1, rfl, _, m1, k1⟩ := h1
  obtain ⟨a2, c2, rfl, _, _, k2⟩ := h2
  have hm : xs.length ≤ maxLen := by omega
  unfold maxLen at hm
  clear k1 k2 m1 ht
  by_cases hl : xs.length = ys.length
  · have t1 : ((xs.length : Int) != (ys.length : Int)) = false := by simp; omega
    have HL := hide hl
    clear hl
    go_enter Try.func77, Try.ntmps77
    go_wp2
    go_loopw [13] (fun vi wr => ∃ k n : Nat, k ≤ xs.length ∧ vi = .int .i64 k ∧ wr = w.drewN n ∧ xs.take k = ys.take k) (fun vi _ => xs.length - (intOf vi).toNat)
    case atStart => exact ⟨0, 0, Nat.zero_le _, rfl, rfl, rfl⟩
    case round =>
      obtain ⟨k, n, hk, rfl, rfl, hs⟩ := hrel
      have S := hide hs
      clear hs
      by_cases hlt : k < xs.length
      · have hlt' : (k : Int) < (xs.length : Int) := by omega
        have hlt2 : (k : Int) < (ys.length : Int) := by have := HL.out; omega
        obtain ⟨b, off, rfl, hu⟩ := R1.out.cellAt k hlt
        obtain ⟨b', off', rfl, hu'⟩ := R2.out.cellAt k (by have := HL.out; omega)
        have e1 : (w.drewN n).cell? ⟨b, off + k, none⟩ = _ := hu
        have e2 : (w.drewN n).cell? ⟨b', off' + k, none⟩ = _ := hu'
        obtain ⟨x, hx⟩ : ∃ x, x = xs.getD k 0 := ⟨_, rfl⟩
        obtain ⟨y, hy⟩ : ∃ y, y = ys.getD k 0 := ⟨_, rfl⟩
        rw [← hx] at hu e1
        rw [← hy] at hu' e2
        have X := hide hx
        have Y := hide hy
        clear hx hy
        by_cases e : x = y
        · have t2 : (x != y) = false := by simp [e]
          have E := hide e
          clear e
          go_wp2
          go_quiet (fail)
          go_wp2
          go_roundw
          case rel => exact ⟨k + 1, _, by omega, by go_num, rfl, take_like hlt (by have := HL.out; omega) S.out (by rw [← X.out, ← Y.out, E.out])⟩
          case measure => simp [intOf]; omega
        · have t2 : (x != y) = true := by simp [e]
          have NE : Hid (t = false) := by
            show _ = _
            rw [T.out]
            exact decide_eq_false (fun h => e (by rw [X.out, Y.out, h]))
          clear e
          go_wp2
          go_quiet (fail)
          go_wp2
          go_ret
          refine ⟨ret_bol NE.out.symm, ?_⟩
          rw [World.drewN_drewN]
          exact ⟨_, rfl⟩
      · obtain rfl : k = xs.length := by omega
        have NE : Hid (t = true) := by
          show _ = _
          rw [T.out]
          have := S.out
          rw [List.take_length, HL.out, List.take_length] at this
          exact decide_eq_true this
        go_wp2
        go_ret
        exact ⟨ret_bol NE.out.symm, _, rfl⟩
  · have t1 : ((xs.length : Int) != (ys.length : Int)) = true := by simp; omega
    have NE : Hid (t = false) := by
      show _ = _
      rw [T.out]
      exact decide_eq_false (fun h => hl (by rw [h]))
    clear hl
    go_enter Try.func77, Try.ntmps77
    go_wp2
    go_ret
    exact ⟨ret_bol NE.out.symm, 0, rfl⟩
theorem l1SameN_is (v1 v2 : Value) (xs ys : List Int) (w : World) (h1 : Rd w v1 xs) (h2 : Rd w v2 ys) :
    Calls Try.prog 77 #[v1, v2] w fun e w' => e = .returned (.bool (decide (xs = ys))) ∧ Below w.heap.size w w' :=
  (l1SameN_drew v1 v2 xs ys _ w h1 h2 rfl).mono fun _ _ ⟨he, n, hw⟩ => ⟨he, by rw [hw]; exact drewN_below w n⟩

set_option maxRecDepth 100000 in
set_option maxHeartbeats 800000 in
theorem slEqual_drew (v1 v2 : Value) (xs ys : List Int) (t : Bool) (w : World) (h1 : Rd w v1 xs) (h2 : Rd w v2 ys) (ht : t = decide (xs = ys)) :
    Calls Try.prog 78 #[v1, v2] w fun e w' => e = .returned (.bool t) ∧ ∃ n, w' = w.drewN n := by
  have R1 := hide h1
  have R2 := hide h2
  have T := hide ht
  obtain ⟨a1, c1, rfl, _, m1, k1⟩ := h1
  obtain ⟨a2, c2, rfl, _, _, k2⟩ := h2
  have hm : xs.length ≤ maxLen := by omega
  unfold maxLen at hm
  clear k1 k2 m1 ht
  by_cases hl : xs.length = ys.length
  · have t1 : ((xs.length : Int) != (ys.length : Int)) = false := by simp; omega
    have HL := hide hl
    clear hl
    go_enter Try.func78, Try.ntmps78
    go_wp2
    go_loopw [13] (fun vi wr => ∃ k n : Nat, k ≤ xs.length ∧ vi = .int .i64 k ∧ wr = w.drewN n ∧ xs.take k = ys.take k) (fun vi _ => xs.length - (intOf vi).toNat)
    case atStart => exact ⟨0, 0, Nat.zero_le _, rfl, rfl, rfl⟩
    case round =>
      obtain ⟨k, n, hk, rfl, rfl, hs⟩ := hrel
      have S := hide hs
      clear hs
      by_cases hlt : k < xs.length
      · have hlt' : (k : Int) < (xs.length : Int) := by omega
        have hlt2 : (k : Int) < (ys.length : Int) := by have := HL.out; omega
        obtain ⟨b, off, rfl, hu⟩ := R1.out.cellAt k hlt
        obtain ⟨b', off', rfl, hu'⟩ := R2.out.cellAt k (by have := HL.out; omega)
        have e1 : (w.drewN n).cell? ⟨b, off + k, none⟩ = _ := hu
        have e2 : (w.drewN n).cell? ⟨b', off' + k, none⟩ = _ := hu'
        obtain ⟨x, hx⟩ : ∃ x, x = xs.getD k 0 := ⟨_, rfl⟩
        obtain ⟨y, hy⟩ : ∃ y, y = ys.getD k 0 := ⟨_, rfl⟩
        rw [← hx] at hu e1
        rw [← hy] at hu' e2
        have X := hide hx
        have Y := hide hy
        clear hx hy
        by_cases e : x = y
        · have t2 : (x != y) = false := by simp [e]
          have E := hide e
          clear e
          go_wp2
          go_quiet (fail)
          go_wp2
          go_roundw
          case rel => exact ⟨k + 1, _, by omega, by go_num, rfl, take_like hlt (by have := HL.out; omega) S.out (by rw [← X.out, ← Y.out, E.out])⟩
          case measure => simp [intOf]; omega
        · have t2 : (x != y) = true := by simp [e]
          have NE : Hid (t = false) := by
            show _ = _
            rw [T.out]
            exact decide_eq_false (fun h => e (by rw [X.out, Y.out, h]))
          clear e
          go_wp2
          go_quiet (fail)
          go_wp2
          go_ret
          refine ⟨ret_bol NE.out.symm, ?_⟩
          rw [World.drewN_drewN]
          exact ⟨_, rfl⟩
      · obtain rfl : k = xs.length := by omega
        have NE : Hid (t = true) := by
          show _ = _
          rw [T.out]
          have := S.out
          rw [List.take_length, HL.out, List.take_length] at this
          exact decide_eq_true this
        go_wp2
        go_ret
        exact ⟨ret_bol NE.out.symm, _, rfl⟩
  · have t1 : ((xs.length : Int) != (ys.length : Int)) = true := by simp; omega
    have NE : Hid (t = false) := by
      show _ = _
      rw [T.out]
      exact decide_eq_false (fun h => hl (by rw [h]))
    clear hl
    go_enter Try.func78, Try.ntmps78
    go_wp2
    go_ret
    exact ⟨ret_bol NE.out.symm, 0, rfl⟩
theorem slEqual_is (v1 v2 : Value) (xs ys : List Int) (w : World) (h1 : Rd w v1 xs) (h2 : Rd w v2 ys) :
    Calls Try.prog 78 #[v1, v2] w fun e w' => e = .returned (.bool (decide (xs = ys))) ∧ Below w.heap.size w w' :=
  (slEqual_drew v1 v2 xs ys _ w h1 h2 rfl).mono fun _ _ ⟨he, n, hw⟩ => ⟨he, by rw [hw]; exact drewN_below w n⟩

/-- Each node that is not Gone has a count. -/
abbrev named (m : List Nd) (cs : List Int) : Prop := ∀ i, i < m.length → ¬ ((m.getD i nd0).2 = false ∧ cs.getD i 0 = 0)
abbrev goodG (m : List Nd) (rs cs : List Int) : Prop := okG m rs ∧ cs = cntG m rs ∧ named m cs

set_option maxRecDepth 100000 in
set_option maxHeartbeats 1600000 in
theorem areAllNamed_calls (v u : Value) (m : List Nd) (cs : List Int) (w : World) (h : RdN w v m) (hu : Rd w u cs) (hl : cs.length = m.length) :
    Calls Try.prog 70 #[v, u] w fun e w' => e = .returned (.bool (decide (named m cs))) ∧ Below w.heap.size w w' := by
  have R := hide h
  have U := hide hu
  obtain ⟨a, cap, rfl, h1, h2, h3⟩ := h
  have hm : m.length ≤ maxLen := by omega
  unfold maxLen at hm
  obtain ⟨ca, cc, rfl, _, _⟩ := hu.slc
  have HL := hide hl
  clear h1 h2 h3 hu hl
  obtain ⟨y, hy⟩ : ∃ y, decide (named m cs) = y := ⟨_, rfl⟩
  rw [hy]
  have HY : Hid (y = true ↔ named m cs) := by
    show _ ↔ _
    rw [← hy, decide_eq_true_iff]
  clear hy
  go_enter Try.func70, Try.ntmps70
  go_wp2
  go_loopw [9] (fun vi wr => ∃ k : Nat, k ≤ m.length ∧ vi = .int .i64 k ∧ (∀ i, i < k → ¬ ((m.getD i nd0).2 = false ∧ cs.getD i 0 = 0)) ∧ Below w.heap.size w wr) (fun vi _ => m.length - (intOf vi).toNat)
  case atStart => exact ⟨0, Nat.zero_le _, rfl, fun i hi => by omega, Below.refl _ _⟩
  case round =>
    obtain ⟨k, hk, rfl, hall, hb⟩ := hrel
    have HA := hide hall
    have B := hide hb
    clear hall hb
    by_cases hlt : k < m.length
    · obtain ⟨b, off, u0, ks, z, rfl, hx, hu, c0, c1⟩ := (R.out.below B.out).at k hlt
      obtain ⟨ua, uc, rfl, _, _⟩ := hu.slc
      obtain ⟨w1, hw1⟩ : ∃ w1, w1 = wr.alloc (.cells #[.slice ua ks.length uc, .bool z] 84) := ⟨_, rfl⟩
      have b1 : Below wr.heap.size wr w1 := by rw [hw1]; exact below_box _ _
      have x1 : BoxAt w1 wr.heap.size #[.slice ua ks.length uc, .bool z] 84 := by rw [hw1]; exact BoxAt.new _ _ _
      have BB := hide (B.out.trans (b1.mono B.out.size))
      obtain ⟨d0, d1⟩ := x1.c2
      obtain ⟨b', off', rfl, hc⟩ := (U.out.below BB.out).cellAt k (by rw [HL.out]; exact hlt)
      obtain ⟨c, hcc⟩ : ∃ c, c = cs.getD k 0 := ⟨_, rfl⟩
      rw [← hcc] at hc
      have hlt' : (k : Int) < (m.length : Int) := by omega
      have hlc : (k : Int) < (cs.length : Int) := by have := HL.out; omega
      have W1 : Hid (wr.alloc (.cells #[.slice ua ks.length uc, .bool z] 84) = w1) := hw1.symm
      have STEP : Hid (¬ (z = false ∧ c = 0) → ∀ i, i < k + 1 → ¬ ((m.getD i nd0).2 = false ∧ cs.getD i 0 = 0)) := by
        intro hn i hi
        by_cases e : i = k
        · subst e
          rw [hx, ← hcc]
          exact hn
        · exact HA.out i (by omega)
      have NO : Hid (z = false → c = 0 → y = false) := by
        intro h1 h2
        cases y with
        | false => rfl
        | true => exact absurd ⟨by rw [hx]; exact h1, by rw [← hcc]; exact h2⟩ (HY.out.1 rfl k hlt)
      rw [hw1] at hc d0 d1
      clear hx hu b1 x1 hw1 hcc
      cases z with
      | true =>
        have ST := hide (STEP.out (by simp))
        go_wp2
        go_roundw
        case rel => exact ⟨k + 1, by omega, by go_num, ST.out, by rw [W1.out]; exact BB.out⟩
        case measure => simp [intOf]; omega
      | false =>
        by_cases hz : c = 0
        · have hn := NO.out rfl hz
          subst hn hz
          go_wp2
          go_ret
          exact ⟨rfl, by rw [W1.out]; exact BB.out⟩
        · have ST := hide (STEP.out (by simp [hz]))
          go_wp2
          go_roundw
          case rel => exact ⟨k + 1, by omega, by go_num, ST.out, by rw [W1.out]; exact BB.out⟩
          case measure => simp [intOf]; omega
    · obtain rfl : k = m.length := by omega
      have hn := HY.out.2 HA.out
      subst hn
      go_wp2
      go_ret
      exact ⟨rfl, B.out⟩
end Go.Proofs.Ytakhggnbhjoojaa

/-
  The places where two lists are unlike: the program's function and its model's, call by call. No condition.
-/
import Derived.Test.YtogopakmebiomaaDoorGood
namespace Go.Proofs.YtogopakmebiomaaDoor
open Go.RowKit

theorem rd_single1 {w : World} {z : Int} : Rd (w.alloc (.cells #[.int .i64 z] 3)) (.slice (some ⟨w.heap.size, 0, none⟩) 1 1) [z] := by
  refine ⟨_, 1, rfl, Nat.le_refl _, ⟨by unfold maxLen; omega, fun h => by cases h⟩, .inr ⟨_, 0, rfl, by simp, fun i hi => ?_⟩⟩
  simp at hi
  subst hi
  exact World.cell?_alloc_at _ _ _ _ (by simp)
/-- The places below k where two lists are unlike. -/
def unpN (xs ys : List Int) : Nat → List Int
  | 0 => []
  | k + 1 => if xs.getD k 0 = ys.getD k 0 then unpN xs ys k else unpN xs ys k ++ [(k : Int)]
theorem unpN_length (xs ys : List Int) (k : Nat) : (unpN xs ys k).length ≤ k := by
  induction k with
  | zero => exact Nat.le_refl _
  | succ k ih =>
    rw [unpN]
    split
    · omega
    · rw [List.length_append]; show _ + 1 ≤ _; omega
theorem unpN_same {xs ys : List Int} {k : Nat} {x y : Int} (hx : xs.getD k 0 = x) (hy : ys.getD k 0 = y) (h : x = y) : unpN xs ys (k + 1) = unpN xs ys k := by rw [unpN, if_pos (by rw [hx, hy, h])]
theorem unpN_other {xs ys : List Int} {k : Nat} {x y : Int} (hx : xs.getD k 0 = x) (hy : ys.getD k 0 = y) (h : ¬ x = y) : unpN xs ys (k + 1) = unpN xs ys k ++ [(k : Int)] := by rw [unpN, if_neg (by rw [hx, hy]; exact h)]
def wrpR (xs ys : List Int) : List Int × Bool := if xs.length = ys.length ∧ xs.length ≤ 24 then (unpN xs ys xs.length, true) else ([], false)
theorem wrpR_len (xs ys : List Int) : (wrpR xs ys).1.length ≤ 1048576 := by
  unfold wrpR
  split
  next h => have := unpN_length xs ys xs.length; show (unpN xs ys xs.length).length ≤ _; omega
  next => show 0 ≤ _; omega

set_option maxRecDepth 100000 in
set_option maxHeartbeats 1600000 in
theorem wrongPlaces_calls (av bv : Value) (xs ys : List Int) (w : World) (ha : Rd w av xs) (hb : Rd w bv ys) :
    Calls Tryd.prog 32 #[av, bv] w fun e w' => ∃ v', e = .returned (.tuple #[v', .bool (wrpR xs ys).2]) ∧ Own w' w.heap.size v' (wrpR xs ys).1 ∧ Below w.heap.size w w' := by
  have RA := hide ha
  have RB := hide hb
  obtain ⟨aa, ac, rfl, _, _, _⟩ := ha
  obtain ⟨ba, bc, rfl, _, _, _⟩ := hb
  by_cases hl : xs.length = ys.length
  case neg =>
    have e : wrpR xs ys = ([], false) := if_neg (fun h => hl h.1)
    have t : ((xs.length : Int) != (ys.length : Int)) = true := by simp; omega
    have hl' : ¬ (xs.length : Int) = (ys.length : Int) := by omega
    rw [e]
    clear e hl
    go_enter Tryd.func32, Tryd.ntmps32
    go_wp2
    go_ret2
    exact ⟨_, rfl, World.ownsRow_nil _ _ _ _, Below.refl _ _⟩
  by_cases hm : xs.length ≤ 24
  case neg =>
    have e : wrpR xs ys = ([], false) := if_neg (fun h => hm h.2)
    have t : ((xs.length : Int) != (ys.length : Int)) = false := by simp; omega
    have hm' : (24 : Int) < (xs.length : Int) := by omega
    rw [e]
    clear e
    have HL := hide hl
    clear hl
    go_enter Tryd.func32, Tryd.ntmps32
    go_wp2
    go_ret2
    exact ⟨_, rfl, World.ownsRow_nil _ _ _ _, Below.refl _ _⟩
  have e : wrpR xs ys = (unpN xs ys xs.length, true) := if_pos ⟨hl, hm⟩
  have t : ((xs.length : Int) != (ys.length : Int)) = false := by simp; omega
  have hm' : ¬ (24 : Int) < (xs.length : Int) := by omega
  rw [e]
  have HL := hide hl
  clear e hl
  go_enter Tryd.func32, Tryd.ntmps32
  go_wp2
  go_loopw [6, 21] (fun vo vk wr => ∃ k : Nat, k ≤ xs.length ∧ vk = .int .i64 k ∧ Own wr w.heap.size vo (unpN xs ys k) ∧ Below w.heap.size w wr) (fun _ vk _ => xs.length - (intOf vk).toNat)
  case atStart =>
    refine ⟨0, Nat.zero_le _, rfl, ?_, (Below.refl _ _).alloc (Nat.le_refl _) _⟩
    exact World.ownsRow_lit w #[] 0 (Nat.le_refl _) (by decide) (by rfl)
  case round =>
    obtain ⟨k, hk, rfl, ho, hb⟩ := hrel
    have O := hide ho
    have B := hide hb
    clear ho hb
    by_cases hlt : k < xs.length
    · have hlt' : (k : Int) < (xs.length : Int) := by omega
      have hlty' : (k : Int) < (ys.length : Int) := by have := HL.out; omega
      have hlty : k < ys.length := by have := HL.out; omega
      obtain ⟨b1, o1, u1, rfl, hc1, hu1⟩ := (RA.out.below B.out).row k hlt
      obtain ⟨b2, o2, u2, rfl, hc2, hu2⟩ := (RB.out.below B.out).row k hlty
      obtain ⟨x, hx⟩ : ∃ x, x = xs.getD k 0 := ⟨_, rfl⟩
      obtain ⟨y, hy⟩ : ∃ y, y = ys.getD k 0 := ⟨_, rfl⟩
      rw [← hx] at hu1
      rw [← hy] at hu2
      subst hu1 hu2
      have X := hide hx
      have Y := hide hy
      clear hx hy
      by_cases hxy : x = y
      · have tt : (x != y) = false := by simp [hxy]
        have e := unpN_same X.out.symm Y.out.symm hxy
        have O1 := hide O.out
        rw [← e] at O1
        clear e
        go_wp2
        go_quiet (fail)
        go_wp2
        go_roundw
        case rel => exact ⟨k + 1, by omega, by go_num, O1.out.below (below_drewN' _), below_drewN B.out _⟩
        case measure => simp [intOf]; omega
      · have tt : (x != y) = true := by simp [hxy]
        have e := unpN_other X.out.symm Y.out.symm hxy
        have hun := unpN_length xs ys k
        obtain ⟨l, hl⟩ : ∃ l, l = unpN xs ys k := ⟨_, rfl⟩
        have O2 := hide O.out
        rw [← hl] at e O2 hun
        have E := hide e
        clear e hl
        go_wp2
        go_quiet (fail)
        go_wp2_with (at_builtin; refine wpList_append_rd rfl _ _ rfl w.heap.size _ l.length l [((k : Nat) : Int)] rfl ((O2.out.below (below_drewN' _)).alloc _) _ rfl rd_single1 (by simp; omega) (by have := B.out.size; simp; omega) ?_)
        intro v' w3 ho3 hg3
        have hb3 : Below w.heap.size w w3 := ((below_drewN B.out _).alloc (by have := B.out.size; simp; omega) _).grown hg3 (by have := B.out.size; simp; omega) (fun i hi => (O.out.lt i hi).1)
        rw [← E.out] at ho3
        have O3 := hide ho3
        have B3 := hide hb3
        clear ho3 hg3 hb3
        go_wp2
        go_roundw
        case rel => exact ⟨k + 1, by omega, by go_num, O3.out, B3.out⟩
        case measure => simp [intOf]; omega
    · obtain rfl : k = xs.length := by omega
      go_wp2
      go_ret2
      exact ⟨_, rfl, O.out, B.out⟩

set_option maxRecDepth 100000 in
set_option maxHeartbeats 1600000 in
theorem l4Unlike_calls (av bv : Value) (xs ys : List Int) (w : World) (ha : Rd w av xs) (hb : Rd w bv ys) (hl : xs.length = ys.length) (hm : xs.length ≤ 24) :
    Calls Tryd.prog 89 #[av, bv] w fun e w' => ∃ v', e = .returned v' ∧ Own w' w.heap.size v' (unpN xs ys xs.length) ∧ Below w.heap.size w w' := by
  have RA := hide ha
  have RB := hide hb
  obtain ⟨aa, ac, rfl, _, _, _⟩ := ha
  obtain ⟨ba, bc, rfl, _, _, _⟩ := hb
  have HL := hide hl
  clear hl
  go_enter Tryd.func89, Tryd.ntmps89
  go_wp2
  go_loopw [5, 9] (fun vo vk wr => ∃ k : Nat, k ≤ xs.length ∧ vk = .int .i64 k ∧ Own wr w.heap.size vo (unpN xs ys k) ∧ Below w.heap.size w wr) (fun _ vk _ => xs.length - (intOf vk).toNat)
  case atStart => exact ⟨0, Nat.zero_le _, rfl, World.ownsRow_nil _ _ _ _, Below.refl _ _⟩
  case round =>
    obtain ⟨k, hk, rfl, ho, hb⟩ := hrel
    have O := hide ho
    have B := hide hb
    clear ho hb
    by_cases hlt : k < xs.length
    · have hlt' : (k : Int) < (xs.length : Int) := by omega
      have hlty' : (k : Int) < (ys.length : Int) := by have := HL.out; omega
      have hlty : k < ys.length := by have := HL.out; omega
      obtain ⟨b1, o1, u1, rfl, hc1, hu1⟩ := (RA.out.below B.out).row k hlt
      obtain ⟨b2, o2, u2, rfl, hc2, hu2⟩ := (RB.out.below B.out).row k hlty
      obtain ⟨x, hx⟩ : ∃ x, x = xs.getD k 0 := ⟨_, rfl⟩
      obtain ⟨y, hy⟩ : ∃ y, y = ys.getD k 0 := ⟨_, rfl⟩
      rw [← hx] at hu1
      rw [← hy] at hu2
      subst hu1 hu2
      have X := hide hx
      have Y := hide hy
      clear hx hy
      by_cases hxy : x = y
      · have tt : (x != y) = false := by simp [hxy]
        have e := unpN_same X.out.symm Y.out.symm hxy
        have O1 := hide O.out
        rw [← e] at O1
        clear e
        go_wp2
        go_quiet (fail)
        go_wp2
        go_roundw
        case rel => exact ⟨k + 1, by omega, by go_num, O1.out.below (below_drewN' _), below_drewN B.out _⟩
        case measure => simp [intOf]; omega
      · have tt : (x != y) = true := by simp [hxy]
        have e := unpN_other X.out.symm Y.out.symm hxy
        have hun := unpN_length xs ys k
        obtain ⟨l, hl⟩ : ∃ l, l = unpN xs ys k := ⟨_, rfl⟩
        have O2 := hide O.out
        rw [← hl] at e O2 hun
        have E := hide e
        clear e hl
        go_wp2
        go_quiet (fail)
        go_wp2_with (at_builtin; refine wpList_append_rd rfl _ _ rfl w.heap.size _ l.length l [((k : Nat) : Int)] rfl ((O2.out.below (below_drewN' _)).alloc _) _ rfl rd_single1 (by simp; omega) (by have := B.out.size; simp; omega) ?_)
        intro v' w3 ho3 hg3
        have hb3 : Below w.heap.size w w3 := ((below_drewN B.out _).alloc (by have := B.out.size; simp; omega) _).grown hg3 (by have := B.out.size; simp; omega) (fun i hi => (O.out.lt i hi).1)
        rw [← E.out] at ho3
        have O3 := hide ho3
        have B3 := hide hb3
        clear ho3 hg3 hb3
        go_wp2
        go_roundw
        case rel => exact ⟨k + 1, by omega, by go_num, O3.out, B3.out⟩
        case measure => simp [intOf]; omega
    · obtain rfl : k = xs.length := by omega
      go_wp2
      go_ret
      exact ⟨_, rfl, O.out, B.out⟩

set_option maxRecDepth 100000 in
set_option maxHeartbeats 1600000 in
theorem sWrongPlaces_calls (av bv : Value) (xs ys : List Int) (w : World) (ha : Rd w av xs) (hb : Rd w bv ys) :
    Calls Tryd.prog 38 #[av, bv] w fun e w' => ∃ v', e = .returned (.tuple #[v', .bool (wrpR xs ys).2]) ∧ Own w' w.heap.size v' (wrpR xs ys).1 ∧ Below w.heap.size w w' := by
  have RA := hide ha
  have RB := hide hb
  obtain ⟨aa, ac, rfl, _, _, _⟩ := ha
  obtain ⟨ba, bc, rfl, _, _, _⟩ := hb
  by_cases hl : xs.length = ys.length
  case neg =>
    have e : wrpR xs ys = ([], false) := if_neg (fun h => hl h.1)
    have t : ((xs.length : Int) != (ys.length : Int)) = true := by simp; omega
    have hl' : ¬ (xs.length : Int) = (ys.length : Int) := by omega
    rw [e]
    clear e hl
    go_enter Tryd.func38, Tryd.ntmps38
    go_wp2
    go_ret2
    exact ⟨_, rfl, World.ownsRow_nil _ _ _ _, Below.refl _ _⟩
  by_cases hm : xs.length ≤ 24
  case neg =>
    have e : wrpR xs ys = ([], false) := if_neg (fun h => hm h.2)
    have t : ((xs.length : Int) != (ys.length : Int)) = false := by simp; omega
    have hm' : (24 : Int) < (xs.length : Int) := by omega
    rw [e]
    clear e
    have HL := hide hl
    clear hl
    go_enter Tryd.func38, Tryd.ntmps38
    go_wp2
    go_ret2
    exact ⟨_, rfl, World.ownsRow_nil _ _ _ _, Below.refl _ _⟩
  have e : wrpR xs ys = (unpN xs ys xs.length, true) := if_pos ⟨hl, hm⟩
  have t : ((xs.length : Int) != (ys.length : Int)) = false := by simp; omega
  have hm' : ¬ (24 : Int) < (xs.length : Int) := by omega
  rw [e]
  have HL := hide hl
  clear e hl
  go_enter Tryd.func38, Tryd.ntmps38
  go_wp2_with fail
  refine (l4Unlike_calls _ _ xs ys _ RA.out RB.out HL.out hm).mono ?_
  rintro e w1 ⟨v1, rfl, ho1, hb1⟩
  have O1 := hide ho1
  have B1 := hide hb1
  clear ho1 hb1
  go_wp2
  go_ret2
  exact ⟨_, rfl, O1.out, B1.out⟩
end Go.Proofs.YtogopakmebiomaaDoor

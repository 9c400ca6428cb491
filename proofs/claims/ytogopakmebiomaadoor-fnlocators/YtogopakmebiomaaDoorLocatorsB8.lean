/-
  The places where two lists are unlike: the program's function and its model's, call by call. No condition. The product of two polynomials: the program's MulPoly and its model's at every argument that can be read, call by call: both answer the same list, of new memory, and the same word. The program's table of rests must hold its seven numbers where the program's own function is called. The polynomial that makes a code's words, and how many may be wrong: the program's functions and its model's, call by call. The program's table of rests must hold its seven numbers where the program's own functions are called. Which lists are words of a code, their syndromes, and whether these are noughts: the program's functions and its model's, call by call. The program's table of rests must hold its seven numbers where the program's own functions are called. What a law holds in its hands: slices of integers of its own, no two of one block, beside whatever was there and stays as it was; what each kind of step does to that. No condition.
-/
import Derived.Test.YtogopakmebiomaaDoorLocatorsB4
import Derived.Test.YtogopakmebiomaaDoorLocatorsB3
import Derived.Test.YtogopakmebiomaaDoorLocatorsB2
namespace Go.Proofs.YtogopakmebiomaaDoor
open Go.RowKit

theorem rd_single1 {w : World} {z : Int} : Rd (w.alloc (.cells #[.int .i64 z] 3)) (.slice (some ⟨w.heap.size, 0, none⟩) 1 1) [z] := by
  refine ⟨_, 1, rfl, Nat.le_refl _, ⟨by unfold maxLen; omega, fun h => by cases h⟩, .inr ⟨_, 0, rfl, by simp, fun i hi => ?_⟩⟩
  simp at hi
  subst hi
  exact World.cell?_alloc_at _ _ _ _ (by simp)
/-- The places below k where two lists are unlike. -/
def unpN (xs ys : List Int) : Nat → List Int
  | 0 => []
  | k + 1 => if xs.getD k 0 = ys.getD k 0 then unpN xs ys k else unpN xs ys k ++ [(k : Int)]
theorem unpN_length (xs ys : List Int) (k : Nat) : (unpN xs ys k).length ≤ k := by
  induction k with
  | zero => exact Nat.le_refl _
  | succ k ih =>
    rw [unpN]
    split
    · omega
    · rw [List.length_append]; show _ + 1 ≤ _; omega
theorem unpN_same {xs ys : List Int} {k : Nat} {x y : Int} (hx : xs.getD k 0 = x) (hy : ys.getD k 0 = y) (h : x = y) : unpN xs ys (k + 1) = unpN xs ys k := by rw [unpN, if_pos (by rw [hx, hy, h])]
theorem unpN_other {xs ys : List Int} {k : Nat} {x y : Int} (hx : xs.getD k 0 = x) (hy : ys.getD k 0 = y) (h : ¬ x = y) : unpN xs ys (k + 1) = unpN xs ys k ++ [(k : Int)] := by rw [unpN, if_neg (by rw [hx, hy]; exact h)]
def wrpR (xs ys : List Int) : List Int × Bool := if xs.length = ys.length ∧ xs.length ≤ 24 then (unpN xs ys xs.length, true) else ([], false)
theorem wrpR_len (xs ys : List Int) : (wrpR xs ys).1.length ≤ 1048576 := by
  unfold wrpR
  split
  next h => have := unpN_length xs ys xs.length; show (unpN xs ys xs.length).length ≤ _; omega
  next => show 0 ≤ _; omega

set_option maxRecDepth 100000 in
set_option maxHeartbeats 1600000 in
theorem wrongPlaces_calls (av bv : Value) (xs ys : List Int) (w : World) (ha : Rd w av xs) (hb : Rd w bv ys) :
    Calls Tryd.prog 32 #[av, bv] w fun e w' => ∃ v', e = .returned (.tuple #[v', .bool (wrpR xs ys).2]) ∧ Own w' w.heap.size v' (wrpR xs ys).1 ∧ Below w.heap.size w w' := by
  have RA := hide ha
  have RB := hide hb
  obtain ⟨aa, ac, rfl, _, _, _⟩ := ha
  obtain ⟨ba, bc, rfl, _, _, _⟩ := hb
  by_cases hl : xs.length = ys.length
  case neg =>
    have e : wrpR xs ys = ([], false) := if_neg (fun h => hl h.1)
    have t : ((xs.length : Int) != (ys.length : Int)) = true := by simp; omega
    have hl' : ¬ (xs.length : Int) = (ys.length : Int) := by omega
    rw [e]
    clear e hl
    go_enter Tryd.func32, Tryd.ntmps32
    go_wp2
    go_ret2
    exact ⟨_, rfl, World.ownsRow_nil _ _ _ _, Below.refl _ _⟩
  by_cases hm : xs.length ≤ 24
  case neg =>
    have e : wrpR xs ys = ([], false) := if_neg (fun h => hm h.2)
    have t : ((xs.length : Int) != (ys.length : Int)) = false := by simp; omega
    have hm' : (24 : Int) < (xs.length : Int) := by omega
    rw [e]
    clear e
    have HL := hide hl
    clear hl
    go_enter Tryd.func32, Tryd.ntmps32
    go_wp2
    go_ret2
    exact ⟨_, rfl, World.ownsRow_nil _ _ _ _, Below.refl _ _⟩
  have e : wrpR xs ys = (unpN xs ys xs.length, true) := if_pos ⟨hl, hm⟩
  have t : ((xs.length : Int) != (ys.length : Int)) = false := by simp; omega
  have hm' : ¬ (24 : Int) < (xs.length : Int) := by omega
  rw [e]
  have HL := hide hl
  clear e hl
  go_enter Tryd.func32, Tryd.ntmps32
  go_wp2
  go_loopw [6, 21] (fun vo vk wr => ∃ k : Nat, k ≤ xs.length ∧ vk = .int .i64 k ∧ Own wr w.heap.size vo (unpN xs ys k) ∧ Below w.heap.size w wr) (fun _ vk _ => xs.length - (intOf vk).toNat)
  case atStart =>
    refine ⟨0, Nat.zero_le _, rfl, ?_, (Below.refl _ _).alloc (Nat.le_refl _) _⟩
    exact World.ownsRow_lit w #[] 0 (Nat.le_refl _) (by decide) (by rfl)
  case round =>
    obtain ⟨k, hk, rfl, ho, hb⟩ := hrel
    have O := hide ho
    have B := hide hb
    clear ho hb
    by_cases hlt : k < xs.length
    · have hlt' : (k : Int) < (xs.length : Int) := by omega
      have hlty' : (k : Int) < (ys.length : Int) := by have := HL.out; omega
      have hlty : k < ys.length := by have := HL.out; omega
      obtain ⟨b1, o1, u1, rfl, hc1, hu1⟩ := (RA.out.below B.out).row k hlt
      obtain ⟨b2, o2, u2, rfl, hc2, hu2⟩ := (RB.out.below B.out).row k hlty
      obtain ⟨x, hx⟩ : ∃ x, x = xs.getD k 0 := ⟨_, rfl⟩
      obtain ⟨y, hy⟩ : ∃ y, y = ys.getD k 0 := ⟨_, rfl⟩
      rw [← hx] at hu1
      rw [← hy] at hu2
      subst hu1 hu2
      have X := hide hx
      have Y := hide hy
      clear hx hy
      by_cases hxy : x = y
      · have tt : (x != y) = false := by simp [hxy]
        have e := unpN_same X.out.symm Y.out.symm hxy
        have O1 := hide O.out
        rw [← e] at O1
        clear e
        go_wp2
        go_quiet (fail)
        go_wp2
        go_roundw
        case rel => exact ⟨k + 1, by omega, by go_num, O1.out.below (below_drewN' _), below_drewN B.out _⟩
        case measure => simp [intOf]; omega
      · have tt : (x != y) = true := by simp [hxy]
        have e := unpN_other X.out.symm Y.out.symm hxy
        have hun := unpN_length xs ys k
        obtain ⟨l, hl⟩ : ∃ l, l = unpN xs ys k := ⟨_, rfl⟩
        have O2 := hide O.out
        rw [← hl] at e O2 hun
        have E := hide e
        clear e hl
        go_wp2
        go_quiet (fail)
        go_wp2_with (at_builtin; refine wpList_append_rd rfl _ _ rfl w.heap.size _ l.length l [((k : Nat) : Int)] rfl ((O2.out.below (below_drewN' _)).alloc _) _ rfl rd_single1 (by simp; omega) (by have := B.out.size; simp; omega) ?_)
        intro v' w3 ho3 hg3
        have hb3 : Below w.heap.size w w3 := ((below_drewN B.out _).alloc (by have := B.out.size; simp; omega) _).grown hg3 (by have := B.out.size; simp; omega) (fun i hi => (O.out.lt i hi).1)
        rw [← E.out] at ho3
        have O3 := hide ho3
        have B3 := hide hb3
        clear ho3 hg3 hb3
        go_wp2
        go_roundw
        case rel => exact ⟨k + 1, by omega, by go_num, O3.out, B3.out⟩
        case measure => simp [intOf]; omega
    · obtain rfl : k = xs.length := by omega
      go_wp2
      go_ret2
      exact ⟨_, rfl, O.out, B.out⟩

set_option maxRecDepth 100000 in
set_option maxHeartbeats 1600000 in
theorem l4Unlike_calls (av bv : Value) (xs ys : List Int) (w : World) (ha : Rd w av xs) (hb : Rd w bv ys) (hl : xs.length = ys.length) (hm : xs.length ≤ 24) :
    Calls Tryd.prog 89 #[av, bv] w fun e w' => ∃ v', e = .returned v' ∧ Own w' w.heap.size v' (unpN xs ys xs.length) ∧ Below w.heap.size w w' := by
  have RA := hide ha
  have RB := hide hb
  obtain ⟨aa, ac, rfl, _, _, _⟩ := ha
  obtain ⟨ba, bc, rfl, _, _, _⟩ := hb
  have HL := hide hl
  clear hl
  go_enter Tryd.func89, Tryd.ntmps89
  go_wp2
  go_loopw [5, 9] (fun vo vk wr => ∃ k : Nat, k ≤ xs.length ∧ vk = .int .i64 k ∧ Own wr w.heap.size vo (unpN xs ys k) ∧ Below w.heap.size w wr) (fun _ vk _ => xs.length - (intOf vk).toNat)
  case atStart => exact ⟨0, Nat.zero_le _, rfl, World.ownsRow_nil _ _ _ _, Below.refl _ _⟩
  case round =>
    obtain ⟨k, hk, rfl, ho, hb⟩ := hrel
    have O := hide ho
    have B := hide hb
    clear ho hb
    by_cases hlt : k < xs.length
    · have hlt' : (k : Int) < (xs.length : Int) := by omega
      have hlty' : (k : Int) < (ys.length : Int) := by have := HL.out; omega
      have hlty : k < ys.length := by have := HL.out; omega
      obtain ⟨b1, o1, u1, rfl, hc1, hu1⟩ := (RA.out.below B.out).row k hlt
      obtain ⟨b2, o2, u2, rfl, hc2, hu2⟩ := (RB.out.below B.out).row k hlty
      obtain ⟨x, hx⟩ : ∃ x, x = xs.getD k 0 := ⟨_, rfl⟩
      obtain ⟨y, hy⟩ : ∃ y, y = ys.getD k 0 := ⟨_, rfl⟩
      rw [← hx] at hu1
      rw [← hy] at hu2
      subst hu1 hu2
      have X := hide hx
      have Y := hide hy
      clear hx hy
      by_cases hxy : x = y
      · have tt : (x != y) = false := by simp [hxy]
        have e := unpN_same X.out.symm Y.out.symm hxy
        have O1 := hide O.out
        rw [← e] at O1
        clear e
        go_wp2
        go_quiet (fail)
        go_wp2
        go_roundw
        case rel => exact ⟨k + 1, by omega, by go_num, O1.out.below (below_drewN' _), below_drewN B.out _⟩
        case measure => simp [intOf]; omega
      · have tt : (x != y) = true := by simp [hxy]
        have e := unpN_other X.out.symm Y.out.symm hxy
        have hun := unpN_length xs ys k
        obtain ⟨l, hl⟩ : ∃ l, l = unpN xs ys k := ⟨_, rfl⟩
        have O2 := hide O.out
        rw [← hl] at e O2 hun
        have E := hide e
        clear e hl
        go_wp2
        go_quiet (fail)
        go_wp2_with (at_builtin; refine wpList_append_rd rfl _ _ rfl w.heap.size _ l.length l [((k : Nat) : Int)] rfl ((O2.out.below (below_drewN' _)).alloc _) _ rfl rd_single1 (by simp; omega) (by have := B.out.size; simp; omega) ?_)
        intro v' w3 ho3 hg3
        have hb3 : Below w.heap.size w w3 := ((below_drewN B.out _).alloc (by have := B.out.size; simp; omega) _).grown hg3 (by have := B.out.size; simp; omega) (fun i hi => (O.out.lt i hi).1)
        rw [← E.out] at ho3
        have O3 := hide ho3
        have B3 := hide hb3
        clear ho3 hg3 hb3
        go_wp2
        go_roundw
        case rel => exact ⟨k + 1, by omega, by go_num, O3.out, B3.out⟩
        case measure => simp [intOf]; omega
    · obtain rfl : k = xs.length := by omega
      go_wp2
      go_ret
      exact ⟨_, rfl, O.out, B.out⟩

set_option maxRecDepth 100000 in
set_option maxHeartbeats 1600000 in
theorem sWrongPlaces_calls (av bv : Value) (xs ys : List Int) (w : World) (ha : Rd w av xs) (hb : Rd w bv ys) :
    Calls Tryd.prog 38 #[av, bv] w fun e w' => ∃ v', e = .returned (.tuple #[v', .bool (wrpR xs ys).2]) ∧ Own w' w.heap.size v' (wrpR xs ys).1 ∧ Below w.heap.size w w' := by
  have RA := hide ha
  have RB := hide hb
  obtain ⟨aa, ac, rfl, _, _, _⟩ := ha
  obtain ⟨ba, bc, rfl, _, _, _⟩ := hb
  by_cases hl : xs.length = ys.length
  case neg =>
    have e : wrpR xs ys = ([], false) := if_neg (fun h => hl h.1)
    have t : ((xs.length : Int) != (ys.length : Int)) = true := by simp; omega
    have hl' : ¬ (xs.length : Int) = (ys.length : Int) := by omega
    rw [e]
    clear e hl
    go_enter Tryd.func38, Tryd.ntmps38
    go_wp2
    go_ret2
    exact ⟨_, rfl, World.ownsRow_nil _ _ _ _, Below.refl _ _⟩
  by_cases hm : xs.length ≤ 24
  case neg =>
    have e : wrpR xs ys = ([], false) := if_neg (fun h => hm h.2)
    have t : ((xs.length : Int) != (ys.length : Int)) = false := by simp; omega
    have hm' : (24 : Int) < (xs.length : Int) := by omega
    rw [e]
    clear e
    have HL := hide hl
    clear hl
    go_enter Tryd.func38, Tryd.ntmps38
    go_wp2
    go_ret2
    exact ⟨_, rfl, World.ownsRow_nil _ _ _ _, Below.refl _ _⟩
  have e : wrpR xs ys = (unpN xs ys xs.length, true) := if_pos ⟨hl, hm⟩
  have t : ((xs.length : Int) != (ys.length : Int)) = false := by simp; omega
  have hm' : ¬ (24 : Int) < (xs.length : Int) := by omega
  rw [e]
  have HL := hide hl
  clear e hl
  go_enter Tryd.func38, Tryd.ntmps38
  go_wp2_with fail
  refine (l4Unlike_calls _ _ xs ys _ RA.out RB.out HL.out hm).mono ?_
  rintro e w1 ⟨v1, rfl, ho1, hb1⟩
  have O1 := hide ho1
  have B1 := hide hb1
  clear ho1 hb1
  go_wp2
  go_ret2
  exact ⟨_, rfl, O1.out, B1.out⟩
end Go.Proofs.YtogopakmebiomaaDoor

namespace Go.Proofs.YtogopakmebiomaaDoor
open Go.RowKit
namespace Gf

theorem own_nil (w : World) (base : Nat) : Own w base (.slice none 0 0) [] := World.ownsRow_nil _ _ _ _
theorem mulR_badx {xs ys : List Int} (h : goodP xs = false) : mulR xs ys = ([], false) := by simp [mulR, h]
theorem mulR_bady {xs ys : List Int} (h : goodP ys = false) : mulR xs ys = ([], false) := by simp [mulR, h]
theorem mulR_empty {xs ys : List Int} (hx : goodP xs = true) (hy : goodP ys = true) (h : xs.length = 0 ∨ ys.length = 0) : mulR xs ys = ([], true) := by
  unfold mulR
  rw [if_pos ⟨hx, hy⟩, if_pos h]
theorem mulR_long {xs ys : List Int} (hx : goodP xs = true) (hy : goodP ys = true) (h : ¬ (xs.length = 0 ∨ ys.length = 0)) (hl : 40 < xs.length + ys.length - 1) : mulR xs ys = ([], false) := by
  unfold mulR
  rw [if_pos ⟨hx, hy⟩, if_neg h, if_pos hl]
theorem mulR_fit {xs ys : List Int} (hx : goodP xs = true) (hy : goodP ys = true) (h : ¬ (xs.length = 0 ∨ ys.length = 0)) (hl : ¬ 40 < xs.length + ys.length - 1) :
    mulR xs ys = (ci (mp (nat xs) (nat ys) (List.replicate (xs.length + ys.length - 1) 0) xs.length), true) := by
  unfold mulR
  rw [if_pos ⟨hx, hy⟩, if_neg h, if_neg hl]

set_option maxRecDepth 100000 in
set_option maxHeartbeats 1600000 in
theorem mulPoly_calls (pv qv : Value) (xs ys : List Int) (w : World) (hT : Tab w) (hp : Rd w pv xs) (hq : Rd w qv ys) :
    Calls Tryd.prog 66 #[pv, qv] w fun e w' => ∃ v', e = .returned (.tuple #[v', .bool (mulR xs ys).2]) ∧ Own w' w.heap.size v' (mulR xs ys).1 ∧ Below w.heap.size w w' := by
  have T := hide hT
  have P := hide hp
  have Q := hide hq
  clear hT hp hq
  cases hgx : goodP xs with
  | false =>
    have G := hide hgx
    rw [mulR_badx hgx]
    clear hgx
    go_enter Tryd.func66, Tryd.ntmps66
    go_wp2_with (go_at_call 124; refine (isPoly_calls pv xs _ P.out).mono ?_; rw [G.out]; rintro e w' ⟨rfl, rfl⟩)
    go_ret2
    exact ⟨_, rfl, own_nil _ _, Below.refl _ _⟩
  | true =>
    have G := hide hgx
    cases hgy : goodP ys with
    | false =>
      have G2 := hide hgy
      rw [mulR_bady hgy]
      clear hgx hgy
      go_enter Tryd.func66, Tryd.ntmps66
      go_wp2_with fail
      refine (isPoly_calls pv xs _ P.out).mono ?_
      rw [G.out]
      rintro e w' ⟨rfl, rfl⟩
      go_wp2_with fail
      refine (isPoly_calls qv ys _ Q.out).mono ?_
      rw [G2.out]
      rintro e w' ⟨rfl, rfl⟩
      go_wp2
      go_ret2
      exact ⟨_, rfl, own_nil _ _, Below.refl _ _⟩
    | true =>
      have G2 := hide hgy
      have lx := goodP_len hgx
      have ly := goodP_len hgy
      obtain ⟨pa, pcap, rfl, _, _, _⟩ := P.out
      obtain ⟨qa, qcap, rfl, _, _, _⟩ := Q.out
      by_cases he : xs.length = 0 ∨ ys.length = 0
      · rw [mulR_empty hgx hgy he]
        clear hgx hgy
        by_cases h0 : xs.length = 0
        · have t1 : ((xs.length : Int) == 0) = true := by simp [h0]
          clear he h0
          go_enter Tryd.func66, Tryd.ntmps66
          go_wp2_with fail
          refine (isPoly_calls _ xs _ P.out).mono ?_
          rw [G.out]
          rintro e w' ⟨rfl, rfl⟩
          go_wp2_with fail
          refine (isPoly_calls _ ys _ Q.out).mono ?_
          rw [G2.out]
          rintro e w' ⟨rfl, rfl⟩
          go_wp2
          go_ret2
          exact ⟨_, rfl, own_nil _ _, Below.refl _ _⟩
        · have t1 : ((xs.length : Int) == 0) = false := by simp; intro e; simp [e] at h0
          have t2 : ((ys.length : Int) == 0) = true := by simp; rcases he with h | h
                                                          · exact absurd h h0
                                                          · exact List.eq_nil_of_length_eq_zero h
          clear he h0
          go_enter Tryd.func66, Tryd.ntmps66
          go_wp2_with fail
          refine (isPoly_calls _ xs _ P.out).mono ?_
          rw [G.out]
          rintro e w' ⟨rfl, rfl⟩
          go_wp2_with fail
          refine (isPoly_calls _ ys _ Q.out).mono ?_
          rw [G2.out]
          rintro e w' ⟨rfl, rfl⟩
          go_wp2
          go_ret2
          exact ⟨_, rfl, own_nil _ _, Below.refl _ _⟩
      · have t1 : ((xs.length : Int) == 0) = false := by simp; intro e; simp [e] at he
        have t2 : ((ys.length : Int) == 0) = false := by simp; intro e; simp [e] at he
        have p1 : 0 < xs.length := by omega
        have p2 : 0 < ys.length := by omega
        by_cases hl : 40 < xs.length + ys.length - 1
        · rw [mulR_long hgx hgy he hl]
          have t3 : (40 : Int) < (xs.length : Int) + (ys.length : Int) - 1 := by omega
          clear hgx hgy he hl
          go_enter Tryd.func66, Tryd.ntmps66
          go_wp2_with fail
          refine (isPoly_calls _ xs _ P.out).mono ?_
          rw [G.out]
          rintro e w' ⟨rfl, rfl⟩
          go_wp2_with fail
          refine (isPoly_calls _ ys _ Q.out).mono ?_
          rw [G2.out]
          rintro e w' ⟨rfl, rfl⟩
          go_wp2
          go_ret2
          exact ⟨_, rfl, own_nil _ _, Below.refl _ _⟩
        · rw [mulR_fit hgx hgy he hl]
          have t3 : ¬ (40 : Int) < (xs.length : Int) + (ys.length : Int) - 1 := by omega
          have GX := hide (goodP_mem hgx)
          have GY := hide (goodP_mem hgy)
          obtain ⟨n, hn⟩ : ∃ n, n = xs.length + ys.length - 1 := ⟨_, rfl⟩
          rw [← hn]
          have en : (xs.length : Int) + (ys.length : Int) - 1 = (n : Int) := by omega
          have hn40 : n ≤ 40 := by omega
          have HN := hide hn
          clear hgx hgy he hl hn
          go_enter Tryd.func66, Tryd.ntmps66
          go_wp2_with fail
          refine (isPoly_calls _ xs _ P.out).mono ?_
          rw [G.out]
          rintro e w' ⟨rfl, rfl⟩
          go_wp2_with fail
          refine (isPoly_calls _ ys _ Q.out).mono ?_
          rw [G2.out]
          rintro e w' ⟨rfl, rfl⟩
          go_wp2_with (at_make; refine wpList_make_ints rfl _ _ rfl w.heap.size _ _ n rfl rfl (by omega) (by omega) (by omega) (Nat.le_refl _) ?_; intro w0 hown0 hgrow0)
          have B0 := hide ((Below.refl w.heap.size w).grown hgrow0 (Nat.le_refl _) (fun k h => by cases h))
          have O0 : Hid (w0.ownsRow w.heap.size 3 1 (.slice (some ⟨w.heap.size, 0, none⟩) n n) n ((ci (mp (nat xs) (nat ys) (List.replicate n 0) 0)).map (Value.int .i64))) := by
            have := hown0
            unfold Own at this
            rw [List.length_replicate] at this
            have e : (ci (mp (nat xs) (nat ys) (List.replicate n 0) 0)).map (Value.int .i64) = (List.replicate n (0 : Int)).map (Value.int .i64) := by simp [mp, ci]
            rw [← e] at this
            exact this
          clear hown0 hgrow0
          go_loopw [41] (fun vi wr => ∃ k : Nat, k ≤ xs.length ∧ vi = .int .i64 k ∧ wr.ownsRow w.heap.size 3 1 (.slice (some ⟨w.heap.size, 0, none⟩) n n) n ((ci (mp (nat xs) (nat ys) (List.replicate n 0) k)).map (Value.int .i64)) ∧ Below w.heap.size w wr) (fun vi _ => xs.length - (intOf vi).toNat)
          case atStart => exact ⟨0, Nat.zero_le _, rfl, O0.out, B0.out⟩
          case round =>
            obtain ⟨k, hk, rfl, hown, hb⟩ := hrel
            by_cases hlt : k < xs.length
            · have hRd := P.out.below hb
              obtain ⟨pa', pcap', hv, _, _, h3⟩ := hRd
              have hv2 : pa' = pa := by simp at hv; exact hv.1.symm
              subst hv2
              clear hv
              rcases h3 with h3 | ⟨b, off, rfl, hbs, hc⟩
              · subst h3; simp at hlt
              have hc1 := hc k hlt
              clear hc
              obtain ⟨z, hz⟩ : ∃ z, z = xs.getD k 0 := ⟨_, rfl⟩
              have hzb : 0 ≤ z ∧ z ≤ 255 := by rw [hz]; exact goodP_all G.out k hlt
              rw [← hz] at hc1
              have hzn : Hid (z.toNat = (nat xs).getD k 0) := by
                show z.toNat = _
                rw [hz]
                simp only [nat, List.getD_eq_getElem?_getD, List.getElem?_map]
                cases xs[k]? <;> simp
              clear hz
              have O := hide hown
              have Bk := hide hb
              clear hown hb
              have hlen : (mp (nat xs) (nat ys) (List.replicate n 0) k).length = n := by rw [mp_length, List.length_replicate]
              have HL := hide hlen
              clear hlen
              have keep : Hid (∀ w', wr.grownBy w' (some w.heap.size) → Below w.heap.size w w') := fun w' hg => Bk.out.grown hg Bk.out.size (fun k h => by simp at h; omega)
              go_wp2_with fail
              refine (addMultiple_calls _ _ (mp (nat xs) (nat ys) (List.replicate n 0) k) (nat ys) _ _ w.heap.size _ (fun w' hg => T.out.below (keep.out w' hg)) ?o1 ?q1 hzb.1 (by omega) (by omega) ?f1 ?f2 (mp_lt (allLt_zeros n) (nat_ltp GX.out) k) (nat_ltp GY.out) ?f3).mono ?_
              case o1 =>
                show World.ownsRow _ _ _ _ _ (ci _).length _
                rw [ci_length, HL.out]
                exact O.out
              case q1 =>
                intro w' hg
                rw [ci_natp GY.out]
                exact Q.out.below (keep.out w' hg)
              case f1 => rw [nat_length, HL.out]; have := HN.out; omega
              case f2 => rw [HL.out]; omega
              case f3 => rw [HL.out]; omega
              rintro e w2 ⟨rfl, hown2, hg2⟩
              have O2 : Hid (w2.ownsRow w.heap.size 3 1 (.slice (some ⟨w.heap.size, 0, none⟩) n n) n ((ci (mp (nat xs) (nat ys) (List.replicate n 0) (k + 1))).map (Value.int .i64))) := by
                have h := hown2
                unfold Own at h
                rw [ci_length, amTo_length, HL.out, hzn.out, Int.toNat_natCast] at h
                exact h
              have B2 := hide (keep.out w2 hg2)
              clear hown2 hg2
              go_wp2
              go_roundw
              case rel => exact ⟨k + 1, by omega, by go_num, O2.out, B2.out⟩
              case measure => simp [intOf]; omega
            · obtain rfl : k = xs.length := by omega
              go_wp2
              go_ret2
              refine ⟨_, rfl, ?_, hb⟩
              show World.ownsRow _ _ _ _ _ (ci _).length _
              rw [ci_length, mp_length, List.length_replicate]
              exact hown

theorem own_cell {w : World} {base g n cap : Nat} {l : List Nat} (h : w.ownsRow base 3 1 (.slice (some ⟨g, 0, none⟩) n cap) n ((ci l).map (Value.int .i64))) (i : Nat) (hi : i < l.length) :
    w.cell? ⟨g, i, none⟩ = some (.int .i64 (l.getD i 0 : Nat)) := by
  have hn : l.length = n := by have := h.1; simpa [ci] using this
  rw [h.cellAt i (by omega), List.getElem?_map]
  have hl : i < (ci l).length := by rw [ci_length]; exact hi
  rw [List.getElem?_eq_getElem hl]
  have := ci_getD l i
  rw [List.getD_eq_getElem?_getD, List.getElem?_eq_getElem hl, Option.getD_some] at this
  rw [this]; rfl

set_option maxRecDepth 100000 in
set_option maxHeartbeats 1600000 in
theorem l1MulPoly_calls (pv qv : Value) (xs ys : List Int) (w : World) (hp : Rd w pv xs) (hq : Rd w qv ys) (hx : goodP xs = true) (hy : goodP ys = true) :
    Calls Tryd.prog 122 #[pv, qv] w fun e w' => ∃ v', e = .returned v' ∧ Own w' w.heap.size v' (cutL (ci (mp (nat xs) (nat ys) (List.replicate (xs.length + ys.length) 0) xs.length))) ∧ Below w.heap.size w w' := by
  have P := hide hp
  have Q := hide hq
  have GX := hide (goodP_mem hx)
  have GY := hide (goodP_mem hy)
  have lx := goodP_len hx
  have ly := goodP_len hy
  have AX := hide (goodP_all hx)
  have AY := hide (goodP_all hy)
  clear hx hy
  obtain ⟨pa, pcap, rfl, _, _, _⟩ := hp
  obtain ⟨qa, qcap, rfl, _, _, _⟩ := hq
  obtain ⟨n, hn⟩ : ∃ n, n = xs.length + ys.length := ⟨_, rfl⟩
  rw [← hn]
  have en : (xs.length : Int) + (ys.length : Int) = (n : Int) := by omega
  have hn80 : n ≤ 80 := by omega
  have HN := hide hn
  clear hn
  go_enter Tryd.func122, Tryd.ntmps122
  go_wp2_with (at_make; refine wpList_make_ints rfl _ _ rfl w.heap.size _ _ n rfl rfl (by omega) (by omega) (by omega) (Nat.le_refl _) ?_; intro w0 hown0 hgrow0)
  have B0 := hide ((Below.refl w.heap.size w).grown hgrow0 (Nat.le_refl _) (fun k h => by cases h))
  have O0 : Hid (w0.ownsRow w.heap.size 3 1 (.slice (some ⟨w.heap.size, 0, none⟩) n n) n ((ci (mp (nat xs) (nat ys) (List.replicate n 0) 0)).map (Value.int .i64))) := by
    have := hown0
    unfold Own at this
    rw [List.length_replicate] at this
    have e : (ci (mp (nat xs) (nat ys) (List.replicate n 0) 0)).map (Value.int .i64) = (List.replicate n (0 : Int)).map (Value.int .i64) := by simp [mp, ci]
    rw [← e] at this
    exact this
  clear hown0 hgrow0
  go_loopw [18] (fun vi wr => ∃ k : Nat, k ≤ xs.length ∧ vi = .int .i64 k ∧ wr.ownsRow w.heap.size 3 1 (.slice (some ⟨w.heap.size, 0, none⟩) n n) n ((ci (mp (nat xs) (nat ys) (List.replicate n 0) k)).map (Value.int .i64)) ∧ Below w.heap.size w wr) (fun vi _ => xs.length - (intOf vi).toNat)
  case atStart => exact ⟨0, Nat.zero_le _, rfl, O0.out, B0.out⟩
  case round =>
    obtain ⟨k, hk, rfl, hown, hb⟩ := hrel
    by_cases hlt : k < xs.length
    · have hRd := P.out.below hb
      obtain ⟨pa', pcap', hv, _, _, h3⟩ := hRd
      have hv2 : pa' = pa := by simp at hv; exact hv.1.symm
      subst hv2
      clear hv
      rcases h3 with h3 | ⟨b, off, rfl, hbs, hc⟩
      · subst h3; simp at hlt
      have hc1 := hc k hlt
      clear hc
      obtain ⟨F, hF⟩ : ∃ F, F = (nat xs).getD k 0 := ⟨_, rfl⟩
      have hFx : xs.getD k 0 = (F : Int) := by
        have := ci_getD (nat xs) k
        rw [ci_natp GX.out] at this
        rw [this, hF]
      have hF256 : F < 256 := by have := AX.out k hlt; omega
      rw [hFx] at hc1
      have HF := hide hF
      clear hF hFx
      have O := hide hown
      have Bk := hide hb
      have HL : Hid ((mp (nat xs) (nat ys) (List.replicate n 0) k).length = n) := by
        show _ = _
        rw [mp_length, List.length_replicate]
      clear hown hb
      go_wp2
      go_loopw [25] (fun vj wi => ∃ j : Nat, j ≤ ys.length ∧ vj = .int .i64 j ∧ wi.ownsRow w.heap.size 3 1 (.slice (some ⟨w.heap.size, 0, none⟩) n n) n ((ci (amTo (mp (nat xs) (nat ys) (List.replicate n 0) k) (nat ys) F k j)).map (Value.int .i64)) ∧ Below w.heap.size w wi) (fun vj _ => ys.length - (intOf vj).toNat)
      case atStart => exact ⟨0, Nat.zero_le _, rfl, O.out, Bk.out⟩
      case round =>
        obtain ⟨j, hj, rfl, hown, hb⟩ := hrel
        by_cases hlj : j < ys.length
        · have hRd := Q.out.below hb
          obtain ⟨qa', qcap', hv, _, _, h3⟩ := hRd
          have hv2 : qa' = qa := by simp at hv; exact hv.1.symm
          subst hv2
          clear hv
          rcases h3 with h3 | ⟨b2, off2, rfl, hbs2, hc⟩
          · subst h3; simp at hlj
          have hc2 := hc j hlj
          clear hc
          obtain ⟨Z, hZ⟩ : ∃ Z, Z = (nat ys).getD j 0 := ⟨_, rfl⟩
          have hZy : ys.getD j 0 = (Z : Int) := by
            have := ci_getD (nat ys) j
            rw [ci_natp GY.out] at this
            rw [this, hZ]
          have hZ256 : Z < 256 := by have := AY.out j hlj; omega
          rw [hZy] at hc2
          have HZ := hide hZ
          clear hZ hZy
          have hkj : k + j < n := by have := HN.out; omega
          have hc3 := hown.frozenAt (k + j)
          obtain ⟨y, hy⟩ : ∃ y, y = (amTo (mp (nat xs) (nat ys) (List.replicate n 0) k) (nat ys) F k j).getD (k + j) 0 := ⟨_, rfl⟩
          have hy256 : y < 256 := by
            rw [hy]
            exact amTo_lt (mp_lt (allLt_zeros n) (nat_ltp GX.out) k) hF256 j _
          have hc4 := own_cell hown (k + j) (by rw [amTo_length, HL.out]; exact hkj)
          rw [← hy] at hc4
          have HY := hide hy
          clear hy
          have O2 := hide hown
          have B2 := hide hb
          clear hown hb
          have e1 : ((k : Int) + (j : Int)).toNat = k + j := by omega
          have i1 : (0 : Int) ≤ (k : Int) + (j : Int) := by omega
          have i2 : (k : Int) + (j : Int) < (n : Int) := by omega
          have i3 : (j : Int) < (ys.length : Int) := by omega
          have i4 : IntKind.i64.wrap ((k : Int) + (j : Int)) = (k : Int) + (j : Int) := by rw [wrap_i64]; omega
          go_wp2
          go_region_with (go_at_call 128; refine (l1Mul_calls _ _ _ (by omega) (by omega) (by omega) (by omega)).mono ?_; rintro e w' ⟨rfl, rfl⟩)
          all_goals
            go_wp2
            go_roundw
            case rel =>
              refine ⟨j + 1, by omega, by go_num, ?_, ?_⟩
              · have h := (O2.out.stored (k + j) (.int .i64 (y ^^^ mul F Z : Nat))).1
                rw [← List.map_set, ci_set, HY.out, HZ.out] at h
                rw [i64_xor _ _ (by omega) (by have := mul_lt (a := F) (b := Z) (by omega); omega), HY.out, HZ.out]
                exact h.drew
              · exact (B2.out.setCell (Nat.le_refl _) _).drew
            case measure => simp [intOf]; omega
        · obtain rfl : j = ys.length := by omega
          have O2 : Hid (_ ∧ _) := And.intro hown hb
          clear hown hb
          go_wp2
          go_roundw
          case rel =>
            refine ⟨k + 1, by omega, by go_num, ?_, O2.out.2⟩
            have h := O2.out.1
            have e : mp (nat xs) (nat ys) (List.replicate n 0) (k + 1) = amTo (mp (nat xs) (nat ys) (List.replicate n 0) k) (nat ys) F k ys.length := by
              rw [mp, HF.out, nat_length]
            rw [e]
            exact h
          case measure => simp [intOf]; omega
    · obtain rfl : k = xs.length := by omega
      have hfin : Own wr w.heap.size (.slice (some ⟨w.heap.size, 0, none⟩) n n) (ci (mp (nat xs) (nat ys) (List.replicate n 0) xs.length)) := by
        show World.ownsRow _ _ _ _ _ (ci _).length _
        rw [ci_length, mp_length, List.length_replicate]
        exact hown
      have F := hide hfin
      have Bk := hide hb
      clear hown hb hfin
      go_wp2_with fail
      refine (l1Cut_calls _ _ _ F.out.rd (by rw [ci_length, mp_length, List.length_replicate]; omega)).mono ?_
      rintro e w2 ⟨v', rfl, ho2, hb2⟩
      have O2 := hide (Own.mono ho2 Bk.out.size)
      have B2 := hide (Bk.out.trans (hb2.mono Bk.out.size))
      clear ho2 hb2
      go_wp2
      go_ret
      exact ⟨_, rfl, O2.out, B2.out⟩

theorem mp_nil_p {q s0 : List Nat} : mp [] q s0 0 = s0 := rfl
theorem cut_empty {xs ys : List Int} (h : xs.length = 0 ∨ ys.length = 0) : cutL (ci (mp (nat xs) (nat ys) (List.replicate (xs.length + ys.length) 0) xs.length)) = [] := by
  rcases h with h | h
  · have : xs = [] := List.eq_nil_of_length_eq_zero h
    subst this
    exact cutL_zeros _
  · have : ys = [] := List.eq_nil_of_length_eq_zero h
    subst this
    show cutL (ci (mp (nat xs) [] _ _)) = []
    rw [mp_nil_q]
    exact cutL_zeros _

end Gf
end Go.Proofs.YtogopakmebiomaaDoor

namespace Go.Proofs.YtogopakmebiomaaDoor
open Go.RowKit

theorem rd_two {w : World} {y z : Int} : Rd (w.alloc (.cells #[.int .i64 y, .int .i64 z] 3)) (.slice (some ⟨w.heap.size, 0, none⟩) 2 2) [y, z] := by
  refine ⟨_, 2, rfl, Nat.le_refl _, ⟨by unfold maxLen; omega, fun h => by cases h⟩, .inr ⟨_, 0, rfl, by simp, fun i hi => ?_⟩⟩
  match i, hi with
  | 0, _ => exact World.cell?_alloc_at _ _ _ _ (by simp)
  | 1, _ => exact World.cell?_alloc_at _ _ _ _ (by simp)
namespace Gf

def wOk (t : Int) : Bool := decide (1 ≤ t ∧ t ≤ 3)
theorem wOk_iff {t : Int} : wOk t = true ↔ 1 ≤ t ∧ t ≤ 3 := by simp [wOk]
theorem wOk_no {t : Int} : wOk t = false ↔ ¬ (1 ≤ t ∧ t ≤ 3) := by simp [wOk]
set_option maxRecDepth 100000 in
theorem isWrong_calls (t : Int) (w : World) :
    Calls Tryd.prog 64 #[.int .i64 t] w fun e w' => e = .returned (.bool (wOk t)) ∧ w = w' := by
  by_cases h : 1 ≤ t
  · by_cases h2 : t ≤ 3
    · rw [wOk_iff.2 ⟨h, h2⟩]
      go_enter Tryd.func64, Tryd.ntmps64
      go_wp2
      go_ret
      exact ⟨rfl, rfl⟩
    · rw [wOk_no.2 (by omega)]
      go_enter Tryd.func64, Tryd.ntmps64
      go_wp2
      go_ret
      exact ⟨rfl, rfl⟩
  · rw [wOk_no.2 (by omega)]
    go_enter Tryd.func64, Tryd.ntmps64
    go_wp2
    go_ret
    exact ⟨rfl, rfl⟩
theorem checksOf_calls (t : Nat) (w : World) (h : t ≤ 1048576) :
    Calls Tryd.prog 65 #[.int .i64 t] w fun e w' => e = .returned (.int .i64 ((2 * t : Nat) : Int)) ∧ w = w' := by
  go_enter Tryd.func65, Tryd.ntmps65
  go_wp2
  go_ret
  exact ⟨by congr 2, rfl⟩
set_option maxRecDepth 100000 in
theorem l4Wrong_calls (t : Int) (w : World) :
    Calls Tryd.prog 62 #[.int .i64 t] w fun e w' => e = .returned (.bool (wOk t)) ∧ w = w' := by
  go_enter Tryd.func62, Tryd.ntmps62
  go_wp2_with (go_at_call 68; refine (l1In_calls _ _ _ _).mono ?_; rintro e w' ⟨rfl, rfl⟩)
  go_ret
  exact ⟨ret_bool (by simp [wOk]), rfl⟩

/-- The product of the first k factors. -/
def genI : Nat → List Int
  | 0 => [1]
  | k + 1 => (mulR (genI k) [((pow 2 k : Nat) : Int), 1]).1
def genS (k : Nat) : List Int := cutL (ci (mp (nat (genI k)) (nat [((pow 2 k : Nat) : Int), 1]) (List.replicate ((genI k).length + [((pow 2 k : Nat) : Int), 1].length) 0) (genI k).length))
theorem gen_tab : allB 7 (fun k => goodP (genI k) && ((genI k).length == k + 1)) = true := by decide +kernel
theorem gen_tab2 : allB 6 (fun k => (mulR (genI k) [((pow 2 k : Nat) : Int), 1]).2 && (genS k == genI (k + 1))) = true := by decide +kernel
theorem gen_facts {k : Nat} (hk : k ≤ 6) : goodP (genI k) = true ∧ (genI k).length = k + 1 := by
  have := allB_of gen_tab k (by omega)
  simpa using this
theorem gen_next {k : Nat} (hk : k < 6) : (mulR (genI k) [((pow 2 k : Nat) : Int), 1]).2 = true ∧ genS k = genI (k + 1) := by
  have := allB_of gen_tab2 k hk
  simpa using this
theorem two_good {x : Nat} (h : x < 256) : goodP [(x : Int), 1] = true := by
  simp [goodP, elOk]
  omega
def genR (t : Int) : List Int × Bool := if wOk t = true then (genI (2 * t.toNat), true) else ([], false)
theorem genR_len (t : Int) : (genR t).1.length ≤ 1048576 := by
  unfold genR
  split
  next h =>
    have := wOk_iff.1 h
    show (genI (2 * t.toNat)).length ≤ _
    rw [(gen_facts (k := 2 * t.toNat) (by omega)).2]
    omega
  next => show 0 ≤ _; omega
theorem genR_yes {t : Int} (h : wOk t = true) : genR t = (genI (2 * t.toNat), true) := if_pos h
theorem genR_no {t : Int} (h : wOk t = false) : genR t = ([], false) := if_neg (by rw [h]; decide)

set_option maxRecDepth 100000 in
set_option maxHeartbeats 1600000 in
theorem generatorOf_calls (t : Int) (w : World) (hT : Tab w) :
    Calls Tryd.prog 14 #[.int .i64 t] w fun e w' => ∃ v', e = .returned (.tuple #[v', .bool (genR t).2]) ∧ Own w' w.heap.size v' (genR t).1 ∧ Below w.heap.size w w' := by
  have T := hide hT
  clear hT
  cases hw : wOk t with
  | false =>
    have G := hide hw
    rw [genR_no hw]
    clear hw
    go_enter Tryd.func14, Tryd.ntmps14
    go_wp2_with fail
    refine (isWrong_calls t _).mono ?_
    rw [G.out]
    rintro e w' ⟨rfl, rfl⟩
    go_wp2
    go_ret2
    exact ⟨_, rfl, own_nil _ _, Below.refl _ _⟩
  | true =>
    rw [genR_yes hw]
    obtain ⟨h1, h3⟩ := wOk_iff.1 hw
    obtain ⟨n, rfl⟩ := Int.eq_ofNat_of_zero_le (a := t) (by omega)
    have G := hide hw
    rw [Int.toNat_natCast]
    clear hw
    go_enter Tryd.func14, Tryd.ntmps14
    go_wp2_with fail
    refine (isWrong_calls _ _).mono ?_
    rw [G.out]
    rintro e w' ⟨rfl, rfl⟩
    go_wp2_with fail
    refine (checksOf_calls n _ (by omega)).mono ?_
    rintro e w' ⟨rfl, rfl⟩
    obtain ⟨N, hN⟩ : ∃ N, N = 2 * n := ⟨_, rfl⟩
    rw [← hN]
    have hN6 : N ≤ 6 := by omega
    have HN := hide hN
    clear hN
    go_wp2
    go_loopw [4, 12] (fun vg vk wr => ∃ k : Nat, k ≤ N ∧ vk = .int .i64 k ∧ Own wr w.heap.size vg (genI k) ∧ Below w.heap.size w wr) (fun _ vk _ => N - (intOf vk).toNat)
    case atStart =>
      refine ⟨0, Nat.zero_le _, rfl, ?_, (Below.refl _ _).alloc (Nat.le_refl _) _⟩
      exact World.ownsRow_lit w #[.int .i64 1] 1 (Nat.le_refl _) (by decide) (by rfl)
    case round =>
      obtain ⟨k, hk, rfl, ho, hb⟩ := hrel
      have O := hide ho
      have B := hide hb
      clear ho hb
      by_cases hlt : k < N
      · have hlt' : (k : Int) < (N : Int) := by omega
        go_wp2_with fail
        refine (powE_calls 2 k _ (T.out.below B.out) (by omega) (by omega) (by omega) (by omega)).mono ?_
        rintro e w' ⟨rfl, rfl⟩
        rw [Int.toNat_natCast]
        obtain ⟨x, hx⟩ : ∃ x, x = pow 2 k := ⟨_, rfl⟩
        rw [show pow (Int.toNat 2) k = x from hx.symm]
        have X := hide hx
        have hx256 : x < 256 := by rw [hx]; exact pow_lt _ _
        clear hx
        have hsz := B.out.size
        go_wp2_with fail
        refine (mulPoly_calls _ _ (genI k) [(x : Int), 1] _ ((T.out.below B.out).below ((Below.refl _ _).alloc (Nat.le_refl _) _)) (O.out.rd.below ((Below.refl _ _).alloc (Nat.le_refl _) _)) rd_two).mono ?_
        rintro e w1 ⟨v1, rfl, ho1, hb1⟩
        have O1 : Hid (Own w1 w.heap.size v1 (genI (k + 1))) := by
          have := ho1.mono (base' := w.heap.size) (by simp; omega)
          rw [X.out] at this
          exact this
        have B1 := hide ((B.out.alloc hsz _).trans (hb1.mono (by simp; omega)))
        clear ho1 hb1 O
        go_wp2
        go_roundw
        case rel => exact ⟨k + 1, by omega, by go_num, O1.out, B1.out⟩
        case measure => simp [intOf]; omega
      · obtain rfl : k = N := by omega
        go_wp2
        go_ret2
        exact ⟨_, rfl, by rw [← HN.out]; exact O.out, B.out⟩

set_option maxRecDepth 100000 in
set_option maxHeartbeats 1600000 in
theorem l4Generator_calls (n : Nat) (w : World) (h3 : n ≤ 3) :
    Calls Tryd.prog 63 #[.int .i64 n] w fun e w' => ∃ v', e = .returned v' ∧ Own w' w.heap.size v' (genI (2 * n)) ∧ Below w.heap.size w w' := by
  go_enter Tryd.func63, Tryd.ntmps63
  go_wp2
  go_loopw [3, 4] (fun vg vk wr => ∃ k : Nat, k ≤ 2 * n ∧ vk = .int .i64 k ∧ Own wr w.heap.size vg (genI k) ∧ Below w.heap.size w wr) (fun _ vk _ => 2 * n - (intOf vk).toNat)
  case atStart =>
    refine ⟨0, Nat.zero_le _, rfl, ?_, (Below.refl _ _).alloc (Nat.le_refl _) _⟩
    exact World.ownsRow_lit w #[.int .i64 1] 1 (Nat.le_refl _) (by decide) (by rfl)
  case round =>
    obtain ⟨k, hk, rfl, ho, hb⟩ := hrel
    have O := hide ho
    have B := hide hb
    clear ho hb
    by_cases hlt : k < 2 * n
    · have hlt' : (k : Int) < 2 * (n : Int) := by omega
      go_wp2_with fail
      refine (l1Pow_calls 2 k _ (by omega) (by omega) (by omega) (by omega)).mono ?_
      rintro e w' ⟨rfl, rfl⟩
      rw [Int.toNat_natCast]
      obtain ⟨x, hx⟩ : ∃ x, x = pow 2 k := ⟨_, rfl⟩
      rw [show pow (Int.toNat 2) k = x from hx.symm]
      have X := hide hx
      have hx256 : x < 256 := by rw [hx]; exact pow_lt _ _
      clear hx
      have hsz := B.out.size
      go_wp2_with fail
      refine (l1MulPoly_calls _ _ (genI k) [(x : Int), 1] _ (O.out.rd.below ((Below.refl _ _).alloc (Nat.le_refl _) _)) rd_two (gen_facts (by omega)).1 (two_good hx256)).mono ?_
      rintro e w1 ⟨v1, rfl, ho1, hb1⟩
      have O1 : Hid (Own w1 w.heap.size v1 (genI (k + 1))) := by
        have := ho1.mono (base' := w.heap.size) (by simp; omega)
        rw [X.out] at this
        have e := (gen_next (k := k) (by omega)).2
        rw [← e]
        exact this
      have B1 := hide ((B.out.alloc hsz _).trans (hb1.mono (by simp; omega)))
      clear ho1 hb1 O
      go_wp2
      go_roundw
      case rel => exact ⟨k + 1, by omega, by go_num, O1.out, B1.out⟩
      case measure => simp [intOf]; omega
    · obtain rfl : k = 2 * n := by omega
      have hlt' : ¬ ((2 * n : Nat) : Int) < 2 * (n : Int) := by omega
      go_wp2
      go_ret
      exact ⟨_, rfl, O.out, B.out⟩

set_option maxRecDepth 100000 in
set_option maxHeartbeats 1600000 in
theorem sGeneratorOf_calls (t : Int) (w : World) :
    Calls Tryd.prog 13 #[.int .i64 t] w fun e w' => ∃ v', e = .returned (.tuple #[v', .bool (genR t).2]) ∧ Own w' w.heap.size v' (genR t).1 ∧ Below w.heap.size w w' := by
  cases hw : wOk t with
  | false =>
    have G := hide hw
    rw [genR_no hw]
    clear hw
    go_enter Tryd.func13, Tryd.ntmps13
    go_wp2_with fail
    refine (l4Wrong_calls t _).mono ?_
    rw [G.out]
    rintro e w' ⟨rfl, rfl⟩
    go_wp2
    go_ret2
    exact ⟨_, rfl, own_nil _ _, Below.refl _ _⟩
  | true =>
    rw [genR_yes hw]
    obtain ⟨h1, h3⟩ := wOk_iff.1 hw
    obtain ⟨n, rfl⟩ := Int.eq_ofNat_of_zero_le (a := t) (by omega)
    have G := hide hw
    rw [Int.toNat_natCast]
    clear hw
    go_enter Tryd.func13, Tryd.ntmps13
    go_wp2_with fail
    refine (l4Wrong_calls _ _).mono ?_
    rw [G.out]
    rintro e w' ⟨rfl, rfl⟩
    go_wp2_with fail
    refine (l4Generator_calls n _ (by omega)).mono ?_
    rintro e w1 ⟨v1, rfl, ho1, hb1⟩
    have O1 := hide ho1
    have B1 := hide hb1
    clear ho1 hb1
    go_wp2
    go_ret2
    exact ⟨_, rfl, O1.out, B1.out⟩
end Gf
end Go.Proofs.YtogopakmebiomaaDoor

namespace Go.Proofs.YtogopakmebiomaaDoor
open Go.RowKit

namespace Gf
def wdOk (xs : List Int) (t : Int) : Bool := wOk t && decide (2 * t < (xs.length : Int)) && decide (xs.length ≤ 24) && xs.all elOk
theorem wdOk_yes {xs : List Int} {t : Int} (h : wdOk xs t = true) : wOk t = true ∧ 2 * t < (xs.length : Int) ∧ xs.length ≤ 24 ∧ xs.all elOk = true := by
  simp only [wdOk, Bool.and_eq_true, decide_eq_true_eq] at h
  exact ⟨h.1.1.1, h.1.1.2, h.1.2, h.2⟩
theorem wdOk_mk {xs : List Int} {t : Int} (h1 : wOk t = true) (h2 : 2 * t < (xs.length : Int)) (h3 : xs.length ≤ 24) (h4 : xs.all elOk = true) : wdOk xs t = true := by
  simp only [wdOk, Bool.and_eq_true, decide_eq_true_eq]
  exact ⟨⟨⟨h1, h2⟩, h3⟩, h4⟩
theorem wdOk_no {xs : List Int} {t : Int} (h : ¬ (wOk t = true ∧ 2 * t < (xs.length : Int) ∧ xs.length ≤ 24 ∧ xs.all elOk = true)) : wdOk xs t = false := by
  cases hh : wdOk xs t with
  | false => rfl
  | true => exact absurd (wdOk_yes hh) h
/-- The first n syndromes. -/
def synI (xs : List Int) (n : Nat) : List Int := (List.range n).map fun k : Nat => ((ev (pow 2 k) xs : Nat) : Int)
theorem synI_length (xs : List Int) (n : Nat) : (synI xs n).length = n := by simp [synI]
theorem synI_get (xs : List Int) (n k : Nat) (h : k < n) : (synI xs n).getD k 0 = ((ev (pow 2 k) xs : Nat) : Int) := by simp [synI, h]
def synR (xs : List Int) (t : Int) : List Int × Bool := if wdOk xs t = true then (synI xs (2 * t.toNat), true) else ([], false)
theorem synR_yes {xs : List Int} {t : Int} (h : wdOk xs t = true) : synR xs t = (synI xs (2 * t.toNat), true) := if_pos h
theorem synR_no {xs : List Int} {t : Int} (h : wdOk xs t = false) : synR xs t = ([], false) := if_neg (by rw [h]; decide)
theorem synR_len (xs : List Int) (t : Int) : (synR xs t).1.length ≤ 1048576 := by
  unfold synR
  split
  next h => have := wOk_iff.1 (wdOk_yes h).1; show (synI xs _).length ≤ _; rw [synI_length]; omega
  next => show 0 ≤ _; omega
theorem all_mem {xs : List Int} (h : xs.all elOk = true) : ∀ c ∈ xs, 0 ≤ c ∧ c ≤ 255 := fun c hc => elOk_iff.1 (List.all_eq_true.1 h c hc)
theorem all_get {xs : List Int} (h : xs.all elOk = true) : ∀ i, i < xs.length → 0 ≤ xs.getD i 0 ∧ xs.getD i 0 ≤ 255 := fun i hi => elOk_iff.1 (all_of_getD.1 h i hi)
theorem cut_good {xs : List Int} (h : xs.all elOk = true) (hl : xs.length ≤ 40) : goodP (cutL xs) = true := by
  have := goodP_cut (nat_ltp (all_mem h)) (by rw [nat_length]; exact hl)
  rwa [ci_natp (all_mem h)] at this
theorem ev_cutL {xs : List Int} {x : Nat} (hx : x < 256) (h : xs.all elOk = true) : ev x (cutL xs) = ev x xs := by
  have e := ci_natp (all_mem h)
  have := ev_cut hx (nat_ltp (all_mem h))
  rw [e] at this
  rw [this, ← ev_ci, e]

set_option maxRecDepth 100000 in
set_option maxHeartbeats 1600000 in
theorem syndromesOf_no (v : Value) (xs : List Int) (t : Int) (w : World) (h : Rd w v xs) (hw : wdOk xs t = false) :
    Calls Tryd.prog 22 #[v, .int .i64 t] w fun e w' => e = .returned (.tuple #[.slice none 0 0, .bool false]) ∧ w = w' := by
  have R := hide h
  obtain ⟨a, cap, rfl, _, _, _⟩ := h
  cases h1 : wOk t with
  | false =>
    have G := hide h1
    clear h1 hw
    go_enter Tryd.func22, Tryd.ntmps22
    go_wp2_with fail
    refine (isWrong_calls t _).mono ?_
    rw [G.out]
    rintro e w' ⟨rfl, rfl⟩
    go_wp2
    go_ret2
    exact ⟨rfl, rfl⟩
  | true =>
    obtain ⟨q1, q3⟩ := wOk_iff.1 h1
    obtain ⟨n, rfl⟩ := Int.eq_ofNat_of_zero_le (a := t) (by omega)
    have G := hide h1
    by_cases h2 : 2 * n < xs.length
    case neg =>
      have h2' : (xs.length : Int) ≤ ((2 * n : Nat) : Int) := by omega
      clear h1 hw h2
      go_enter Tryd.func22, Tryd.ntmps22
      go_wp2_with fail
      refine (isWrong_calls _ _).mono ?_
      rw [G.out]
      rintro e w' ⟨rfl, rfl⟩
      go_wp2_with fail
      refine (checksOf_calls n _ (by omega)).mono ?_
      rintro e w' ⟨rfl, rfl⟩
      go_wp2
      go_ret2
      exact ⟨rfl, rfl⟩
    have h2' : ¬ (xs.length : Int) ≤ ((2 * n : Nat) : Int) := by omega
    by_cases h3 : xs.length ≤ 24
    case neg =>
      have h3' : (24 : Int) < (xs.length : Int) := by omega
      clear h1 hw h2 h3
      go_enter Tryd.func22, Tryd.ntmps22
      go_wp2_with fail
      refine (isWrong_calls _ _).mono ?_
      rw [G.out]
      rintro e w' ⟨rfl, rfl⟩
      go_wp2_with fail
      refine (checksOf_calls n _ (by omega)).mono ?_
      rintro e w' ⟨rfl, rfl⟩
      go_wp2
      go_ret2
      exact ⟨rfl, rfl⟩
    have h3' : ¬ (24 : Int) < (xs.length : Int) := by omega
    have h4 : xs.all elOk = false := by
      cases hh : xs.all elOk with
      | false => rfl
      | true => rw [wdOk_mk h1 (by omega) h3 hh] at hw; cases hw
    have E := hide h4
    clear h1 hw h2 h3 h4
    go_enter Tryd.func22, Tryd.ntmps22
    go_wp2_with fail
    refine (isWrong_calls _ _).mono ?_
    rw [G.out]
    rintro e w' ⟨rfl, rfl⟩
    go_wp2_with fail
    refine (checksOf_calls n _ (by omega)).mono ?_
    rintro e w' ⟨rfl, rfl⟩
    go_wp2_with fail
    refine (areElements_calls _ xs _ R.out).mono ?_
    rw [E.out]
    rintro e w' ⟨rfl, rfl⟩
    go_wp2
    go_ret2
    exact ⟨rfl, rfl⟩

set_option maxRecDepth 100000 in
set_option maxHeartbeats 3200000 in
theorem syndromesOf_calls (v : Value) (xs : List Int) (t : Int) (w : World) (hT : Tab w) (h : Rd w v xs) :
    Calls Tryd.prog 22 #[v, .int .i64 t] w fun e w' => ∃ v', e = .returned (.tuple #[v', .bool (synR xs t).2]) ∧ Own w' w.heap.size v' (synR xs t).1 ∧ Below w.heap.size w w' := by
  cases hw : wdOk xs t with
  | false =>
    rw [synR_no hw]
    refine (syndromesOf_no v xs t w h hw).mono ?_
    rintro e w' ⟨rfl, rfl⟩
    exact ⟨_, rfl, own_nil _ _, Below.refl _ _⟩
  | true =>
    rw [synR_yes hw]
    have T := hide hT
    have R := hide h
    obtain ⟨a, cap, rfl, _, _, _⟩ := h
    obtain ⟨h1, h2, h3, h4⟩ := wdOk_yes hw
    obtain ⟨q1, q3⟩ := wOk_iff.1 h1
    obtain ⟨n, rfl⟩ := Int.eq_ofNat_of_zero_le (a := t) (by omega)
    rw [Int.toNat_natCast]
    have G := hide h1
    have E := hide h4
    have h2' : ¬ (xs.length : Int) ≤ ((2 * n : Nat) : Int) := by omega
    have h3' : ¬ (24 : Int) < (xs.length : Int) := by omega
    obtain ⟨S, hS⟩ : ∃ S, S = synI xs (2 * n) := ⟨_, rfl⟩
    rw [← hS]
    have HS := hide hS
    clear hw hT h1 h2 h4 hS
    go_enter Tryd.func22, Tryd.ntmps22
    go_wp2_with fail
    refine (isWrong_calls _ _).mono ?_
    rw [G.out]
    rintro e w' ⟨rfl, rfl⟩
    go_wp2_with fail
    refine (checksOf_calls n _ (by omega)).mono ?_
    rintro e w' ⟨rfl, rfl⟩
    go_wp2_with fail
    refine (areElements_calls _ xs _ R.out).mono ?_
    rw [E.out]
    rintro e w' ⟨rfl, rfl⟩
    go_wp2_with fail
    refine (without_calls _ xs _ R.out (by omega)).mono ?_
    rintro e w0 ⟨pv, rfl, ho0, hb0⟩
    have P0 := hide ho0.rd
    have B0 := hide hb0
    clear ho0 hb0
    go_wp2_with fail
    refine (checksOf_calls n _ (by omega)).mono ?_
    rintro e w' ⟨rfl, rfl⟩
    obtain ⟨N, hN⟩ : ∃ N, N = 2 * n := ⟨_, rfl⟩
    rw [← hN]
    have hN6 : N ≤ 6 := by omega
    have HSl : Hid (S.length = N) := by rw [HS.out, hN]; exact synI_length _ _
    have HSg : Hid (∀ k, k < N → S.getD k 0 = ((ev (pow 2 k) xs : Nat) : Int)) := by rw [HS.out, hN]; exact synI_get xs (2 * n)
    clear hN h2'
    have hsz0 := B0.out.size
    go_wp2_with (at_make; refine wpList_make_ints rfl _ _ rfl w0.heap.size _ _ N rfl rfl (by omega) (by omega) (by omega) (Nat.le_refl _) ?_)
    intro w1 hown1 hg1
    have O1 : Hid (w1.ownsRow w0.heap.size 3 1 (.slice (some ⟨w0.heap.size, 0, none⟩) N N) N ((cpTo S 0).map (Value.int .i64))) := by
      rw [cpTo_zero, HSl.out]
      have := hown1
      unfold Own at this
      rwa [List.length_replicate] at this
    have B1 := hide ((Below.refl w0.heap.size w0).grown hg1 (Nat.le_refl _) (fun k h => by cases h))
    have CS : Hid (∀ k, k ≤ N → (cpTo S k).length = N) := fun k hk => by rw [cpTo_length S k (by rw [HSl.out]; exact hk), HSl.out]
    clear hown1 hg1
    go_wp2
    go_loopw [36] (fun vk wr => ∃ k : Nat, k ≤ N ∧ vk = .int .i64 k ∧ wr.ownsRow w0.heap.size 3 1 (.slice (some ⟨w0.heap.size, 0, none⟩) N N) N ((cpTo S k).map (Value.int .i64)) ∧ Below w0.heap.size w0 wr) (fun vk _ => N - (intOf vk).toNat)
    case atStart => exact ⟨0, Nat.zero_le _, rfl, O1.out, B1.out⟩
    case round =>
      obtain ⟨k, hk, rfl, ho, hb⟩ := hrel
      have O := hide ho
      have B := hide hb
      clear ho hb
      by_cases hlt : k < N
      · have hlt' : (k : Int) < (N : Int) := by omega
        go_wp2_with fail
        refine (powE_calls 2 k _ ((T.out.below B0.out).below B.out) (by omega) (by omega) (by omega) (by omega)).mono ?_
        rintro e w' ⟨rfl, rfl⟩
        rw [Int.toNat_natCast]
        obtain ⟨x, hx⟩ : ∃ x, x = pow 2 k := ⟨_, rfl⟩
        rw [show pow (Int.toNat 2) k = x from hx.symm]
        have hx256 : x < 256 := by rw [hx]; exact pow_lt _ _
        obtain ⟨y, hy⟩ : ∃ y, y = ev x xs := ⟨_, rfl⟩
        have Y : Hid (S.getD k 0 = ((y : Nat) : Int)) := by rw [hy, hx]; exact HSg.out k hlt
        have E2 : Hid (ev x (cutL xs) = y) := by rw [hy]; exact ev_cutL hx256 E.out
        clear hx hy
        go_wp2_with fail
        refine (evalGf_good _ (cutL xs) x _ ((T.out.below B0.out).below B.out) (P0.out.below B.out) (cut_good E.out (by omega)) (by omega) (by omega)).mono ?_
        rw [Int.toNat_natCast, E2.out]
        rintro e w2 ⟨rfl, hb2⟩
        have hlt0 : w0.heap.size < wr.heap.size := (World.ownsRow.lt O.out w0.heap.size rfl).2
        have O2 : Hid (w2.ownsRow w0.heap.size 3 1 (.slice (some ⟨w0.heap.size, 0, none⟩) N N) N ((cpTo S k).map (Value.int .i64))) := by
          refine O.out.kept (row := none) ⟨hb2.os, hb2.tape, hb2.output, hb2.size, fun k hk _ => hb2.block k hk⟩ (.inr (by simp [Value.ownBlock]))
        have B2 := hide (B.out.trans (hb2.mono B.out.size))
        have hc2 : w2.frozen? ⟨w0.heap.size, k, none⟩ = false := O2.out.frozenAt k
        obtain ⟨old, hc3⟩ : ∃ old, w2.cell? ⟨w0.heap.size, k, none⟩ = some old := by
          rw [O2.out.cellAt k (by omega)]
          have := CS.out k hk
          exact ⟨_, List.getElem?_eq_getElem (by simp; omega)⟩
        have K := hide (O2.out.stored k (.int .i64 (y : Nat)))
        clear hb2 O B
        go_wp2
        go_roundw
        case rel =>
          refine ⟨k + 1, by omega, by go_num, ?_, B2.out.setCell (Nat.le_refl _) _⟩
          have := K.out.1
          rw [← List.map_set, ← Y.out, cpTo_step S k (by rw [HSl.out]; exact hlt)] at this
          rw [← Y.out]
          exact this
        case measure => simp [intOf]; omega
      · obtain rfl : k = N := by omega
        go_wp2
        go_ret2
        refine ⟨_, rfl, ?_, B0.out.trans (B.out.mono hsz0)⟩
        have hend : cpTo S k = S := by have := cpTo_end S; rwa [HSl.out] at this
        have := O.out
        rw [hend] at this
        show World.ownsRow _ _ _ _ _ S.length _
        rw [HSl.out]
        refine ⟨this.1, ?_⟩
        rcases this.2 with hn | ⟨g, cap, cur, hv, hb', rest⟩
        · exact .inl hn
        · exact .inr ⟨g, cap, cur, hv, Nat.le_trans hsz0 hb', rest⟩

set_option maxRecDepth 100000 in
set_option maxHeartbeats 1600000 in
theorem l4Word_calls (v : Value) (xs : List Int) (t : Int) (w : World) (h : Rd w v xs) :
    Calls Tryd.prog 76 #[v, .int .i64 t] w fun e w' => e = .returned (.bool (wdOk xs t)) ∧ w = w' := by
  have R := hide h
  obtain ⟨a, cap, rfl, g1, g2, _⟩ := h
  have hm : xs.length ≤ maxLen := by omega
  unfold maxLen at hm
  clear g1 g2
  cases h1 : wOk t with
  | false =>
    rw [wdOk_no (by rw [h1]; simp)]
    have G := hide h1
    clear h1
    go_enter Tryd.func76, Tryd.ntmps76
    go_wp2_with fail
    refine (l4Wrong_calls _ _).mono ?_
    rw [G.out]
    rintro e w' ⟨rfl, rfl⟩
    go_wp2
    go_ret
    exact ⟨rfl, rfl⟩
  | true =>
    obtain ⟨q1, q3⟩ := wOk_iff.1 h1
    have G := hide h1
    by_cases h2 : 2 * t + 1 ≤ (xs.length : Int) ∧ (xs.length : Int) ≤ 24
    · have e : wdOk xs t = xs.all elOk := by
        simp only [wdOk, h1, Bool.true_and, decide_eq_true (show 2 * t < (xs.length : Int) by omega), decide_eq_true (show xs.length ≤ 24 by omega)]
      rw [e]
      have D := hide (decide_eq_true h2)
      clear h1 e h2
      go_enter Tryd.func76, Tryd.ntmps76
      go_wp2_with fail
      refine (l4Wrong_calls _ _).mono ?_
      rw [G.out]
      rintro e w' ⟨rfl, rfl⟩
      go_wp2_with fail
      refine (l1In_calls _ _ _ _).mono ?_
      rw [D.out]
      rintro e w' ⟨rfl, rfl⟩
      go_wp2_with fail
      refine (l1All_calls _ xs _ R.out).mono ?_
      rintro e w' ⟨rfl, rfl⟩
      go_wp2
      go_ret
      exact ⟨rfl, rfl⟩
    · rw [wdOk_no (by rw [h1]; omega)]
      have D := hide (decide_eq_false h2)
      clear h1 h2
      go_enter Tryd.func76, Tryd.ntmps76
      go_wp2_with fail
      refine (l4Wrong_calls _ _).mono ?_
      rw [G.out]
      rintro e w' ⟨rfl, rfl⟩
      go_wp2_with fail
      refine (l1In_calls _ _ _ _).mono ?_
      rw [D.out]
      rintro e w' ⟨rfl, rfl⟩
      go_wp2
      go_ret
      exact ⟨rfl, rfl⟩

theorem rd_single2 {w : World} {z : Int} : Rd (w.alloc (.cells #[.int .i64 z] 3)) (.slice (some ⟨w.heap.size, 0, none⟩) 1 1) [z] := by
  refine ⟨_, 1, rfl, Nat.le_refl _, ⟨by unfold maxLen; omega, fun h => by cases h⟩, .inr ⟨_, 0, rfl, by simp, fun i hi => ?_⟩⟩
  simp at hi
  subst hi
  exact World.cell?_alloc_at _ _ _ _ (by simp)
theorem take_snoc2 (l : List Int) (k : Nat) (h : k < l.length) : l.take (k + 1) = l.take k ++ [l.getD k 0] := by
  rw [List.take_succ_eq_append_getElem h, List.getD_eq_getElem?_getD, List.getElem?_eq_getElem h, Option.getD_some]
set_option maxRecDepth 100000 in
set_option maxHeartbeats 1600000 in
theorem l4Syndromes_calls (v : Value) (xs : List Int) (n : Nat) (w : World) (h : Rd w v xs) (he : xs.all elOk = true) (hn : n ≤ 3) :
    Calls Tryd.prog 77 #[v, .int .i64 n] w fun e w' => ∃ v', e = .returned v' ∧ Own w' w.heap.size v' (synI xs (2 * n)) ∧ Below w.heap.size w w' := by
  have R := hide h
  have E := hide he
  obtain ⟨S, hS⟩ : ∃ S, S = synI xs (2 * n) := ⟨_, rfl⟩
  rw [← hS]
  have HSl : Hid (S.length = 2 * n) := by rw [hS]; exact synI_length _ _
  have HSg : Hid (∀ k, k < 2 * n → S.getD k 0 = ((ev (pow 2 k) xs : Nat) : Int)) := by rw [hS]; exact synI_get xs (2 * n)
  clear h he hS
  go_enter Tryd.func77, Tryd.ntmps77
  go_wp2
  go_loopw [5, 6] (fun vo vk wr => ∃ k : Nat, k ≤ 2 * n ∧ vk = .int .i64 k ∧ Own wr w.heap.size vo (S.take k) ∧ Below w.heap.size w wr) (fun _ vk _ => 2 * n - (intOf vk).toNat)
  case atStart => exact ⟨0, Nat.zero_le _, rfl, World.ownsRow_nil _ _ _ _, Below.refl _ _⟩
  case round =>
    obtain ⟨k, hk, rfl, ho, hb⟩ := hrel
    have O := hide ho
    have B := hide hb
    clear ho hb
    by_cases hlt : k < 2 * n
    · have hlt' : (k : Int) < 2 * (n : Int) := by omega
      go_wp2_with fail
      refine (l1Pow_calls 2 k _ (by omega) (by omega) (by omega) (by omega)).mono ?_
      rintro e w' ⟨rfl, rfl⟩
      rw [Int.toNat_natCast]
      obtain ⟨x, hx⟩ : ∃ x, x = pow 2 k := ⟨_, rfl⟩
      rw [show pow (Int.toNat 2) k = x from hx.symm]
      have hx256 : x < 256 := by rw [hx]; exact pow_lt _ _
      obtain ⟨y, hy⟩ : ∃ y, y = ev x xs := ⟨_, rfl⟩
      have Y : Hid (S.getD k 0 = ((y : Nat) : Int)) := by rw [hy, hx]; exact HSg.out k hlt
      have E2 := hide hy
      clear hx hy
      go_wp2_with fail
      refine (l1Eval_calls _ xs x _ (R.out.below B.out) (by omega) (by omega) (all_get E.out)).mono ?_
      rw [Int.toNat_natCast, ← E2.out]
      rintro e w2 ⟨rfl, hb2⟩
      have O2 := hide ((O.out.below hb2).alloc (.cells #[.int .i64 ((y : Nat) : Int)] 3))
      have B2 := hide (B.out.trans (hb2.mono B.out.size))
      have HL2 : Hid ((S.take k).length = k) := by show (S.take k).length = k; rw [List.length_take, HSl.out]; omega
      clear hb2
      go_wp2_with (at_builtin; refine wpList_append_rd rfl _ _ rfl w.heap.size _ (S.take k).length (S.take k) [((y : Nat) : Int)] rfl O2.out _ rfl rd_single2 (by rw [HL2.out]; simp; omega) (by have := B2.out.size; simp; omega) ?_)
      intro v' w3 ho3 hg3
      have hb3 : Below w.heap.size w w3 := (B2.out.alloc B2.out.size _).grown hg3 (by have := B2.out.size; simp; omega) (fun i hi => (O.out.lt i hi).1)
      have e : S.take k ++ [((y : Nat) : Int)] = S.take (k + 1) := by rw [take_snoc2 S k (by rw [HSl.out]; exact hlt), Y.out]
      rw [e] at ho3
      have O3 := hide ho3
      have B3 := hide hb3
      clear ho3 hg3 hb3 e
      go_wp2
      go_roundw
      case rel => exact ⟨k + 1, by omega, by go_num, O3.out, B3.out⟩
      case measure => simp [intOf]; omega
    · obtain rfl : k = 2 * n := by omega
      have hlt' : ¬ ((2 * n : Nat) : Int) < 2 * (n : Int) := by omega
      have ho := O.out
      rw [List.take_of_length_le (by rw [HSl.out]; exact Nat.le_refl _)] at ho
      have O1 := hide ho
      clear ho O
      go_wp2
      go_ret
      exact ⟨_, rfl, O1.out, B.out⟩

set_option maxRecDepth 100000 in
set_option maxHeartbeats 1600000 in
theorem sSyndromesOf_calls (v : Value) (xs : List Int) (t : Int) (w : World) (h : Rd w v xs) :
    Calls Tryd.prog 21 #[v, .int .i64 t] w fun e w' => ∃ v', e = .returned (.tuple #[v', .bool (synR xs t).2]) ∧ Own w' w.heap.size v' (synR xs t).1 ∧ Below w.heap.size w w' := by
  have R := hide h
  clear h
  cases hw : wdOk xs t with
  | false =>
    rw [synR_no hw]
    have G := hide hw
    clear hw
    go_enter Tryd.func21, Tryd.ntmps21
    go_wp2_with fail
    refine (l4Word_calls _ xs _ _ R.out).mono ?_
    rw [G.out]
    rintro e w' ⟨rfl, rfl⟩
    go_wp2
    go_ret2
    exact ⟨_, rfl, own_nil _ _, Below.refl _ _⟩
  | true =>
    rw [synR_yes hw]
    obtain ⟨h1, h2, h3, h4⟩ := wdOk_yes hw
    obtain ⟨q1, q3⟩ := wOk_iff.1 h1
    obtain ⟨n, rfl⟩ := Int.eq_ofNat_of_zero_le (a := t) (by omega)
    rw [Int.toNat_natCast]
    have G := hide hw
    have E := hide h4
    clear hw h1 h2 h4
    go_enter Tryd.func21, Tryd.ntmps21
    go_wp2_with fail
    refine (l4Word_calls _ xs _ _ R.out).mono ?_
    rw [G.out]
    rintro e w' ⟨rfl, rfl⟩
    go_wp2_with fail
    refine (l4Syndromes_calls _ xs n _ R.out E.out (by omega)).mono ?_
    rintro e w1 ⟨v1, rfl, ho1, hb1⟩
    have O1 := hide ho1
    have B1 := hide hb1
    clear ho1 hb1
    go_wp2
    go_ret2
    exact ⟨_, rfl, O1.out, B1.out⟩
end Gf
end Go.Proofs.YtogopakmebiomaaDoor

namespace Go.Proofs.YtogopakmebiomaaDoor
open Go.RowKit

structure Sys (W w : World) (L : List (Value × List Int)) : Prop where
  below : Below W.heap.size W w
  own : ∀ (i : Nat) v xs, L[i]? = some (v, xs) → Own w W.heap.size v xs
  apart : ∀ (i j : Nat) v xs u ys, i ≠ j → L[i]? = some (v, xs) → L[j]? = some (u, ys) → v.ownBlock = none ∨ v.ownBlock ≠ u.ownBlock

theorem Sys.start (W : World) : Sys W W [] := ⟨Below.refl _ _, fun i v xs h => by simp at h, fun i j v xs u ys _ h => by simp at h⟩
theorem Sys.step {W w w' : World} {L : List (Value × List Int)} (h : Sys W w L) (hb : Below w.heap.size w w') : Sys W w' L :=
  ⟨h.below.trans (hb.mono h.below.size), fun i v xs hi => Own.below (h.own i v xs hi) hb, h.apart⟩
theorem Sys.add {W w w' : World} {L : List (Value × List Int)} {v : Value} {xs : List Int} (h : Sys W w L) (hb : Below w.heap.size w w') (ho : Own w' w.heap.size v xs) : Sys W w' ((v, xs) :: L) := by
  have old : ∀ (i : Nat) u ys, L[i]? = some (u, ys) → v.ownBlock = none ∨ v.ownBlock ≠ u.ownBlock := by
    intro i u ys hi
    cases hv : v.ownBlock with
    | none => exact .inl rfl
    | some k =>
      right
      intro e
      have h1 := (ho.lt k hv).1
      have h2 := (World.ownsRow.lt (h.own i u ys hi) k e.symm).2
      omega
  refine ⟨h.below.trans (hb.mono h.below.size), ?_, ?_⟩
  · intro i u ys hi
    cases i with
    | zero => simp at hi; obtain ⟨rfl, rfl⟩ := hi; exact Own.mono ho h.below.size
    | succ i => exact Own.below (h.own i u ys (by simpa using hi)) hb
  · intro i j a as1 b bs hij hi hj
    cases i with
    | zero =>
      cases j with
      | zero => exact absurd rfl hij
      | succ j => simp at hi; obtain ⟨rfl, rfl⟩ := hi; exact old j b bs (by simpa using hj)
    | succ i =>
      cases j with
      | zero =>
        simp at hj
        obtain ⟨rfl, rfl⟩ := hj
        have := old i a as1 (by simpa using hi)
        rcases this with hv | hne
        · cases ha : a.ownBlock with
          | none => exact .inl rfl
          | some k => right; rw [hv]; simp
        · exact .inr (fun e => hne e.symm)
      | succ j => exact h.apart i j a as1 b bs (fun e => hij (by rw [e])) (by simpa using hi) (by simpa using hj)
theorem Sys.mark {W w w' : World} {L : List (Value × List Int)} {v : Value} {xs ys : List Int} (h : Sys W w L) (i : Nat) (hi : L[i]? = some (v, xs)) (ho : Own w' W.heap.size v ys) (hg : w.grownBy w' v.ownBlock) : Sys W w' (L.set i (v, ys)) := by
  have hil : i < L.length := (List.getElem?_eq_some_iff.1 hi).1
  refine ⟨h.below.grown hg h.below.size (fun k hk => (World.ownsRow.lt (h.own i v xs hi) k hk).1), ?_, ?_⟩
  · intro j u us hj
    by_cases e : i = j
    · subst e
      rw [List.getElem?_set_self hil] at hj
      simp at hj
      obtain ⟨rfl, rfl⟩ := hj
      exact ho
    · rw [List.getElem?_set_ne e] at hj
      exact World.ownsRow.kept (h.own j u us hj) hg (h.apart j i u us v xs (fun e' => e e'.symm) hj hi)
  · intro j k a as1 b bs hjk hj hk
    have get : ∀ (m : Nat) c cs, (L.set i (v, ys))[m]? = some (c, cs) → ∃ cs', L[m]? = some (c, cs') := by
      intro m c cs hm
      by_cases e : i = m
      · subst e
        rw [List.getElem?_set_self hil] at hm
        simp at hm
        obtain ⟨rfl, rfl⟩ := hm
        exact ⟨xs, hi⟩
      · rw [List.getElem?_set_ne e] at hm
        exact ⟨cs, hm⟩
    obtain ⟨as2, ha⟩ := get j a as1 hj
    obtain ⟨bs', hb⟩ := get k b bs hk
    exact h.apart j k a as2 b bs' hjk ha hb
theorem Sys.rd {W w : World} {L : List (Value × List Int)} {v : Value} {xs : List Int} (h : Sys W w L) (i : Nat) (hi : L[i]? = some (v, xs)) : Rd w v xs := (h.own i v xs hi).rd
end Go.Proofs.YtogopakmebiomaaDoor

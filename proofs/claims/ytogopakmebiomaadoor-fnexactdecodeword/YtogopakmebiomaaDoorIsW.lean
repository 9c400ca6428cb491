/-
  Whether all syndromes of a word are noughts: the program's IsWord and its model's, call by call. The program's table of rests must hold its seven numbers where the program's own function is called.
-/
import Derived.Test.YtogopakmebiomaaDoorSyn
namespace Go.Proofs.YtogopakmebiomaaDoor
open Go.RowKit
namespace Gf

def nought (z : Int) : Bool := decide (z = 0)
theorem isNought_calls (z : Int) (w : World) :
    Calls Tryd.prog 81 #[.int .i64 z] w fun e w' => e = .returned (.bool (nought z)) ∧ w = w' := by
  by_cases h : z = 0
  · have t : (z == 0) = true := by simp [h]
    have e : nought z = true := by simp [nought, h]
    rw [e]
    clear h e
    go_enter Tryd.func81, Tryd.ntmps81
    go_wp2
    go_ret
    exact ⟨by rw [← t]; rfl, rfl⟩
  · have t : (z == 0) = false := by simp [h]
    have e : nought z = false := by simp [nought, h]
    rw [e]
    clear h e
    go_enter Tryd.func81, Tryd.ntmps81
    go_wp2
    go_ret
    exact ⟨by rw [← t]; rfl, rfl⟩
set_option maxRecDepth 100000 in
set_option maxHeartbeats 800000 in
theorem allNought_calls (v : Value) (m : List Int) (w : World) (h : Rd w v m) :
    Calls Tryd.prog 80 #[v, .func (.func 81) #[] #[]] w fun e w' => e = .returned (.bool (m.all nought)) ∧ w = w' := by
  have R := hide h
  obtain ⟨a, cap, rfl, h1, h2, h3⟩ := h
  have hm : m.length ≤ maxLen := by omega
  unfold maxLen at hm
  clear h3 h2 h1
  go_enter Tryd.func80, Tryd.ntmps80
  go_wp2
  go_loop [9] (fun vi => ∃ k : Nat, k ≤ m.length ∧ vi = .int .i64 k ∧ ∀ i, i < k → nought (m.getD i 0) = true) (fun vi => m.length - (intOf vi).toNat)
  case atStart => exact ⟨0, Nat.zero_le _, rfl, fun i hi => by omega⟩
  case round =>
    obtain ⟨k, hk, rfl, hall⟩ := hrel
    have A := hide hall
    clear hall
    by_cases hlt : k < m.length
    · have hlt' : (k : Int) < (m.length : Int) := by omega
      obtain ⟨b, off, u, rfl, hc1, hu⟩ := R.out.row k hlt
      obtain ⟨r, hr⟩ : ∃ r, r = m.getD k 0 := ⟨_, rfl⟩
      rw [← hr] at hu
      subst hu
      have Hr := hide hr
      clear hr
      obtain ⟨q, hq⟩ : ∃ q, q = nought r := ⟨_, rfl⟩
      have Q := hide hq
      have HC : Hid (Calls Tryd.prog 81 #[.int .i64 r] w fun e w' => e = .returned (.bool q) ∧ w = w') := by
        rw [hq]
        exact isNought_calls r w
      cases q with
      | true =>
        clear hq
        go_wp2_with (go_at_call 81; refine HC.out.mono ?_; rintro e w' ⟨rfl, rfl⟩)
        go_round
        case rel =>
          refine ⟨k + 1, by omega, by go_num, fun i hi => ?_⟩
          by_cases e : i = k
          · subst e; rw [← Hr.out, ← Q.out]
          · exact A.out i (by omega)
        case measure => simp [intOf]; omega
      | false =>
        clear hq
        go_wp2_with (go_at_call 81; refine HC.out.mono ?_; rintro e w' ⟨rfl, rfl⟩)
        go_ret
        exact ⟨Gf.ret_bool (all_no hlt (by rw [← Hr.out, ← Q.out])).symm, rfl⟩
    · obtain rfl : k = m.length := by omega
      go_wp2
      go_ret
      exact ⟨Gf.ret_bool (all_yes A.out).symm, rfl⟩

def isB (xs : List Int) (t : Int) : Bool := (synI xs (2 * t.toNat)).all nought
def isWR (xs : List Int) (t : Int) : Bool × Bool := (wdOk xs t && isB xs t, wdOk xs t)

set_option maxRecDepth 100000 in
set_option maxHeartbeats 1600000 in
theorem isWord_calls (v : Value) (xs : List Int) (t : Int) (w : World) (hT : Tab w) (h : Rd w v xs) :
    Calls Tryd.prog 24 #[v, .int .i64 t] w fun e w' => e = .returned (.tuple #[.bool (isWR xs t).1, .bool (isWR xs t).2]) ∧ Below w.heap.size w w' := by
  have T := hide hT
  have R := hide h
  clear hT h
  unfold isWR
  cases hw : wdOk xs t with
  | false =>
    have G := hide (synR_no hw)
    clear hw
    go_enter Tryd.func24, Tryd.ntmps24
    go_wp2_with fail
    refine (syndromesOf_calls _ xs t _ T.out R.out).mono ?_
    rw [G.out]
    rintro e w1 ⟨v1, rfl, ho1, hb1⟩
    have B1 := hide hb1
    clear ho1 hb1
    go_wp2
    go_ret2
    exact ⟨rfl, B1.out⟩
  | true =>
    have G := hide (synR_yes hw)
    obtain ⟨b, hb⟩ : ∃ b, b = isB xs t := ⟨_, rfl⟩
    rw [Bool.true_and]
    rw [← hb]
    have HB := hide hb
    clear hw hb
    go_enter Tryd.func24, Tryd.ntmps24
    go_wp2_with fail
    refine (syndromesOf_calls _ xs t _ T.out R.out).mono ?_
    rw [G.out]
    rintro e w1 ⟨v1, rfl, ho1, hb1⟩
    have R1 := hide ho1.rd
    have B1 := hide hb1
    clear ho1 hb1
    go_wp2_with fail
    refine (allNought_calls _ (synI xs (2 * t.toNat)) _ R1.out).mono ?_
    rw [show (synI xs (2 * t.toNat)).all nought = b from HB.out.symm]
    rintro e w' ⟨rfl, rfl⟩
    go_wp2
    go_ret2
    exact ⟨rfl, B1.out⟩

set_option maxRecDepth 100000 in
set_option maxHeartbeats 1600000 in
theorem l4Is_calls (v : Value) (xs : List Int) (n : Nat) (w : World) (h : Rd w v xs) (he : xs.all elOk = true) (hn : n ≤ 3) :
    Calls Tryd.prog 79 #[v, .int .i64 n] w fun e w' => e = .returned (.bool (isB xs n)) ∧ Below w.heap.size w w' := by
  have R := hide h
  have E := hide he
  obtain ⟨S, hS⟩ : ∃ S, S = synI xs (2 * n) := ⟨_, rfl⟩
  have e0 : isB xs n = S.all nought := by rw [hS]; rfl
  have HSl : S.length = 2 * n := by rw [hS]; exact synI_length _ _
  rw [e0]
  have HS := hide hS
  clear h he hS e0
  have HL := hide HSl
  have hSl : S.length ≤ 6 := by omega
  clear HSl
  go_enter Tryd.func79, Tryd.ntmps79
  go_wp2_with fail
  refine (l4Syndromes_calls _ xs n _ R.out E.out hn).mono ?_
  rw [← HS.out]
  rintro e w1 ⟨v1, rfl, ho1, hb1⟩
  have R1 := hide ho1.rd
  have B1 := hide hb1
  clear ho1 hb1
  obtain ⟨a1, c1, rfl, _, _, _⟩ := R1.out
  go_wp2
  go_loopw [11] (fun vi wr => ∃ k : Nat, k ≤ S.length ∧ vi = .int .i64 k ∧ w1 = wr ∧ ∀ i, i < k → nought (S.getD i 0) = true) (fun vi _ => S.length - (intOf vi).toNat)
  case atStart => exact ⟨0, Nat.zero_le _, rfl, rfl, fun i hi => by omega⟩
  case round =>
    obtain ⟨k, hk, rfl, rfl, hall⟩ := hrel
    have A := hide hall
    clear hall
    by_cases hlt : k < S.length
    · have hlt' : (k : Int) < (S.length : Int) := by omega
      obtain ⟨b, off, u, rfl, hc1, hu⟩ := R1.out.row k hlt
      obtain ⟨r, hr⟩ : ∃ r, r = S.getD k 0 := ⟨_, rfl⟩
      rw [← hr] at hu
      subst hu
      have Hr := hide hr
      clear hr
      by_cases hz : r = 0
      · have tt : (r != 0) = false := by simp [hz]
        have HZ := hide hz
        clear hz
        go_wp2
        go_roundw
        case rel =>
          refine ⟨k + 1, by omega, by go_num, by first | trivial | rfl, fun i hi => ?_⟩
          by_cases e : i = k
          · subst e; rw [← Hr.out, HZ.out]; rfl
          · exact A.out i (by omega)
        case measure => simp [intOf]; omega
      · have tt : (r != 0) = true := by simp [hz]
        have HZ := hide hz
        clear hz
        go_wp2
        go_ret
        exact ⟨Gf.ret_bool (all_no hlt (by rw [← Hr.out]; simp [nought, HZ.out])).symm, B1.out⟩
    · obtain rfl : k = S.length := by omega
      go_wp2
      go_ret
      exact ⟨Gf.ret_bool (all_yes A.out).symm, B1.out⟩

set_option maxRecDepth 100000 in
set_option maxHeartbeats 1600000 in
theorem sIsWord_calls (v : Value) (xs : List Int) (t : Int) (w : World) (h : Rd w v xs) :
    Calls Tryd.prog 23 #[v, .int .i64 t] w fun e w' => e = .returned (.tuple #[.bool (isWR xs t).1, .bool (isWR xs t).2]) ∧ Below w.heap.size w w' := by
  have R := hide h
  clear h
  unfold isWR
  cases hw : wdOk xs t with
  | false =>
    have G := hide hw
    clear hw
    go_enter Tryd.func23, Tryd.ntmps23
    go_wp2_with fail
    refine (l4Word_calls _ xs t _ R.out).mono ?_
    rw [G.out]
    rintro e w' ⟨rfl, rfl⟩
    go_wp2
    go_ret2
    exact ⟨rfl, Below.refl _ _⟩
  | true =>
    obtain ⟨h1, h2, h3, h4⟩ := wdOk_yes hw
    obtain ⟨q1, q3⟩ := wOk_iff.1 h1
    obtain ⟨n, rfl⟩ := Int.eq_ofNat_of_zero_le (a := t) (by omega)
    have G := hide hw
    have E := hide h4
    obtain ⟨b, hb⟩ : ∃ b, b = isB xs n := ⟨_, rfl⟩
    rw [Bool.true_and]
    rw [← hb]
    have HB := hide hb
    clear hw hb h1 h2 h4
    go_enter Tryd.func23, Tryd.ntmps23
    go_wp2_with fail
    refine (l4Word_calls _ xs _ _ R.out).mono ?_
    rw [G.out]
    rintro e w' ⟨rfl, rfl⟩
    go_wp2_with fail
    refine (l4Is_calls _ xs n _ R.out E.out (by omega)).mono ?_
    rw [← HB.out]
    rintro e w1 ⟨rfl, hb1⟩
    have B1 := hide hb1
    clear hb1
    go_wp2
    go_ret2
    exact ⟨rfl, B1.out⟩
end Gf
end Go.Proofs.YtogopakmebiomaaDoor

/-
  How many rows are unlike, as the model tells it, call by call. Each contract says what it asks.
-/
import Derived.Test.YtiojipicincgfaaDoorCount
namespace Go.Proofs.YtiojipicincgfaaDoor
open Go.RowKit

theorem take_same {xs ys : List Int} {k : Nat} (h1 : k < xs.length) (h2 : k < ys.length) (h : xs.take k = ys.take k) (e : xs.getD k 0 = ys.getD k 0) : xs.take (k + 1) = ys.take (k + 1) := by
  rw [List.take_succ_eq_append_getElem h1, List.take_succ_eq_append_getElem h2, h]
  rw [List.getD_eq_getElem?_getD, List.getD_eq_getElem?_getD, List.getElem?_eq_getElem h1, List.getElem?_eq_getElem h2, Option.getD_some, Option.getD_some] at e
  rw [e]

set_option maxRecDepth 100000 in
set_option maxHeartbeats 800000 in
theorem l1Same_calls (v1 v2 : Value) (xs ys : List Int) (t : Bool) (w : World) (h1 : Rd w v1 xs) (h2 : Rd w v2 ys) (ht : t = decide (xs = ys)) :
    Calls Tryd.prog 64 #[v1, v2] w fun e w' => e = .returned (.bool t) ∧ ∃ n, w' = w.drewN n := by
  have R1 := hide h1
  have R2 := hide h2
  have T := hide ht
  obtain ⟨a1, c1, rfl, _, m1, k1⟩ := h1
  obtain ⟨a2, c2, rfl, _, _, k2⟩ := h2
  have hm : xs.length ≤ maxLen := by omega
  unfold maxLen at hm
  clear k1 k2 m1 ht
  by_cases hl : xs.length = ys.length
  · have t1 : ((xs.length : Int) != (ys.length : Int)) = false := by simp; omega
    have HL := hide hl
    clear hl
    go_enter Tryd.func64, Tryd.ntmps64
    go_wp2
    go_loopw [13] (fun vi wr => ∃ k n : Nat, k ≤ xs.length ∧ vi = .int .i64 k ∧ wr = w.drewN n ∧ xs.take k = ys.take k) (fun vi _ => xs.length - (intOf vi).toNat)
    case atStart => exact ⟨0, 0, Nat.zero_le _, rfl, rfl, rfl⟩
    case round =>
      obtain ⟨k, n, hk, rfl, rfl, hs⟩ := hrel
      have S := hide hs
      clear hs
      by_cases hlt : k < xs.length
      · have hlt' : (k : Int) < (xs.length : Int) := by omega
        have hlt2 : (k : Int) < (ys.length : Int) := by have := HL.out; omega
        obtain ⟨b, off, u, rfl, e1, hu⟩ := R1.out.row k hlt
        obtain ⟨b', off', u', rfl, e2, hu'⟩ := R2.out.row k (by have := HL.out; omega)
        obtain ⟨x, hx⟩ : ∃ x, x = xs.getD k 0 := ⟨_, rfl⟩
        obtain ⟨y, hy⟩ : ∃ y, y = ys.getD k 0 := ⟨_, rfl⟩
        rw [← hx] at hu
        rw [← hy] at hu'
        subst hu hu'
        have X := hide hx
        have Y := hide hy
        clear hx hy
        by_cases e : x = y
        · have t2 : (x != y) = false := by simp [e]
          have E := hide e
          clear e
          go_wp2
          go_quiet (fail)
          go_wp2
          go_roundw
          case rel => exact ⟨k + 1, _, by omega, by go_num, rfl, take_same hlt (by have := HL.out; omega) S.out (by rw [← X.out, ← Y.out, E.out])⟩
          case measure => simp [intOf]; omega
        · have t2 : (x != y) = true := by simp [e]
          have hf : t = false := by
            rw [T.out]
            refine decide_eq_false (fun h => e ?_)
            rw [X.out, Y.out, h]
          have F := hide hf
          clear e hf
          go_wp2
          go_quiet (fail)
          go_wp2
          go_ret
          refine ⟨Gf.ret_bool F.out.symm, ?_⟩
          rw [World.drewN_drewN]
          exact ⟨_, rfl⟩
      · obtain rfl : k = xs.length := by omega
        have hf : t = true := by
          have := S.out
          rw [List.take_of_length_le (Nat.le_refl _), HL.out, List.take_of_length_le (Nat.le_refl _)] at this
          rw [T.out]
          exact decide_eq_true this
        have F := hide hf
        clear hf
        go_wp2
        go_ret
        exact ⟨Gf.ret_bool F.out.symm, _, rfl⟩
  · have t1 : ((xs.length : Int) != (ys.length : Int)) = true := by simp; omega
    have hf : t = false := by
      rw [T.out]
      exact decide_eq_false (fun h => hl (by rw [h]))
    have F := hide hf
    clear hf hl
    go_enter Tryd.func64, Tryd.ntmps64
    go_wp2
    go_ret
    exact ⟨Gf.ret_bool F.out.symm, 0, rfl⟩

set_option maxRecDepth 100000 in
set_option maxHeartbeats 1600000 in
theorem l3Unlike_calls (av bv : Value) (a b : List (List Int)) (n : Nat) (w : World) (ha : RdM w av a) (hb : RdM w bv b) (hal : a.length = n) (hbl : b.length = n) (hn : n ≤ 4096) :
    Calls Tryd.prog 42 #[av, bv] w fun e w' => e = .returned (.int .i64 ((unlTo a b n : Nat) : Int)) ∧ Below w.heap.size w w' := by
  have RA := hide ha
  have RB := hide hb
  have AL := hide hal
  have BL := hide hbl
  obtain ⟨aa, acap, hav, _⟩ := ha
  obtain ⟨ba, bcap, hbv, _⟩ := hb
  rw [hal] at hav
  rw [hbl] at hbv
  subst hav hbv
  clear hal hbl
  go_enter Tryd.func42, Tryd.ntmps42
  go_wp2
  go_loopw [5, 9] (fun vn vi wr => ∃ k c : Nat, k ≤ n ∧ vi = .int .i64 k ∧ vn = .int .i64 c ∧ c = unlTo a b k ∧ Below w.heap.size w wr) (fun _ vi _ => n - (intOf vi).toNat)
  case atStart => exact ⟨0, 0, Nat.zero_le _, rfl, rfl, rfl, Below.refl _ _⟩
  case round =>
    obtain ⟨k, c, hk, rfl, rfl, hc, hb⟩ := hrel
    have C := hide hc
    have B := hide hb
    have hcn : c ≤ 4096 := by rw [hc]; have := unlTo_le a b k; omega
    clear hc hb
    by_cases hlt : k < n
    · have hlt' : (k : Int) < (n : Int) := by omega
      obtain ⟨ab, aoff, au, rfl, hac, hau⟩ := (RA.out.below B.out).row k (by rw [AL.out]; exact hlt)
      obtain ⟨bb, boff, bu, rfl, hbc, hbu⟩ := (RB.out.below B.out).row k (by rw [BL.out]; exact hlt)
      obtain ⟨r, hrr⟩ : ∃ r, r = a.getD k [] := ⟨_, rfl⟩
      obtain ⟨s, hss⟩ : ∃ s, s = b.getD k [] := ⟨_, rfl⟩
      rw [← hrr] at hau
      rw [← hss] at hbu
      obtain ⟨t, ht⟩ : ∃ t, t = decide (r = s) := ⟨_, rfl⟩
      have nx : unlTo a b (k + 1) = c + if t = true then 0 else 1 := by
        rw [unlTo, ← C.out, ht, ← hrr, ← hss]
        simp only [decide_eq_true_eq]
      have NX := hide nx
      have U := hide hau
      have V := hide hbu
      have T := hide ht
      have i0 : (0 : Int) ≤ (k : Int) := by omega
      clear ht nx hau hbu hrr hss
      go_wp2
      go_quiet ((go_at_call 64; exact quiet_more (l1Same_calls _ _ r s t _ (Rd.drewN U.out _) (Rd.drewN V.out _) T.out)))
      cases t with
      | true =>
        go_wp2
        go_roundw
        case rel => exact ⟨k + 1, c, by omega, by go_num, rfl, by rw [NX.out]; rfl, below_drewN B.out _⟩
        case measure => simp [intOf]; omega
      | false =>
        go_wp2
        go_roundw
        case rel => exact ⟨k + 1, c + 1, by omega, by go_num, by go_num, by rw [NX.out]; rfl, below_drewN B.out _⟩
        case measure => simp [intOf]; omega
    · obtain rfl : k = n := by omega
      go_wp2
      go_ret
      rw [C.out]
      exact ⟨rfl, B.out⟩
end Go.Proofs.YtiojipicincgfaaDoor

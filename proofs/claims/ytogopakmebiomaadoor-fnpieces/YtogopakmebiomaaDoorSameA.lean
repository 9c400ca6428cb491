/-
  The law's own comparing of lists: any two. No condition.
-/
import Derived.Test.YtogopakmebiomaaDoorSame
namespace Go.Proofs.YtogopakmebiomaaDoor
open Go.RowKit

set_option maxRecDepth 100000 in
set_option maxHeartbeats 800000 in
theorem sameInts_any (v1 v2 : Value) (xs ys : List Int) (t : Bool) (w : World) (h1 : Rd w v1 xs) (h2 : Rd w v2 ys) (ht : t = decide (xs = ys)) :
    Calls Tryd.prog 30 #[v1, v2] w fun e w' => e = .returned (.bool t) ∧ ∃ n, w' = w.drewN n := by
  have R1 := hide h1
  have R2 := hide h2
  have T := hide ht
  obtain ⟨a1, c1, rfl, _, m1, k1⟩ := h1
  obtain ⟨a2, c2, rfl, _, _, k2⟩ := h2
  have hm : xs.length ≤ maxLen := by omega
  unfold maxLen at hm
  clear k1 k2 m1 ht
  by_cases hl : xs.length = ys.length
  · have t1 : ((xs.length : Int) != (ys.length : Int)) = false := by simp; omega
    have HL := hide hl
    clear hl
    go_enter Tryd.func30, Tryd.ntmps30
    go_wp2
    go_loopw [13] (fun vi wr => ∃ k n : Nat, k ≤ xs.length ∧ vi = .int .i64 k ∧ wr = w.drewN n ∧ xs.take k = ys.take k) (fun vi _ => xs.length - (intOf vi).toNat)
    case atStart => exact ⟨0, 0, Nat.zero_le _, rfl, rfl, rfl⟩
    case round =>
      obtain ⟨k, n, hk, rfl, rfl, hs⟩ := hrel
      have S := hide hs
      clear hs
      by_cases hlt : k < xs.length
      · have hlt' : (k : Int) < (xs.length : Int) := by omega
        have hlt2 : (k : Int) < (ys.length : Int) := by have := HL.out; omega
        obtain ⟨b, off, u, rfl, e1, hu⟩ := R1.out.row k hlt
        obtain ⟨b', off', u', rfl, e2, hu'⟩ := R2.out.row k (by have := HL.out; omega)
        obtain ⟨x, hx⟩ : ∃ x, x = xs.getD k 0 := ⟨_, rfl⟩
        obtain ⟨y, hy⟩ : ∃ y, y = ys.getD k 0 := ⟨_, rfl⟩
        rw [← hx] at hu
        rw [← hy] at hu'
        subst hu hu'
        have X := hide hx
        have Y := hide hy
        clear hx hy
        by_cases e : x = y
        · have t2 : (x != y) = false := by simp [e]
          have E := hide e
          clear e
          go_wp2
          go_quiet (fail)
          go_wp2
          go_roundw
          case rel => exact ⟨k + 1, _, by omega, by go_num, rfl, take_same hlt (by have := HL.out; omega) S.out (by rw [← X.out, ← Y.out, E.out])⟩
          case measure => simp [intOf]; omega
        · have t2 : (x != y) = true := by simp [e]
          have hf : t = false := by
            rw [T.out]
            refine decide_eq_false (fun h => e ?_)
            rw [X.out, Y.out, h]
          have F := hide hf
          clear e hf
          go_wp2
          go_quiet (fail)
          go_wp2
          go_ret
          refine ⟨Gf.ret_bool F.out.symm, ?_⟩
          rw [World.drewN_drewN]
          exact ⟨_, rfl⟩
      · obtain rfl : k = xs.length := by omega
        have hf : t = true := by
          have := S.out
          rw [List.take_of_length_le (Nat.le_refl _), HL.out, List.take_of_length_le (Nat.le_refl _)] at this
          rw [T.out]
          exact decide_eq_true this
        have F := hide hf
        clear hf
        go_wp2
        go_ret
        exact ⟨Gf.ret_bool F.out.symm, _, rfl⟩
  · have t1 : ((xs.length : Int) != (ys.length : Int)) = true := by simp; omega
    have hf : t = false := by
      rw [T.out]
      exact decide_eq_false (fun h => hl (by rw [h]))
    have F := hide hf
    clear hf hl
    go_enter Tryd.func30, Tryd.ntmps30
    go_wp2
    go_ret
    exact ⟨Gf.ret_bool F.out.symm, 0, rfl⟩
end Go.Proofs.YtogopakmebiomaaDoor

/-
  Which rows are pieces: the program's functions and its model's, call by call. No condition.
-/
import Derived.Test.YtiojipicincgfaaDoorCode
namespace Go.Proofs.YtiojipicincgfaaDoor
open Go.RowKit

def asLongOk (m : List (List Int)) : Bool := decide (m.length = 0) || (decide (((m.getD 0 []).length : Int) ≤ 32) && m.all (fun r : List Int => decide ((r.length : Int) = ((m.getD 0 []).length : Int))))
def piecesOk (m : List (List Int)) : Bool := asLongOk m && m.all (fun r : List Int => r.all Gf.elOk)
def pieceAt (m : List (List Int)) (i : Nat) : Bool := decide ((m.getD i []).length = (m.getD 0 []).length ∧ (m.getD i []).length ≤ 32) && (m.getD i []).all Gf.elOk
theorem piecesOk_at {m : List (List Int)} (h : piecesOk m = true) (i : Nat) (hi : i < m.length) : (m.getD i []).length = (m.getD 0 []).length ∧ (m.getD i []).length ≤ 32 ∧ (m.getD i []).all Gf.elOk = true := by
  simp only [piecesOk, asLongOk, Bool.and_eq_true, Bool.or_eq_true, decide_eq_true_eq] at h
  obtain ⟨h1, h2⟩ := h
  have he := all_at (d := []) h2 i hi
  rcases h1 with h1 | ⟨h1, h3⟩
  · omega
  · have hl := all_at (d := []) h3 i hi
    simp only [decide_eq_true_eq] at hl
    exact ⟨by omega, by omega, he⟩
theorem piecesOk_yes {m : List (List Int)} (h : ∀ i, i < m.length → pieceAt m i = true) : piecesOk m = true := by
  have f : ∀ i, i < m.length → (m.getD i []).length = (m.getD 0 []).length ∧ (m.getD i []).length ≤ 32 ∧ (m.getD i []).all Gf.elOk = true := fun i hi => by
    have := h i hi
    simp only [pieceAt, Bool.and_eq_true, decide_eq_true_eq] at this
    exact ⟨this.1.1, this.1.2, this.2⟩
  unfold piecesOk asLongOk
  rw [all_yes (d := []) (p := fun r : List Int => r.all Gf.elOk) (fun i hi => (f i hi).2.2), all_yes (d := []) (p := fun r : List Int => decide ((r.length : Int) = ((m.getD 0 []).length : Int))) (fun i hi => by have := (f i hi).1; simp only [decide_eq_true_eq]; omega)]
  by_cases h0 : m.length = 0
  · rw [decide_eq_true h0]; rfl
  · have := (f 0 (by omega)).2.1
    rw [decide_eq_true (show ((m.getD 0 []).length : Int) ≤ 32 by omega)]
    simp
theorem piecesOk_no {m : List (List Int)} {k : Nat} (hk : k < m.length) (h : pieceAt m k = false) : piecesOk m = false := by
  cases hh : piecesOk m with
  | false => rfl
  | true =>
    obtain ⟨h1, h2, h3⟩ := piecesOk_at hh k hk
    rw [pieceAt, decide_eq_true ⟨h1, h2⟩, h3] at h
    cases h

set_option maxRecDepth 100000 in
set_option maxHeartbeats 800000 in
theorem areAsLong_calls (v : Value) (m : List (List Int)) (w : World) (h : RdM w v m) :
    Calls Tryd.prog 58 #[v] w fun e w' => e = .returned (.bool (asLongOk m)) ∧ Below w.heap.size w w' := by
  have R := hide h
  obtain ⟨a, cap, rfl, _⟩ := h
  by_cases h0 : m.length = 0
  · have e : asLongOk m = true := by unfold asLongOk; rw [decide_eq_true h0]; rfl
    rw [e]
    have e1 : ((m.length : Int) == 0) = true := by simp; simpa using h0
    clear e h0
    go_enter Tryd.func58, Tryd.ntmps58
    go_wp2
    go_ret
    exact ⟨rfl, Below.refl _ _⟩
  · have hl : 0 < m.length := by omega
    have hl' : (0 : Int) < (m.length : Int) := by omega
    obtain ⟨b, off, u, rfl, hc1, hu⟩ := R.out.row 0 hl
    rw [Nat.add_zero] at hc1
    obtain ⟨r, hr⟩ : ∃ r, r = m.getD 0 [] := ⟨_, rfl⟩
    rw [← hr] at hu
    obtain ⟨b3, hb3⟩ : ∃ b, b = m.all (fun q : List Int => decide ((q.length : Int) = (r.length : Int))) := ⟨_, rfl⟩
    have e : asLongOk m = (decide ((r.length : Int) ≤ 32) && b3) := by
      rw [asLongOk, decide_eq_false h0, Bool.false_or, ← hr, hb3]
    rw [e]
    have e1 : ((m.length : Int) == 0) = false := by simp; intro h; rw [h] at hl; simp at hl
    have B3 := hide hb3
    clear e hr hb3 h0
    obtain ⟨ua, uc, rfl, _⟩ := hu
    by_cases h32 : (r.length : Int) ≤ 32
    · rw [decide_eq_true h32]
      go_enter Tryd.func58, Tryd.ntmps58
      go_wp2_with fail
      refine (areAllLong_calls _ m _ _ R.out).mono ?_
      rw [← B3.out]
      rintro e w1 ⟨rfl, hb⟩
      have B := hide hb
      clear hb
      go_wp2
      go_ret
      exact ⟨by simp, B.out⟩
    · rw [decide_eq_false h32]
      go_enter Tryd.func58, Tryd.ntmps58
      go_wp2
      go_ret
      exact ⟨rfl, Below.refl _ _⟩

set_option maxRecDepth 100000 in
set_option maxHeartbeats 800000 in
theorem arePieces_calls (v : Value) (m : List (List Int)) (w : World) (h : RdM w v m) :
    Calls Tryd.prog 38 #[v] w fun e w' => e = .returned (.bool (piecesOk m)) ∧ Below w.heap.size w w' := by
  have R := hide h
  obtain ⟨a, cap, rfl, _⟩ := h
  obtain ⟨b1, hb1⟩ : ∃ b, b = asLongOk m := ⟨_, rfl⟩
  obtain ⟨b2, hb2⟩ : ∃ b, b = m.all (fun r : List Int => r.all Gf.elOk) := ⟨_, rfl⟩
  have e : piecesOk m = (b1 && b2) := by rw [piecesOk, hb1, hb2]
  rw [e]
  have B1 := hide hb1
  have B2 := hide hb2
  clear e hb1 hb2
  cases b1 with
  | false =>
    go_enter Tryd.func38, Tryd.ntmps38
    go_wp2_with fail
    refine (areAsLong_calls _ m _ R.out).mono ?_
    rw [← B1.out]
    rintro e w1 ⟨rfl, hb⟩
    have B := hide hb
    clear hb
    go_wp2
    go_ret
    exact ⟨rfl, B.out⟩
  | true =>
    go_enter Tryd.func38, Tryd.ntmps38
    go_wp2_with fail
    refine (areAsLong_calls _ m _ R.out).mono ?_
    rw [← B1.out]
    rintro e w1 ⟨rfl, hb⟩
    have B := hide hb
    clear hb
    go_wp2_with fail
    refine (allEls_calls _ m _ (R.out.below B.out)).mono ?_
    rw [← B2.out]
    rintro e w' ⟨rfl, rfl⟩
    go_wp2
    go_ret
    exact ⟨rfl, B.out⟩

set_option maxRecDepth 100000 in
set_option maxHeartbeats 1600000 in
theorem l3Pieces_calls (v : Value) (m : List (List Int)) (n : Int) (w : World) (h : RdM w v m) :
    Calls Tryd.prog 24 #[v, .int .i64 n] w fun e w' => e = .returned (.bool (piecesOk m && decide ((m.length : Int) = n))) ∧ w = w' := by
  have R := hide h
  obtain ⟨a, cap, rfl, q1, q2, q3⟩ := h
  have hm : m.length ≤ maxLen := by omega
  unfold maxLen at hm
  clear q1 q2 q3
  obtain ⟨res, hres⟩ : ∃ r, r = (piecesOk m && decide ((m.length : Int) = n)) := ⟨_, rfl⟩
  rw [← hres]
  have hno : ∀ k, k < m.length → pieceAt m k = false → res = false := fun k hk h => by rw [hres, piecesOk_no hk h]; rfl
  have RES := hide hres
  have NO := hide hno
  clear hres hno
  go_enter Tryd.func24, Tryd.ntmps24
  go_wp2
  go_loop [9] (fun vi => ∃ (k : Nat), k ≤ m.length ∧ vi = .int .i64 k ∧ ∀ i, i < k → pieceAt m i = true) (fun vi => m.length - (intOf vi).toNat)
  case atStart => exact ⟨0, Nat.zero_le _, rfl, fun i hi => by omega⟩
  case round =>
    obtain ⟨k, hk, rfl, hall⟩ := hrel
    have A := hide hall
    clear hall
    by_cases hlt : k < m.length
    · have hlt' : (k : Int) < (m.length : Int) := by omega
      have hl0 : (0 : Int) < (m.length : Int) := by omega
      obtain ⟨b, off, u, rfl, hc, hu⟩ := R.out.row k hlt
      obtain ⟨b', off', u0, hb', hc0, hu0⟩ := R.out.row 0 (by omega)
      simp only [Option.some.injEq, Addr.mk.injEq, and_true] at hb'
      obtain ⟨rfl, rfl⟩ := hb'
      rw [Nat.add_zero] at hc0
      obtain ⟨r, hr⟩ : ∃ r, r = m.getD k [] := ⟨_, rfl⟩
      obtain ⟨r0, hr0⟩ : ∃ r, r = m.getD 0 [] := ⟨_, rfl⟩
      rw [← hr] at hu
      rw [← hr0] at hu0
      have hpa : pieceAt m k = (decide (r.length = r0.length ∧ r.length ≤ 32) && r.all Gf.elOk) := by rw [pieceAt, hr, hr0]
      have PA := hide hpa
      have U := hide hu
      obtain ⟨ua, uc, rfl, _⟩ := hu
      have hcc : u0 = u0 := rfl
      obtain ⟨va, vc, rfl, _⟩ := hu0
      clear hr hr0 hpa hcc
      by_cases e1 : r.length = r0.length
      · have t1 : ((r.length : Int) != (r0.length : Int)) = false := by simp; omega
        by_cases e2 : r.length ≤ 32
        · have t2 : ¬ (32 : Int) < (r.length : Int) := by omega
          obtain ⟨b4, hb4⟩ : ∃ b, b = r.all Gf.elOk := ⟨_, rfl⟩
          have hpk : pieceAt m k = b4 := by rw [PA.out, decide_eq_true ⟨e1, e2⟩, hb4]; rfl
          have B4 := hide hb4
          have PK := hide hpk
          have E1 := hide e1
          clear hb4 hpk e1
          cases b4 with
          | false =>
            have hf : res = false := NO.out k hlt PK.out
            have F := hide hf
            clear hf
            go_wp2_with fail
            refine (Gf.l1All_calls _ r _ U.out).mono ?_
            rw [← B4.out]
            rintro e w' ⟨rfl, rfl⟩
            go_wp2
            go_ret
            exact ⟨Gf.ret_bool F.out.symm, rfl⟩
          | true =>
            go_wp2_with fail
            refine (Gf.l1All_calls _ r _ U.out).mono ?_
            rw [← B4.out]
            rintro e w' ⟨rfl, rfl⟩
            go_wp2
            go_round
            case rel =>
              refine ⟨k + 1, by omega, by go_num, fun i hi => ?_⟩
              by_cases ee : i = k
              · subst ee; exact PK.out
              · exact A.out i (by omega)
            case measure => simp [intOf]; omega
        · have t2 : (32 : Int) < (r.length : Int) := by omega
          have hf : res = false := NO.out k hlt (by rw [PA.out, decide_eq_false (fun h => e2 h.2)]; rfl)
          have F := hide hf
          have E1 := hide e1
          clear hf e1
          go_wp2
          go_ret
          exact ⟨Gf.ret_bool F.out.symm, rfl⟩
      · have t1 : ((r.length : Int) != (r0.length : Int)) = true := by simp; omega
        have hf : res = false := NO.out k hlt (by rw [PA.out, decide_eq_false (fun h => e1 h.1)]; rfl)
        have F := hide hf
        clear hf
        go_wp2
        go_ret
        exact ⟨Gf.ret_bool F.out.symm, rfl⟩
    · obtain rfl : k = m.length := by omega
      have hf : res = decide ((m.length : Int) = n) := by rw [RES.out, piecesOk_yes A.out]; rfl
      have F := hide hf
      clear hf
      go_wp2
      go_ret
      rw [F.out]
      exact ⟨Gf.ret_bool (by rw [Bool.eq_iff_iff]; simp), rfl⟩
end Go.Proofs.YtiojipicincgfaaDoor

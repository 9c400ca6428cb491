/-
  EncodePieces: the program's function and its model's, at all arguments. The program's table of rests must hold its seven numbers where the program's own function is called.
-/
import Derived.Test.YtiojipicincgfaaDoorEnc
namespace Go.Proofs.YtiojipicincgfaaDoor
open Go.RowKit

def encOk (m : List (List Int)) (q : Int) : Bool := codeOk (m.length : Int) q && piecesOk m
def encR (m : List (List Int)) (q : Int) : List (List Int) × Bool := if encOk m q = true then (mulM (codeM m.length q.toNat) m, true) else ([], false)
theorem mul_tot {a b : List (List Int)} {l : Nat} (h : Fit a b l) (ha : a.length ≤ 16) (hl : l ≤ 64) : (mulM a b).length + tot (mulM a b) ≤ 1048576 := by
  have : ∀ k, k ≤ a.length → tot ((mulM a b).take k) ≤ 64 * k := by
    intro k
    induction k with
    | zero => intro _; simp [tot]
    | succ k ih =>
      intro hk
      rw [tot_take_succ _ k (by rw [mulM_length]; omega), mulM_get _ _ k (by omega), Gf.ci_length, mulRow_length, (h.br 0 h.b1).1]
      have := ih (by omega)
      omega
  have := this a.length (Nat.le_refl _)
  rw [List.take_of_length_le (by rw [mulM_length]; exact Nat.le_refl _)] at this
  rw [mulM_length]
  omega
theorem encR_tot (m : List (List Int)) (q : Int) : (encR m q).1.length + tot (encR m q).1 ≤ 1048576 := by
  unfold encR
  split
  · rename_i h
    simp only [encOk, Bool.and_eq_true] at h
    obtain ⟨h1, h2, h3, h4⟩ := codeOk_facts h.1
    have f0 := piecesOk_at h.2 0 (by omega)
    exact mul_tot (fit_code h.2 (by omega) (by omega) (by omega) (by omega)) (by rw [codeM_length]; omega) (by omega)
  · simp [tot]

set_option maxRecDepth 100000 in
set_option maxHeartbeats 800000 in
theorem encodePieces_calls (v : Value) (m : List (List Int)) (q : Int) (w : World) (hT : Gf.Tab w) (h : RdM w v m) :
    Calls Tryd.prog 17 #[v, .int .i64 q] w fun e w' => ∃ v', e = .returned (.tuple #[v', .bool (encR m q).2]) ∧ Mat w' w.heap.size w'.heap.size v' (encR m q).1 ∧ Below w.heap.size w w' := by
  have R := hide h
  have T := hide hT
  obtain ⟨a, cap, rfl, _⟩ := h
  clear hT
  cases hc : codeOk (m.length : Int) q with
  | false =>
    have e : encR m q = ([], false) := by simp [encR, encOk, hc]
    rw [e]
    have C := hide hc
    clear hc e
    go_enter Tryd.func17, Tryd.ntmps17
    go_wp2_with fail
    refine (isCode_calls _ q _).mono ?_
    rw [C.out]
    rintro e w' ⟨rfl, rfl⟩
    go_wp2
    go_ret2
    exact ⟨_, rfl, Mat.nil _ _ _, Below.refl _ _⟩
  | true =>
    obtain ⟨f1, f2, f3, f4⟩ := codeOk_facts hc
    have C := hide hc
    cases hp : piecesOk m with
    | false =>
      have e : encR m q = ([], false) := by simp [encR, encOk, hp]
      rw [e]
      have PO := hide hp
      clear hc hp e
      go_enter Tryd.func17, Tryd.ntmps17
      go_wp2_with fail
      refine (isCode_calls _ q _).mono ?_
      rw [C.out]
      rintro e w' ⟨rfl, rfl⟩
      go_wp2_with fail
      refine (arePieces_calls _ m _ R.out).mono ?_
      rw [PO.out]
      rintro e w1 ⟨rfl, hb⟩
      have B := hide hb
      clear hb
      go_wp2
      go_ret2
      exact ⟨_, rfl, Mat.nil _ _ _, B.out⟩
    | true =>
      have e : encR m q = (mulM (codeM m.length q.toNat) m, true) := by simp [encR, encOk, hc, hp]
      rw [e]
      have PO := hide hp
      clear hc hp e
      obtain ⟨Q, rfl⟩ := Int.eq_ofNat_of_zero_le (show 0 ≤ q by omega)
      simp only [Int.toNat_natCast]
      go_enter Tryd.func17, Tryd.ntmps17
      go_wp2_with fail
      refine (isCode_calls _ _ _).mono ?_
      rw [C.out]
      rintro e w' ⟨rfl, rfl⟩
      go_wp2_with fail
      refine (arePieces_calls _ m _ R.out).mono ?_
      rw [PO.out]
      rintro e w1 ⟨rfl, hb⟩
      have B := hide hb
      clear hb
      go_wp2_with fail
      refine (encode_calls _ m Q _ (Gf.Tab.below T.out B.out) (R.out.below B.out) PO.out (by omega) (by omega) (by omega) (by omega)).mono ?_
      rintro e w2 ⟨v2, rfl, hm2, hb2⟩
      have M2 := hide (hm2.wider B.out.size (Nat.le_refl _))
      have B2 := hide (B.out.trans (hb2.mono B.out.size))
      clear hm2 hb2
      go_wp2
      go_ret2
      exact ⟨_, rfl, M2.out, B2.out⟩

end Go.Proofs.YtiojipicincgfaaDoor

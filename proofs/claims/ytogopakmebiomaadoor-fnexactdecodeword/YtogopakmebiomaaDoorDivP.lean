/-
  The division of two polynomials at every argument that can be read: the program's and its model's, call by call. The program's table of rests must hold its seven numbers where the program's own function is called.
-/
import Derived.Test.YtogopakmebiomaaDoorSDivPoly
namespace Go.Proofs.YtogopakmebiomaaDoor
open Go.RowKit
namespace Gf

theorem divPoly_calls (pv qv : Value) (xs ys : List Int) (w : World) (hT : Tab w) (hp : Rd w pv xs) (hq : Rd w qv ys) :
    Calls Tryd.prog 74 #[pv, qv] w fun e w' => ∃ v1 v2, e = .returned (.tuple #[v1, v2, .bool (divR xs ys).2.2]) ∧ Two w w' v1 v2 (divR xs ys).1 (divR xs ys).2.1 := by
  by_cases h : goodP xs = true ∧ goodP ys = true ∧ ys.length ≠ 0
  · by_cases hs : xs.length < ys.length
    · rw [divR_short h.1 h.2.1 h.2.2 hs]
      exact (divPoly_short pv qv xs ys w hp hq h.1 h.2.1 h.2.2 hs).mono fun e w' ⟨v2, he, ho, hb⟩ => ⟨_, v2, he, Two.nil1 ho hb⟩
    · rw [divR_yes h.1 h.2.1 h.2.2 hs]
      exact divPoly_yes pv qv xs ys w hT hp hq h.1 h.2.1 h.2.2 hs
  · rw [divR_no h]
    exact (divPoly_no pv qv xs ys w hp hq h).mono fun e w' ⟨he, hw⟩ => ⟨_, _, he, hw ▸ Two.nil1 (own_nil _ _) (Below.refl _ _)⟩
theorem sDivPoly_calls (pv qv : Value) (xs ys : List Int) (w : World) (hp : Rd w pv xs) (hq : Rd w qv ys) :
    Calls Tryd.prog 70 #[pv, qv] w fun e w' => ∃ v1 v2, e = .returned (.tuple #[v1, v2, .bool (divR xs ys).2.2]) ∧ Two w w' v1 v2 (divR xs ys).1 (divR xs ys).2.1 := by
  by_cases h : goodP xs = true ∧ goodP ys = true ∧ ys.length ≠ 0
  · have hy := sDivPoly_yes pv qv xs ys w hp hq h.1 h.2.1 h.2.2
    by_cases hs : xs.length < ys.length
    · rw [divR_short h.1 h.2.1 h.2.2 hs]
      have e : steps xs ys = 0 := by unfold steps; rw [if_pos hs]
      rw [e] at hy
      have e1 : cutL (ci (dv (nat xs) (nat ys) (xs.length - ys.length) xs.length 0).2) = [] := cutL_zeros _
      have e2 : ci (dv (nat xs) (nat ys) (xs.length - ys.length) xs.length 0).1 = xs := ci_natp (goodP_mem h.1)
      rw [e1, e2] at hy
      exact hy
    · rw [divR_yes h.1 h.2.1 h.2.2 hs]
      have h0 : 0 < ys.length := by omega
      have e : steps xs ys = xs.length - ys.length + 1 := by unfold steps; rw [if_neg hs]
      rw [e, cut_dv h.1 h.2.1 h0 (by omega), dv_same1 h0 (by omega)] at hy
      exact hy
  · rw [divR_no h]
    exact (sDivPoly_no pv qv xs ys w hp hq h).mono fun e w' ⟨he, hw⟩ => ⟨_, _, he, hw ▸ Two.nil1 (own_nil _ _) (Below.refl _ _)⟩
end Gf
end Go.Proofs.YtogopakmebiomaaDoor

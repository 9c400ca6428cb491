/-
  Products of matrices as the two public functions answer them, at all arguments. The program's table of rests must hold its seven numbers where the program's own function is called.
-/
import Derived.Test.YtoipcoidcaijjaaDoorProd
namespace Go.Proofs.YtoipcoidcaijjaaDoor
open Go.RowKit

def mulOk (a b : List (List Int)) : Bool := goodM a && (goodM b && decide ((a.getD 0 []).length = b.length))
def mulMR (a b : List (List Int)) : List (List Int) × Bool := if mulOk a b = true then (mulM a b, true) else ([], false)
theorem mulOk_facts {a b : List (List Int)} (h : mulOk a b = true) : goodM a = true ∧ goodM b = true ∧ (a.getD 0 []).length = b.length := by
  simp only [mulOk, Bool.and_eq_true, decide_eq_true_eq] at h
  exact h
theorem mulMR_tot (a b : List (List Int)) : (mulMR a b).1.length + tot (mulMR a b).1 ≤ 1048576 := by
  unfold mulMR
  split
  · rename_i h
    obtain ⟨h1, h2, h3⟩ := mulOk_facts h
    simp only []
    have hb := goodM_rows h2
    have ha := goodM_rows h1
    have : ∀ k, k ≤ a.length → tot ((mulM a b).take k) ≤ 8 * k := by
      intro k
      induction k with
      | zero => intro _; simp [tot]
      | succ k ih =>
        intro hk
        rw [tot_take_succ _ k (by rw [mulM_length]; omega), mulM_get _ _ k (by omega), Gf.ci_length, mulRow_length]
        have := ih (by omega)
        have := hb.2.2.2.1
        omega
    have := this a.length (Nat.le_refl _)
    rw [List.take_of_length_le (by rw [mulM_length]; exact Nat.le_refl _)] at this
    rw [mulM_length]
    have := ha.2.1
    omega
  · simp [tot]

theorem fit_of {a b : List (List Int)} (h1 : goodM a = true) (h2 : goodM b = true) (h3 : (a.getD 0 []).length = b.length) : Fit a b (b.getD 0 []).length := by
  obtain ⟨a1, a2, a3, a4, a5⟩ := goodM_rows h1
  obtain ⟨b1, b2, b3, b4, b5⟩ := goodM_rows h2
  exact ⟨a1, by omega, b1, by omega, by omega, fun i hi => ⟨by rw [(a5 i hi).1, h3], (a5 i hi).2⟩, b5⟩
set_option maxRecDepth 100000 in
set_option maxHeartbeats 1600000 in
theorem mulMatrix_good (av bv : Value) (a b : List (List Int)) (w : World) (hT : Gf.Tab w) (ha : RdM w av a) (hb : RdM w bv b) (hga : goodM a = true) (hgb : goodM b = true) (hab : (a.getD 0 []).length = b.length) :
    Calls Tryd.prog 75 #[av, bv] w fun e w' => ∃ v', e = .returned (.tuple #[v', .bool true]) ∧ Mat w' w.heap.size w'.heap.size v' (mulM a b) ∧ Below w.heap.size w w' := by
  have RA := hide ha
  have RB := hide hb
  have T := hide hT
  have GA := hide hga
  have GB := hide hgb
  have F := hide (fit_of hga hgb hab)
  have hal : 0 < a.length := by have := (goodM_rows hga).1; omega
  have hal' : (0 : Int) < (a.length : Int) := by omega
  obtain ⟨aa, acap, rfl, _⟩ := ha
  obtain ⟨ba, bcap, rfl, _⟩ := hb
  obtain ⟨ab, aoff, au0, rfl, hab0, hac0, hau0⟩ := RA.out.rowAt 0 hal
  rw [Nat.add_zero] at hac0
  obtain ⟨aua, aucap, hau, _⟩ := hau0
  rw [hab] at hau
  subst hau
  have e1 : ((b.length : Int) == (b.length : Int)) = true := by simp
  have AC0 := hide hac0
  clear hT hga hgb hab hac0
  go_enter Tryd.func75, Tryd.ntmps75
  go_wp2_with fail
  refine (goodMatrix_calls _ a _ RA.out).mono ?_
  rw [GA.out]
  rintro e w1 ⟨rfl, hb1⟩
  have B1 := hide hb1; clear hb1
  go_wp2_with fail
  refine (goodMatrix_calls _ b _ (RB.out.below B1.out)).mono ?_
  rw [GB.out]
  rintro e w2 ⟨rfl, hb2⟩
  have B2 := hide (B1.out.trans (hb2.mono B1.out.size)); clear hb2 B1
  have hac2 : w2.cell? ⟨ab, aoff, none⟩ = _ := (B2.out.cell (p := ⟨ab, aoff, none⟩) hab0).trans AC0.out
  go_wp2_with fail
  refine (productOf_calls _ _ a b _ _ (Gf.Tab.below T.out B2.out) (RA.out.below B2.out) (RB.out.below B2.out) F.out).mono ?_
  rintro e w3 ⟨v3, rfl, hm, hb⟩
  have M := hide (hm.wider B2.out.size (Nat.le_refl _))
  have B := hide (B2.out.trans (hb.mono B2.out.size))
  clear hm hb
  go_wp2
  go_ret2
  exact ⟨_, rfl, M.out, B.out⟩

set_option maxRecDepth 100000 in
set_option maxHeartbeats 1600000 in
theorem mulMatrix_calls (av bv : Value) (a b : List (List Int)) (w : World) (hT : Gf.Tab w) (ha : RdM w av a) (hb : RdM w bv b) :
    Calls Tryd.prog 75 #[av, bv] w fun e w' => ∃ v', e = .returned (.tuple #[v', .bool (mulMR a b).2]) ∧ Mat w' w.heap.size w'.heap.size v' (mulMR a b).1 ∧ Below w.heap.size w w' := by
  by_cases hok : mulOk a b = true
  · obtain ⟨h1, h2, h3⟩ := mulOk_facts hok
    have e : mulMR a b = (mulM a b, true) := by simp [mulMR, hok]
    rw [e]
    exact mulMatrix_good _ _ a b w hT ha hb h1 h2 h3
  · have e : mulMR a b = ([], false) := by simp only [mulMR, if_neg hok]
    rw [e]
    have RA := hide ha
    have RB := hide hb
    obtain ⟨aa, acap, rfl, _⟩ := ha
    obtain ⟨ba, bcap, rfl, _⟩ := hb
    cases hga : goodM a with
    | false =>
      have GA := hide hga
      clear hga
      go_enter Tryd.func75, Tryd.ntmps75
      go_wp2_with fail
      refine (goodMatrix_calls _ a _ RA.out).mono ?_
      rw [GA.out]
      rintro e w1 ⟨rfl, hb1⟩
      have B1 := hide hb1; clear hb1
      go_wp2
      go_ret2
      exact ⟨_, rfl, Mat.nil _ _ _, B1.out⟩
    | true =>
      have GA := hide hga
      cases hgb : goodM b with
      | false =>
        have GB := hide hgb
        clear hga hgb
        go_enter Tryd.func75, Tryd.ntmps75
        go_wp2_with fail
        refine (goodMatrix_calls _ a _ RA.out).mono ?_
        rw [GA.out]
        rintro e w1 ⟨rfl, hb1⟩
        have B1 := hide hb1; clear hb1
        go_wp2_with fail
        refine (goodMatrix_calls _ b _ (RB.out.below B1.out)).mono ?_
        rw [GB.out]
        rintro e w2 ⟨rfl, hb2⟩
        have B2 := hide (B1.out.trans (hb2.mono B1.out.size)); clear hb2 B1
        go_wp2
        go_ret2
        exact ⟨_, rfl, Mat.nil _ _ _, B2.out⟩
      | true =>
        have GB := hide hgb
        have hne : (a.getD 0 []).length ≠ b.length := fun h => hok (by simp [mulOk, hga, hgb]; simpa using h)
        have hal : 0 < a.length := by have := (goodM_rows hga).1; omega
        have hal' : (0 : Int) < (a.length : Int) := by omega
        clear hga hgb
        obtain ⟨ab, aoff, au0, rfl, hab0, hac0, hau0⟩ := RA.out.rowAt 0 hal
        rw [Nat.add_zero] at hac0
        obtain ⟨r, hr⟩ : ∃ r, r = a.getD 0 [] := ⟨_, rfl⟩
        rw [← hr] at hau0 hne
        obtain ⟨aua, aucap, rfl, _⟩ := hau0
        have e1 : ((r.length : Int) == (b.length : Int)) = false := by simp; omega
        have AC0 := hide hac0
        clear hac0
        clear hr
        go_enter Tryd.func75, Tryd.ntmps75
        go_wp2_with fail
        refine (goodMatrix_calls _ a _ RA.out).mono ?_
        rw [GA.out]
        rintro e w1 ⟨rfl, hb1⟩
        have B1 := hide hb1; clear hb1
        go_wp2_with fail
        refine (goodMatrix_calls _ b _ (RB.out.below B1.out)).mono ?_
        rw [GB.out]
        rintro e w2 ⟨rfl, hb2⟩
        have B2 := hide (B1.out.trans (hb2.mono B1.out.size)); clear hb2 B1; have hac2 : w2.cell? ⟨ab, aoff, none⟩ = _ := (B2.out.cell (p := ⟨ab, aoff, none⟩) hab0).trans AC0.out
        go_wp2
        go_ret2
        exact ⟨_, rfl, Mat.nil _ _ _, B2.out⟩

set_option maxRecDepth 100000 in
set_option maxHeartbeats 1600000 in
theorem sMulMatrix_calls (av bv : Value) (a b : List (List Int)) (w : World) (ha : RdM w av a) (hb : RdM w bv b) :
    Calls Tryd.prog 74 #[av, bv] w fun e w' => ∃ v', e = .returned (.tuple #[v', .bool (mulMR a b).2]) ∧ Mat w' w.heap.size w'.heap.size v' (mulMR a b).1 ∧ Below w.heap.size w w' := by
  by_cases hok : mulOk a b = true
  · obtain ⟨h1, h2, h3⟩ := mulOk_facts hok
    have e : mulMR a b = (mulM a b, true) := by simp [mulMR, hok]
    rw [e]
    have RA := hide ha
    have RB := hide hb
    have GA := hide h1
    have GB := hide h2
    have H3 := hide h3
    have hal : 0 < a.length := by have := (goodM_rows h1).1; omega
    have hal' : (0 : Int) < (a.length : Int) := by omega
    obtain ⟨aa, acap, rfl, _⟩ := ha
    obtain ⟨ba, bcap, rfl, _⟩ := hb
    obtain ⟨ab, aoff, au0, rfl, hab0, hac0, hau0⟩ := RA.out.rowAt 0 hal
    rw [Nat.add_zero] at hac0
    obtain ⟨aua, aucap, hau, _⟩ := hau0
    rw [h3] at hau
    subst hau
    have e1 : ((b.length : Int) == (b.length : Int)) = true := by simp
    clear h1 h2 h3 hok
    go_enter Tryd.func74, Tryd.ntmps74
    go_wp2_with fail
    refine (sGoodMatrix_calls _ a _ RA.out).mono ?_
    rw [GA.out]
    rintro e w1 ⟨rfl, rfl⟩
    go_wp2_with fail
    refine (sGoodMatrix_calls _ b _ RB.out).mono ?_
    rw [GB.out]
    rintro e w2 ⟨rfl, rfl⟩
    go_wp2_with fail
    refine (l2Mul_calls _ _ a b _ RA.out RB.out GA.out GB.out H3.out).mono ?_
    rintro e w3 ⟨v3, rfl, hm, hb⟩
    have M := hide hm
    have B := hide hb
    clear hm hb
    go_wp2
    go_ret2
    exact ⟨_, rfl, M.out, B.out⟩
  · have e : mulMR a b = ([], false) := by simp only [mulMR, if_neg hok]
    rw [e]
    have RA := hide ha
    have RB := hide hb
    obtain ⟨aa, acap, rfl, _⟩ := ha
    obtain ⟨ba, bcap, rfl, _⟩ := hb
    cases hga : goodM a with
    | false =>
      have GA := hide hga
      clear hga
      go_enter Tryd.func74, Tryd.ntmps74
      go_wp2_with fail
      refine (sGoodMatrix_calls _ a _ RA.out).mono ?_
      rw [GA.out]
      rintro e w1 ⟨rfl, hb1⟩
      subst hb1
      go_wp2
      go_ret2
      exact ⟨_, rfl, Mat.nil _ _ _, Below.refl _ _⟩
    | true =>
      have GA := hide hga
      cases hgb : goodM b with
      | false =>
        have GB := hide hgb
        clear hga hgb
        go_enter Tryd.func74, Tryd.ntmps74
        go_wp2_with fail
        refine (sGoodMatrix_calls _ a _ RA.out).mono ?_
        rw [GA.out]
        rintro e w1 ⟨rfl, hb1⟩
        subst hb1
        go_wp2_with fail
        refine (sGoodMatrix_calls _ b _ RB.out).mono ?_
        rw [GB.out]
        rintro e w2 ⟨rfl, hb2⟩
        subst hb2
        go_wp2
        go_ret2
        exact ⟨_, rfl, Mat.nil _ _ _, Below.refl _ _⟩
      | true =>
        have GB := hide hgb
        have hne : (a.getD 0 []).length ≠ b.length := fun h => hok (by simp [mulOk, hga, hgb]; simpa using h)
        have hal : 0 < a.length := by have := (goodM_rows hga).1; omega
        have hal' : (0 : Int) < (a.length : Int) := by omega
        clear hga hgb
        obtain ⟨ab, aoff, au0, rfl, hab0, hac0, hau0⟩ := RA.out.rowAt 0 hal
        rw [Nat.add_zero] at hac0
        obtain ⟨r, hr⟩ : ∃ r, r = a.getD 0 [] := ⟨_, rfl⟩
        rw [← hr] at hau0 hne
        obtain ⟨aua, aucap, rfl, _⟩ := hau0
        have e1 : ((r.length : Int) == (b.length : Int)) = false := by simp; omega
        have AC0 := hide hac0
        
        clear hr
        go_enter Tryd.func74, Tryd.ntmps74
        go_wp2_with fail
        refine (sGoodMatrix_calls _ a _ RA.out).mono ?_
        rw [GA.out]
        rintro e w1 ⟨rfl, hb1⟩
        subst hb1
        go_wp2_with fail
        refine (sGoodMatrix_calls _ b _ RB.out).mono ?_
        rw [GB.out]
        rintro e w2 ⟨rfl, hb2⟩
        subst hb2
        go_wp2
        go_ret2
        exact ⟨_, rfl, Mat.nil _ _ _, Below.refl _ _⟩
end Go.Proofs.YtoipcoidcaijjaaDoor

/-
  Inverses: the program's InvertMatrix and its model's, at all rows. The program's table of rests must hold its seven numbers where the program's own function is called.
-/
import Derived.Test.YtogopakmebiomaaDoorSolve
namespace Go.Proofs.YtogopakmebiomaaDoor
open Go.RowKit
open Gf (ci nat ciM Sh AllLt redM joinN invTo solN identN piv clr opM hOf fOf)

def sqOk (m : List (List Int)) : Bool := goodM m && decide (m.length = (m.getD 0 []).length)
def invR (m : List (List Int)) : List (List Int) × Bool := if sqOk m = true then (ciM (solN (m.map nat) (identN m.length)).1, (solN (m.map nat) (identN m.length)).2) else ([], false)
theorem sqOk_facts {m : List (List Int)} (h : sqOk m = true) : goodM m = true ∧ m.length = (m.getD 0 []).length := by
  simp only [sqOk, Bool.and_eq_true, decide_eq_true_eq] at h
  exact h
theorem solN_sh {A S : List (List Nat)} {n c d : Nat} (ha : Sh A n c) (hs : Sh S n d) : (solN A S).1.length ≤ n ∧ ∀ i, i < (solN A S).1.length → ((solN A S).1.getD i []).length = d ∧ AllLt ((solN A S).1.getD i []) := by
  unfold Gf.solN
  rw [ha.len]
  cases e : invTo A S n with
  | none => exact ⟨Nat.zero_le _, fun i hi => by simp at hi⟩
  | some q =>
    have h2 := (Gf.invTo_sh ha hs n (Nat.le_refl _) q e).2
    simp only []
    rw [h2.len]
    exact ⟨Nat.le_refl _, fun i hi => ⟨h2.row i hi, h2.lt i hi⟩⟩
theorem tot_le_of {m : List (List Int)} {d : Nat} (h : ∀ i, i < m.length → (m.getD i []).length ≤ d) : tot m ≤ d * m.length := by
  have : ∀ k, k ≤ m.length → tot (m.take k) ≤ d * k := by
    intro k
    induction k with
    | zero => intro _; simp [tot]
    | succ k ih =>
      intro hk
      rw [tot_take_succ _ k (by omega), Nat.mul_succ]
      have := ih (by omega)
      have := h k (by omega)
      omega
  have := this m.length (Nat.le_refl _)
  rwa [List.take_of_length_le (Nat.le_refl _)] at this
theorem sh_sq {m : List (List Int)} (h : sqOk m = true) : Sh (m.map nat) m.length m.length := by
  obtain ⟨h1, h2⟩ := sqOk_facts h
  have := sh_nat h1
  rwa [← h2] at this
theorem invR_tot (m : List (List Int)) : (invR m).1.length + tot (invR m).1 ≤ 1048576 := by
  unfold invR
  split
  · rename_i h
    have hs := sh_sq h
    obtain ⟨h1, h2⟩ := sqOk_facts h
    have h8 := (goodM_rows h1).2.1
    have f := solN_sh hs (Gf.sh_ident m.length)
    simp only []
    have := tot_le_of (m := ciM (solN (m.map nat) (identN m.length)).1) (d := 8) (fun i hi => by
      rw [Gf.ciM_length] at hi
      rw [Gf.ciM_get, Gf.ci_length, (f.2 i hi).1]; exact h8)
    rw [Gf.ciM_length] at this ⊢
    have := f.1
    omega
  · simp [tot]

set_option maxRecDepth 100000 in
set_option maxHeartbeats 800000 in
theorem isSquare_calls (v : Value) (m : List (List Int)) (w : World) (h : RdM w v m) :
    Calls Tryd.prog 159 #[v] w fun e w' => e = .returned (.bool (sqOk m)) ∧ Below w.heap.size w w' := by
  have R := hide h
  obtain ⟨a, cap, rfl, _⟩ := h
  cases hg : goodM m with
  | false =>
    have e : sqOk m = false := by simp [sqOk, hg]
    rw [e]
    have G := hide hg
    clear hg e
    go_enter Tryd.func159, Tryd.ntmps159
    go_wp2_with fail
    refine (goodMatrix_calls _ m _ R.out).mono ?_
    rw [G.out]
    rintro e w1 ⟨rfl, hb⟩
    have B := hide hb
    clear hb
    go_wp2
    go_ret
    exact ⟨rfl, B.out⟩
  | true =>
    have G := hide hg
    have f1 := (goodM_rows hg).1
    obtain ⟨b, off, u0, rfl, hbl, hcl, hu0⟩ := R.out.rowAt 0 (by omega)
    rw [Nat.add_zero] at hcl
    obtain ⟨c, hc⟩ : ∃ c, c = (m.getD 0 []).length := ⟨_, rfl⟩
    obtain ⟨ua, uc, hu, _⟩ := hu0
    rw [← hc] at hu
    subst hu
    obtain ⟨t, ht⟩ : ∃ t, t = ((m.length : Int) == (c : Int)) := ⟨_, rfl⟩
    have e : sqOk m = t := by
      rw [sqOk, hg, ht, ← hc, Bool.true_and]
      rw [Bool.eq_iff_iff]
      simp only [decide_eq_true_eq, beq_iff_eq]
      omega
    rw [e]
    have hm0 : (0 : Int) < (m.length : Int) := by omega
    have CL := hide hcl
    clear hg e hc hcl
    go_enter Tryd.func159, Tryd.ntmps159
    go_wp2_with fail
    refine (goodMatrix_calls _ m _ R.out).mono ?_
    rw [G.out]
    rintro e w1 ⟨rfl, hb⟩
    have B := hide hb
    have hc1 : w1.cell? ⟨b, off, none⟩ = _ := (hb.cell (p := ⟨b, off, none⟩) hbl).trans CL.out
    have TT := hide ht
    clear hb ht
    go_wp2
    go_ret
    rw [TT.out]
    exact ⟨rfl, B.out⟩

set_option maxRecDepth 100000 in
set_option maxHeartbeats 1600000 in
theorem l2Invert_calls (v : Value) (m : List (List Int)) (M : List (List Nat)) (n : Nat) (w : World) (h : RdM w v m) (hcm : ciM M = m) (hsh : Sh M n n) (h1 : 1 ≤ n) (h8 : n ≤ 8) :
    Calls Tryd.prog 150 #[v] w fun e w' => ∃ v', e = .returned (.tuple #[v', .bool (solN M (identN n)).2]) ∧ Mat w' w.heap.size w'.heap.size v' (ciM (solN M (identN n)).1) ∧ Below w.heap.size w w' := by
  have R := hide h
  obtain ⟨a, cap, hv, _⟩ := h
  have hl : m.length = n := by rw [← hcm, Gf.ciM_length, hsh.len]
  rw [hl] at hv
  subst hv
  have LL : Hid (∀ i, i < m.length → (m.getD i []).length ≤ 1048576) := fun i hi => by
    rw [hl] at hi
    rw [← hcm, Gf.ciM_get, Gf.ci_length, hsh.row i hi]; omega
  obtain ⟨s, hs⟩ : ∃ s, s = solN M (identN n) := ⟨_, rfl⟩
  rw [← hs]
  have CM := hide hcm
  have SH := hide hsh
  have HL := hide hl
  have HS := hide hs
  clear hl hcm hsh hs
  go_enter Tryd.func150, Tryd.ntmps150
  go_wp2_with fail
  refine (l2Own_calls _ m _ R.out (by rw [HL.out]; omega) LL.out).mono ?_
  rintro e w1 ⟨va, rfl, hma, hb1⟩
  rw [← CM.out] at hma
  have MA := hide hma
  have B1 := hide hb1
  clear hma hb1
  go_wp2_with fail
  refine (l2Identity_calls n _ h1 h8).mono ?_
  rintro e w2 ⟨vs, rfl, hms, hb2⟩
  have hma2 := MA.out.below hb2
  rw [← Gf.ciM_ident] at hms
  have B2 := hide (B1.out.trans (hb2.mono B1.out.size))
  obtain ⟨xa, xc, hva⟩ : ∃ a c, va = .slice a n c := by
    obtain ⟨vv, h⟩ := hma2
    obtain ⟨g, cap, hv, _⟩ := h.open (by rw [Gf.ciM_length, SH.out.len]; omega)
    rw [Gf.ciM_length, SH.out.len] at hv
    exact ⟨_, _, hv⟩
  subst hva
  have MA2 := hide hma2
  have MS2 := hide hms
  have hlo : w.heap.size ≤ w1.heap.size := B1.out.size
  clear hma2 hms hb2 MA
  go_wp2
  go_loopw [14] (fun vk wr => ∃ k : Nat, ∃ q : List (List Nat) × List (List Nat), k ≤ n ∧ invTo M (identN n) k = some q ∧ vk = .int .i64 k ∧ Mat wr w.heap.size w1.heap.size (.slice xa n xc) (ciM q.1) ∧ Mat wr w1.heap.size w2.heap.size vs (ciM q.2) ∧ Chg w.heap.size w2.heap.size w2 wr) (fun vk _ => n - (intOf vk).toNat)
  case atStart => exact ⟨0, (M, identN n), Nat.zero_le _, rfl, rfl, MA2.out, MS2.out, Chg.refl _ _ _⟩
  case round =>
    obtain ⟨k, ⟨A, S⟩, hk, hr, rfl, hM, hS, hC⟩ := hrel
    obtain ⟨sa, ss⟩ := Gf.invTo_sh SH.out (Gf.sh_ident n) k hk _ hr
    simp only [] at hM hS sa ss
    have SA := hide sa
    have SS := hide ss
    have HR := hide hr
    have MH := hide hM
    have MS := hide hS
    have C := hide hC
    clear hr sa ss hM hS hC
    by_cases hlt : k < n
    · have hlt' : (k : Int) < (n : Int) := by omega
      go_wp2_with fail
      refine (l2Clear_calls _ vs A S n n n k k w.heap.size w1.heap.size w1.heap.size w2.heap.size _ MH.out MS.out SA.out SS.out hlt hlt (by omega) (by omega) (by omega) (by omega) (Nat.le_refl _)).mono ?_
      obtain ⟨pv, hpv⟩ : ∃ pv, pv = piv A k k := ⟨_, rfl⟩
      rw [← hpv]
      have PV := hide hpv
      rintro e w3 ⟨rfl, hm3, hs3, hc3⟩
      have M3 := hide hm3
      have S3 := hide hs3
      have C3 := hide (C.out.trans hc3)
      clear hm3 hs3 hc3
      cases pv with
      | none =>
        have hnone : invTo M (identN n) (k + 1) = none := by
          rw [Gf.invTo, HR.out]
          simp only []
          rw [← hpv]
        have hs0 : s = ([], false) := by rw [HS.out]; exact Gf.solN_no hnone (by rw [SH.out.len]; omega)
        have S0 := hide hs0
        clear hpv hnone hs0
        go_wp2
        go_ret2
        rw [S0.out]
        exact ⟨_, rfl, Mat.nil _ _ _, B2.out.trans (C3.out.below (Nat.le_refl _) B2.out.size)⟩
      | some p =>
        clear hpv
        go_wp2
        go_roundw
        case rel =>
          refine ⟨k + 1, (clr A k k p, opM S k p (hOf A k p) (fOf A k k p)), by omega, ?_, by go_num, M3.out, S3.out, C3.out⟩
          rw [Gf.invTo, HR.out]
          simp only []
          rw [← PV.out]
        case measure => simp [intOf]; omega
    · obtain rfl : k = n := by omega
      have hs0 : s = (S, true) := by rw [HS.out]; unfold Gf.solN; rw [SH.out.len, HR.out]
      have S0 := hide hs0
      clear hs0
      go_wp2
      go_ret2
      rw [S0.out]
      have hsz := C.out.size
      exact ⟨_, rfl, MS.out.wider hlo hsz, B2.out.trans (C.out.below (Nat.le_refl _) B2.out.size)⟩

set_option maxRecDepth 100000 in
set_option maxHeartbeats 800000 in
theorem sInvert_calls (v : Value) (m : List (List Int)) (w : World) (h : RdM w v m) :
    Calls Tryd.prog 157 #[v] w fun e w' => ∃ v', e = .returned (.tuple #[v', .bool (invR m).2]) ∧ Mat w' w.heap.size w'.heap.size v' (invR m).1 ∧ Below w.heap.size w w' := by
  have R := hide h
  obtain ⟨a, cap, rfl, _⟩ := h
  cases hg : goodM m with
  | false =>
    have e : invR m = ([], false) := by simp [invR, sqOk, hg]
    rw [e]
    have G := hide hg
    clear hg e
    go_enter Tryd.func157, Tryd.ntmps157
    go_wp2_with fail
    refine (sGoodMatrix_calls _ m _ R.out).mono ?_
    rw [G.out]
    rintro e w1 ⟨rfl, rfl⟩
    go_wp2
    go_ret2
    exact ⟨_, rfl, Mat.nil _ _ _, Below.refl _ _⟩
  | true =>
    have G := hide hg
    obtain ⟨f1, f2, _⟩ := goodM_rows hg
    obtain ⟨b, off, u0, rfl, hbl, hcl, hu0⟩ := R.out.rowAt 0 (by omega)
    rw [Nat.add_zero] at hcl
    obtain ⟨c, hc⟩ : ∃ c, c = (m.getD 0 []).length := ⟨_, rfl⟩
    obtain ⟨ua, uc, hu, _⟩ := hu0
    rw [← hc] at hu
    subst hu
    have hm0 : (0 : Int) < (m.length : Int) := by omega
    by_cases hsq : m.length = c
    · have hq : sqOk m = true := by simp [sqOk, hg]; rw [← List.getD_eq_getElem?_getD, ← hc]; exact hsq
      obtain ⟨M, hM⟩ : ∃ M, M = m.map nat := ⟨_, rfl⟩
      have CM : Hid (ciM M = m) := by rw [hM]; exact ciM_nat hg
      have SM : Hid (Sh M m.length m.length) := by rw [hM]; exact sh_sq hq
      obtain ⟨s, hs⟩ : ∃ s, s = solN M (identN m.length) := ⟨_, rfl⟩
      have e : invR m = (ciM s.1, s.2) := by rw [hs, hM]; simp [invR, hq]
      rw [e]
      have e1 : ((m.length : Int) == (c : Int)) = true := by simp; omega
      have HS := hide hs
      clear hg hq hc hsq hM hs e
      go_enter Tryd.func157, Tryd.ntmps157
      go_wp2_with fail
      refine (sGoodMatrix_calls _ m _ R.out).mono ?_
      rw [G.out]
      rintro e w1 ⟨rfl, rfl⟩
      go_wp2_with fail
      refine (l2Invert_calls _ m M m.length _ R.out CM.out SM.out f1 f2).mono ?_
      rw [← HS.out]
      rintro e w3 ⟨v3, rfl, hm3, hb3⟩
      have M3 := hide hm3
      have B3 := hide hb3
      clear hm3 hb3
      go_wp2
      go_ret2
      exact ⟨_, rfl, M3.out, B3.out⟩
    · have hq : invR m = ([], false) := by
        have : sqOk m = false := by
          rw [sqOk, hg, Bool.true_and, ← hc]
          exact decide_eq_false hsq
        simp [invR, this]
      rw [hq]
      have e1 : ((m.length : Int) == (c : Int)) = false := by simp; omega
      clear hg hq hc hsq
      go_enter Tryd.func157, Tryd.ntmps157
      go_wp2_with fail
      refine (sGoodMatrix_calls _ m _ R.out).mono ?_
      rw [G.out]
      rintro e w1 ⟨rfl, rfl⟩
      go_wp2
      go_ret2
      exact ⟨_, rfl, Mat.nil _ _ _, Below.refl _ _⟩
end Go.Proofs.YtogopakmebiomaaDoor

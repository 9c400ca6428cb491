/-
  Rows solved: the program's solveRows, in one call. The contract says what it asks.
-/
import Derived.Test.YtogopakmebiomaaDoorJoin
import Derived.Test.YtogopakmebiomaaDoorLinN
namespace Go.Proofs.YtogopakmebiomaaDoor
open Go.RowKit
open Gf (ci nat ciM Sh AllLt redM joinN invTo solN)

theorem joinI_ciM (M R : List (List Nat)) : joinI (ciM M) (ciM R) = ciM (joinN M R) := by
  unfold joinI Gf.joinN
  rw [Gf.ciM_length]
  unfold ciM
  rw [List.map_map]
  apply List.map_congr_left
  intro i _
  have e1 := Gf.ciM_get M i
  have e2 := Gf.ciM_get R i
  unfold ciM at e1 e2
  rw [e1, e2]
  simp [ci]
theorem drop_join {A B : List (List Nat)} {n c d : Nat} (ha : Sh A n c) (hb : Sh B n d) : dropM (ciM (joinN A B)) c = ciM B := by
  apply Gf.ext_getD []
  · rw [dropM_length, Gf.ciM_length, Gf.ciM_length, Gf.joinN_length, ha.len, hb.len]
  · intro i hi
    rw [dropM_length, Gf.ciM_length, Gf.joinN_length] at hi
    rw [dropM_get _ _ _ (by rw [Gf.ciM_length, Gf.joinN_length]; exact hi), Gf.ciM_get, Gf.ciM_get, Gf.joinN_get _ _ _ hi]
    rw [ha.len] at hi
    unfold Gf.ci
    rw [List.map_append, List.drop_append_of_le_length (by rw [List.length_map, ha.row i hi]; exact Nat.le_refl _), List.drop_eq_nil_of_le (by rw [List.length_map, ha.row i hi]; exact Nat.le_refl _), List.nil_append]

set_option maxRecDepth 100000 in
set_option maxHeartbeats 1600000 in
theorem solveRows_calls (mv rv : Value) (M R : List (List Nat)) (n d : Nat) (w : World) (hT : Gf.Tab w) (hm : RdM w mv (ciM M)) (hr : RdM w rv (ciM R)) (sm : Sh M n n) (sr : Sh R n d) (h1 : 1 ≤ n) (hn : n ≤ 4096) (hd1 : 1 ≤ d) (hd : d ≤ 4096) :
    Calls Tryd.prog 110 #[mv, rv] w fun e w' => ∃ v', e = .returned (.tuple #[v', .bool (solN M R).2]) ∧ Mat w' w.heap.size w'.heap.size v' (ciM (solN M R).1) ∧ Below w.heap.size w w' := by
  have RM := hide hm
  have RR := hide hr
  have T := hide hT
  have SM := hide sm
  have SR := hide sr
  have ml := sm.len
  obtain ⟨ma, mcap, hmv, _⟩ := hm
  rw [Gf.ciM_length, ml] at hmv
  subst hmv
  obtain ⟨J, hJ⟩ : ∃ J, J = joinN M R := ⟨_, rfl⟩
  have sj : Sh J n (n + d) := by rw [hJ]; exact sm.join sr
  have SJ := hide sj
  have JE : Hid (joinI (ciM M) (ciM R) = ciM J) := by rw [hJ]; exact joinI_ciM M R
  have HJ := hide hJ
  have P0 := hide (Gf.tab_pos hT)
  obtain ⟨s, hs⟩ : ∃ s, s = solN M R := ⟨_, rfl⟩
  rw [← hs]
  have HS := hide hs
  clear hT hr sm sr ml hJ sj hs
  go_enter Tryd.func110, Tryd.ntmps110
  go_wp2_with fail
  refine (joinRows_calls _ _ (ciM M) (ciM R) n n d _ RM.out RR.out (by rw [Gf.ciM_length, SM.out.len]) (by rw [Gf.ciM_length, SR.out.len]) (fun i hi => by rw [Gf.ciM_get, Gf.ci_length, SM.out.row i hi]) (fun i hi => by rw [Gf.ciM_get, Gf.ci_length, SR.out.row i hi]) (by omega) (by omega) (by omega) (by omega) (by omega)).mono ?_
  rw [JE.out]
  rintro e w1 ⟨v1, rfl, hm1, hb1⟩
  have M1 := hide hm1
  have B1 := hide hb1
  clear hm1 hb1
  go_wp2_with fail
  refine (reduceRows_calls v1 J n (n + d) n w.heap.size w1.heap.size w1 (Gf.Tab.below T.out B1.out) M1.out SJ.out h1 (by omega) (by omega) (by omega) P0.out).mono ?_
  cases hi : invTo M R n with
  | none =>
    have hlt := Gf.red_none SM.out SR.out (Nat.le_refl _) n (Nat.le_refl _) hi
    have hs : s = ([], false) := by rw [HS.out]; exact Gf.solN_no hi (by rw [SM.out.len]; exact Nat.le_refl _)
    have S0 := hide hs
    rw [← HJ.out] at hlt
    obtain ⟨rr, hrr⟩ : ∃ r, r = redM J n := ⟨_, rfl⟩
    rw [← hrr] at hlt ⊢
    clear hi hs hrr
    rintro e w2 ⟨rfl, hm2, hc2⟩
    have BB := hide (Below.thenChg B1.out hc2 (Nat.le_refl _))
    have hlt' : ((rr.1 : Nat) : Int) < (n : Int) := by omega
    clear hm2 hc2
    go_wp2
    go_ret2
    rw [S0.out]
    exact ⟨_, rfl, Mat.nil _ _ _, BB.out⟩
  | some q =>
    have hr := Gf.red_some SM.out SR.out (Nat.le_refl _) n (Nat.le_refl _) q hi
    obtain ⟨s1, s2⟩ := Gf.invTo_sh SM.out SR.out n (Nat.le_refl _) q hi
    have hs : s = (q.2, true) := by rw [HS.out]; unfold Gf.solN; rw [SM.out.len, hi]
    have S0 := hide hs
    rw [← HJ.out] at hr
    rw [hr]
    have S1 := hide s1
    have S2 := hide s2
    clear hi hs hr s1 s2
    simp only []
    rintro e w2 ⟨rfl, hm2, hc2⟩
    have M2 := hide hm2
    have BB := hide (Below.thenChg B1.out hc2 (Nat.le_refl _))
    have hlt' : ¬ ((n : Nat) : Int) < (n : Int) := by omega
    clear hm2 hc2
    go_wp2_with fail
    refine (rowsFrom_calls v1 (ciM (joinN q.1 q.2)) n w2 M2.out.rd (by rw [Gf.ciM_length, Gf.joinN_length, S1.out.len]; omega) (fun i hi => by rw [Gf.ciM_length, Gf.joinN_length, S1.out.len] at hi; rw [Gf.ciM_get, Gf.ci_length, (S1.out.join S2.out).row i hi]; omega)).mono ?_
    rw [drop_join S1.out S2.out]
    rintro e w3 ⟨v3, rfl, hm3, hb3⟩
    have M3 := hide (hm3.wider BB.out.size (Nat.le_refl _))
    have B3 := hide (BB.out.trans (hb3.mono BB.out.size))
    clear hm3 hb3
    go_wp2
    go_ret2
    rw [S0.out]
    exact ⟨_, rfl, M3.out, B3.out⟩
end Go.Proofs.YtogopakmebiomaaDoor

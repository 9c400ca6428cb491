/-
  The model's DistanceOf, at all rows. No condition.
-/
import Derived.Test.YtogopakmebiomaaDoorDist
namespace Go.Proofs.YtogopakmebiomaaDoor
open Go.RowKit

theorem RdM.drewN {w : World} {v : Value} {m : List (List Int)} (h : RdM w v m) (n : Nat) : RdM (w.drewN n) v m := h.below (below_drewN' n)

theorem sD_pieces {w : World} {aa : Option Addr} {acap n : Nat} {a : List (List Int)} {p : Bool} (R : RdM w (.slice aa a.length acap) a) (hl : a.length = n) (hp : p = piecesOk a) :
    ∀ k, Calls Tryd.prog 102 #[.slice aa a.length acap, .int .i64 (n : Nat)] (w.drewN k) fun e w' => e = .returned (.bool p) ∧ w.drewN k = w' := fun k => by
  have := l3Pieces_calls _ a (n : Nat) (w.drewN k) (RdM.drewN R k)
  rw [decide_eq_true (show (a.length : Int) = (n : Int) by omega), Bool.and_true, ← hp] at this
  exact this
set_option maxRecDepth 100000 in
set_option maxHeartbeats 3200000 in
theorem sD_p1 (aa ba : Option Addr) (n acap bcap : Nat) (w : World) (HP1 : Hid (∀ k, Calls Tryd.prog 102 #[.slice aa n acap, .int .i64 (n : Nat)] (w.drewN k) fun e w' => e = .returned (.bool false) ∧ w.drewN k = w')) :
    Calls Tryd.prog 56 #[.slice aa n acap, .slice ba n bcap] w fun e w' => e = .returned (.tuple #[.int .i64 0, .bool false]) ∧ Below w.heap.size w w' := by
  go_enter Tryd.func56, Tryd.ntmps56
  go_wp2_with fail
  go_quiet ((go_at_call 102; exact Gf.quiet_same (HP1.out _)))
  go_wp2
  go_ret2
  exact ⟨rfl, below_drewN' _⟩
set_option maxRecDepth 100000 in
set_option maxHeartbeats 3200000 in
theorem sD_p2 (aa ba : Option Addr) (n acap bcap : Nat) (w : World) (HP1 : Hid (∀ k, Calls Tryd.prog 102 #[.slice aa n acap, .int .i64 (n : Nat)] (w.drewN k) fun e w' => e = .returned (.bool true) ∧ w.drewN k = w')) (HP2 : Hid (∀ k, Calls Tryd.prog 102 #[.slice ba n bcap, .int .i64 (n : Nat)] (w.drewN k) fun e w' => e = .returned (.bool false) ∧ w.drewN k = w')) :
    Calls Tryd.prog 56 #[.slice aa n acap, .slice ba n bcap] w fun e w' => e = .returned (.tuple #[.int .i64 0, .bool false]) ∧ Below w.heap.size w w' := by
  go_enter Tryd.func56, Tryd.ntmps56
  go_wp2_with fail
  go_quiet ((go_at_call 102; first | with_reducible exact Gf.quiet_same (HP1.out _) | with_reducible exact Gf.quiet_same (HP2.out _)))
  go_wp2
  go_ret2
  exact ⟨rfl, below_drewN' _⟩
set_option maxRecDepth 100000 in
set_option maxHeartbeats 3200000 in
theorem sD_big (aa ba : Option Addr) (n acap bcap : Nat) (w : World) (HP1 : Hid (∀ k, Calls Tryd.prog 102 #[.slice aa n acap, .int .i64 (n : Nat)] (w.drewN k) fun e w' => e = .returned (.bool true) ∧ w.drewN k = w')) (HP2 : Hid (∀ k, Calls Tryd.prog 102 #[.slice ba n bcap, .int .i64 (n : Nat)] (w.drewN k) fun e w' => e = .returned (.bool true) ∧ w.drewN k = w')) (t2 : (10 : Int) < (n : Int)) :
    Calls Tryd.prog 56 #[.slice aa n acap, .slice ba n bcap] w fun e w' => e = .returned (.tuple #[.int .i64 0, .bool false]) ∧ Below w.heap.size w w' := by
  go_enter Tryd.func56, Tryd.ntmps56
  go_wp2_with fail
  go_quiet ((go_at_call 102; first | with_reducible exact Gf.quiet_same (HP1.out _) | with_reducible exact Gf.quiet_same (HP2.out _)))
  go_wp2
  go_ret2
  exact ⟨rfl, below_drewN' _⟩
set_option maxRecDepth 100000 in
set_option maxHeartbeats 3200000 in
theorem sD_okNone (aa ba : Option Addr) (acap bcap : Nat) (w : World) (HP1 : Hid (∀ k, Calls Tryd.prog 102 #[.slice aa 0 acap, .int .i64 ((0 : Nat) : Int)] (w.drewN k) fun e w' => e = .returned (.bool true) ∧ w.drewN k = w')) (HP2 : Hid (∀ k, Calls Tryd.prog 102 #[.slice ba 0 bcap, .int .i64 ((0 : Nat) : Int)] (w.drewN k) fun e w' => e = .returned (.bool true) ∧ w.drewN k = w')) (c : Nat) (HU : Hid (∀ k, Calls Tryd.prog 119 #[.slice aa 0 acap, .slice ba 0 bcap] (w.drewN k) fun e w' => e = .returned (.int .i64 ((c : Nat) : Int)) ∧ Below (w.drewN k).heap.size (w.drewN k) w')) :
    Calls Tryd.prog 56 #[.slice aa 0 acap, .slice ba 0 bcap] w fun e w' => e = .returned (.tuple #[.int .i64 ((c : Nat) : Int), .bool true]) ∧ Below w.heap.size w w' := by
  go_enter Tryd.func56, Tryd.ntmps56
  go_wp2_with fail
  go_quiet ((go_at_call 102; first | with_reducible exact Gf.quiet_same (HP1.out _) | with_reducible exact Gf.quiet_same (HP2.out _)))
  go_wp2_with fail
  refine (HU.out _).mono ?_
  rintro e w3 ⟨rfl, hb3⟩
  have B3 := hide ((below_drewN' (w := w) _).trans hb3)
  clear hb3
  go_wp2
  go_ret2
  exact ⟨rfl, B3.out⟩
set_option maxRecDepth 100000 in
set_option maxHeartbeats 3200000 in
theorem sD_ok (aa ba : Option Addr) (n acap bcap : Nat) (w : World) (HP1 : Hid (∀ k, Calls Tryd.prog 102 #[.slice aa n acap, .int .i64 (n : Nat)] (w.drewN k) fun e w' => e = .returned (.bool true) ∧ w.drewN k = w')) (HP2 : Hid (∀ k, Calls Tryd.prog 102 #[.slice ba n bcap, .int .i64 (n : Nat)] (w.drewN k) fun e w' => e = .returned (.bool true) ∧ w.drewN k = w')) (t2 : decide ((10 : Int) < (n : Int)) = false) (t3 : (0 : Int) < (n : Int)) (t5 : decide (0 < n) = true) (ab aoff bb boff l m uc vc : Nat) (ua va : Option Addr) (e1 : aa = some ⟨ab, aoff, none⟩) (e2 : ba = some ⟨bb, boff, none⟩) (hac : w.cell? ⟨ab, aoff, none⟩ = some (.slice ua l uc)) (hbc : w.cell? ⟨bb, boff, none⟩ = some (.slice va m vc)) (t4 : ((l : Int) != (m : Int)) = false) (c : Nat) (HU : Hid (∀ k, Calls Tryd.prog 119 #[.slice aa n acap, .slice ba n bcap] (w.drewN k) fun e w' => e = .returned (.int .i64 ((c : Nat) : Int)) ∧ Below (w.drewN k).heap.size (w.drewN k) w')) :
    Calls Tryd.prog 56 #[.slice aa n acap, .slice ba n bcap] w fun e w' => e = .returned (.tuple #[.int .i64 ((c : Nat) : Int), .bool true]) ∧ Below w.heap.size w w' := by
  subst e1 e2
  go_enter Tryd.func56, Tryd.ntmps56
  go_wp2_with fail
  go_quiet ((go_at_call 102; first | with_reducible exact Gf.quiet_same (HP1.out _) | with_reducible exact Gf.quiet_same (HP2.out _)))
  go_wp2_with fail
  refine (HU.out _).mono ?_
  rintro e w3 ⟨rfl, hb3⟩
  have B3 := hide ((below_drewN' (w := w) _).trans hb3)
  clear hb3
  go_wp2
  go_ret2
  exact ⟨rfl, B3.out⟩
set_option maxRecDepth 100000 in
set_option maxHeartbeats 3200000 in
theorem sD_rows (aa ba : Option Addr) (n acap bcap : Nat) (w : World) (HP1 : Hid (∀ k, Calls Tryd.prog 102 #[.slice aa n acap, .int .i64 (n : Nat)] (w.drewN k) fun e w' => e = .returned (.bool true) ∧ w.drewN k = w')) (HP2 : Hid (∀ k, Calls Tryd.prog 102 #[.slice ba n bcap, .int .i64 (n : Nat)] (w.drewN k) fun e w' => e = .returned (.bool true) ∧ w.drewN k = w')) (t2 : decide ((10 : Int) < (n : Int)) = false) (t3 : (0 : Int) < (n : Int)) (t5 : decide (0 < n) = true) (ab aoff bb boff l m uc vc : Nat) (ua va : Option Addr) (e1 : aa = some ⟨ab, aoff, none⟩) (e2 : ba = some ⟨bb, boff, none⟩) (hac : w.cell? ⟨ab, aoff, none⟩ = some (.slice ua l uc)) (hbc : w.cell? ⟨bb, boff, none⟩ = some (.slice va m vc)) (t4 : ((l : Int) != (m : Int)) = true) :
    Calls Tryd.prog 56 #[.slice aa n acap, .slice ba n bcap] w fun e w' => e = .returned (.tuple #[.int .i64 0, .bool false]) ∧ Below w.heap.size w w' := by
  subst e1 e2
  go_enter Tryd.func56, Tryd.ntmps56
  go_wp2_with fail
  go_quiet ((go_at_call 102; first | with_reducible exact Gf.quiet_same (HP1.out _) | with_reducible exact Gf.quiet_same (HP2.out _)))
  go_wp2
  go_ret2
  exact ⟨rfl, below_drewN' _⟩
set_option maxRecDepth 100000 in
set_option maxHeartbeats 3200000 in
theorem sD_len (aa ba : Option Addr) (n m acap bcap : Nat) (w : World) (t1 : ((n : Int) != (m : Int)) = true) :
    Calls Tryd.prog 56 #[.slice aa n acap, .slice ba m bcap] w fun e w' => e = .returned (.tuple #[.int .i64 0, .bool false]) ∧ Below w.heap.size w w' := by
  go_enter Tryd.func56, Tryd.ntmps56
  go_wp2_with fail
  go_quiet (fail)
  go_wp2
  go_ret2
  exact ⟨rfl, below_drewN' _⟩
theorem sDistanceOf_calls (av bv : Value) (a b : List (List Int)) (w : World) (ha : RdM w av a) (hb : RdM w bv b) :
    Calls Tryd.prog 56 #[av, bv] w fun e w' => e = .returned (.tuple #[.int .i64 (distR a b).1, .bool (distR a b).2]) ∧ Below w.heap.size w w' := by
  have RA := ha
  have RB := hb
  obtain ⟨aa, acap, rfl, _⟩ := ha
  obtain ⟨ba, bcap, rfl, _⟩ := hb
  by_cases hl : a.length = b.length
  · have hpa := pieces_app hl
    obtain ⟨p1, hp1⟩ : ∃ p, p = piecesOk a := ⟨_, rfl⟩
    obtain ⟨p2, hp2⟩ : ∃ p, p = piecesOk b := ⟨_, rfl⟩
    have HP1 := sD_pieces RA rfl hp1
    have HP2 := sD_pieces (n := a.length) RB hl.symm hp2
    rw [← hp1, ← hp2] at hpa
    have HU : a.length ≤ 10 → ∀ k, Calls Tryd.prog 119 #[.slice aa a.length acap, .slice ba b.length bcap] (w.drewN k) fun e w' => e = .returned (.int .i64 ((unlTo a b a.length : Nat) : Int)) ∧ Below (w.drewN k).heap.size (w.drewN k) w' := fun h10 k =>
      l3Unlike_calls _ _ a b a.length _ (RdM.drewN RA k) (RdM.drewN RB k) rfl hl.symm (by omega)
    rw [← hl] at HP2 HU ⊢
    cases p1 with
    | false =>
      have e : distR a b = (0, false) := by simp [distR, distOk, hpa]
      rw [e]
      exact sD_p1 aa ba a.length acap bcap w HP1
    | true =>
      cases p2 with
      | false =>
        have e : distR a b = (0, false) := by simp [distR, distOk, hpa]
        rw [e]
        exact sD_p2 aa ba a.length acap bcap w HP1 HP2
      | true =>
        by_cases h10 : a.length ≤ 10
        · by_cases h0 : a.length = 0
          · have e : distR a b = (((unlTo a b a.length : Nat) : Int), true) := by
              have : distOk a b = true := by rw [distOk, hpa, decide_eq_true hl, decide_eq_true h10, decide_eq_true h0]; rfl
              rw [distR, if_pos this]
            rw [e]
            rw [h0] at HP1 HP2 HU ⊢
            exact sD_okNone aa ba acap bcap w HP1 HP2 _ (HU (by omega))
          · obtain ⟨ab, aoff, au, ea, hac, hau⟩ := RA.row 0 (by omega)
            obtain ⟨bb, boff, bu, eb, hbc, hbu⟩ := RB.row 0 (by omega)
            rw [Nat.add_zero] at hac hbc
            obtain ⟨ua, uc, rfl, _⟩ := hau
            obtain ⟨va, vc, rfl, _⟩ := hbu
            by_cases hrs : (a.getD 0 []).length = (b.getD 0 []).length
            · have e : distR a b = (((unlTo a b a.length : Nat) : Int), true) := by
                have : distOk a b = true := by rw [distOk, hpa, decide_eq_true hl, decide_eq_true h10, decide_eq_true hrs]; simp
                rw [distR, if_pos this]
              rw [e]
              exact sD_ok aa ba a.length acap bcap w HP1 HP2 (decide_eq_false (by omega)) (by omega) (decide_eq_true (by omega)) ab aoff bb boff _ _ uc vc ua va ea eb hac hbc (by rw [hrs]; simp) _ (HU h10)
            · have e : distR a b = (0, false) := by
                have : distOk a b = false := by rw [distOk, hpa, decide_eq_false h0, decide_eq_false hrs]; simp
                rw [distR, this]; rfl
              rw [e]
              exact sD_rows aa ba a.length acap bcap w HP1 HP2 (decide_eq_false (by omega)) (by omega) (decide_eq_true (by omega)) ab aoff bb boff _ _ uc vc ua va ea eb hac hbc (by simp only [bne_iff_ne, ne_eq]; omega)
        · have e : distR a b = (0, false) := by simp [distR, distOk, h10]
          rw [e]
          exact sD_big aa ba a.length acap bcap w HP1 HP2 (by omega)
  · have e : distR a b = (0, false) := by simp [distR, distOk, hl]
    rw [e]
    exact sD_len aa ba a.length b.length acap bcap w (by simp; omega)
end Go.Proofs.YtogopakmebiomaaDoor

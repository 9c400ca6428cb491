/-
  UpdatePiece as the two public functions answer it, at all arguments. The program's table of rests must hold its seven numbers where the program's own function is called.
-/
import Derived.Test.YtogopakmebiomaaDoorSUpd
namespace Go.Proofs.YtogopakmebiomaaDoor
open Go.RowKit

theorem updOk_parts {d q : Int} {m : List (List Int)} {k : Int} {p : List Int} (h : updOk d q m k p = true) :
    ∃ D Q K : Nat, d = D ∧ q = Q ∧ k = K ∧ UpdF D Q K (m.getD 0 []).length m p ∧ updR d q m k p = (updM D Q K m p, true) := by
  have h' := h
  simp only [updOk, Bool.and_eq_true, decide_eq_true_eq] at h
  obtain ⟨h1, h2, h3, h4⟩ := h
  obtain ⟨c1, c2, c3⟩ := chkOk_facts h1
  obtain ⟨f1, f2, f3, f4⟩ := codeOk_facts c1
  obtain ⟨D, rfl⟩ := Int.eq_ofNat_of_zero_le (show 0 ≤ d by omega)
  obtain ⟨Q, rfl⟩ := Int.eq_ofNat_of_zero_le (show 0 ≤ q by omega)
  obtain ⟨K, rfl⟩ := Int.eq_ofNat_of_zero_le h2.1
  refine ⟨D, Q, K, rfl, rfl, rfl, ⟨by omega, by omega, by omega, by omega, by omega, by omega, c3, rfl, h3, h4⟩, ?_⟩
  simp only [updR, if_pos h', Int.toNat_natCast]

set_option maxRecDepth 100000 in
set_option maxHeartbeats 1600000 in
theorem updatePiece_calls (d q k : Int) (mv pv : Value) (m : List (List Int)) (p : List Int) (w : World) (hT : Gf.Tab w) (hm : RdM w mv m) (hp : Rd w pv p) :
    Calls Tryd.prog 52 #[.int .i64 d, .int .i64 q, mv, .int .i64 k, pv] w fun e w' => ∃ v', e = .returned (.tuple #[v', .bool (updR d q m k p).2]) ∧ Mat w' w.heap.size w'.heap.size v' (updR d q m k p).1 ∧ Below w.heap.size w w' := by
  cases hu : updOk d q m k p with
  | true =>
    obtain ⟨D, Q, K, rfl, rfl, rfl, hf, e⟩ := updOk_parts hu
    rw [e]
    exact updatePiece_good D Q K _ mv pv m p w hT hm hp hf
  | false =>
    have e : updR d q m k p = ([], false) := by simp [updR, hu]
    rw [e]
    have RM := hide hm
    have RP := hide hp
    obtain ⟨ma, mcap, rfl, _⟩ := hm
    obtain ⟨pa, pcap, rfl, _⟩ := hp
    clear e hT
    cases hc : chkOk d q m with
    | false =>
      have C := hide hc
      clear hc hu
      go_enter Tryd.func52, Tryd.ntmps52
      go_wp2_with fail
      refine (areCodePieces_calls _ _ _ m _ RM.out).mono ?_
      rw [C.out]
      rintro e w1 ⟨rfl, hb1⟩
      have B1 := hide hb1
      clear hb1
      go_wp2
      go_ret2
      exact ⟨_, rfl, Mat.nil _ _ _, B1.out⟩
    | true =>
      have C := hide hc
      obtain ⟨c1, c2, c3⟩ := chkOk_facts hc
      obtain ⟨f1, f2, f3, f4⟩ := codeOk_facts c1
      by_cases hk0 : k < 0
      · clear hc hu c2
        go_enter Tryd.func52, Tryd.ntmps52
        go_wp2_with fail
        refine (areCodePieces_calls _ _ _ m _ RM.out).mono ?_
        rw [C.out]
        rintro e w1 ⟨rfl, hb1⟩
        have B1 := hide hb1
        clear hb1
        go_wp2
        go_ret2
        exact ⟨_, rfl, Mat.nil _ _ _, B1.out⟩
      · by_cases hkd : d ≤ k
        · clear hc hu c2
          go_enter Tryd.func52, Tryd.ntmps52
          go_wp2_with fail
          refine (areCodePieces_calls _ _ _ m _ RM.out).mono ?_
          rw [C.out]
          rintro e w1 ⟨rfl, hb1⟩
          have B1 := hide hb1
          clear hb1
          go_wp2
          go_ret2
          exact ⟨_, rfl, Mat.nil _ _ _, B1.out⟩
        · obtain ⟨K, rfl⟩ := Int.eq_ofNat_of_zero_le (show 0 ≤ k by omega)
          have hKm : K < m.length := by omega
          obtain ⟨mb, moff, mu, rfl, hmb, hmc, hmu⟩ := RM.out.rowAt K hKm
          have hrk := piecesOk_at c3 K hKm
          obtain ⟨l, hl⟩ : ∃ l, l = (m.getD 0 []).length := ⟨_, rfl⟩
          rw [← hl] at hrk
          obtain ⟨ka, kcap, hkv, _⟩ := hmu
          rw [hrk.1] at hkv
          subst hkv
          have i2 : (0 : Int) ≤ (K : Int) := by omega
          have i3 : (K : Int) < (m.length : Int) := by omega
          have MC := hide hmc
          by_cases hpl : p.length = l
          · have t1 : ((p.length : Int) != (l : Int)) = false := by simp; omega
            have hpe : p.all Gf.elOk = false := by
              cases hpe : p.all Gf.elOk with
              | false => rfl
              | true =>
                rw [updOk, hc, decide_eq_true (show 0 ≤ (K : Int) ∧ (K : Int) < d by omega), hpe, decide_eq_true (by rw [hpl, hl])] at hu
                cases hu
            have PE := hide hpe
            clear hc hu c2 c3 hrk hl hpl hpe hmc
            go_enter Tryd.func52, Tryd.ntmps52
            go_wp2_with fail
            refine (areCodePieces_calls _ _ _ m _ RM.out).mono ?_
            rw [C.out]
            rintro e w1 ⟨rfl, hb1⟩
            have B1 := hide hb1
            have hmc1 : w1.cell? ⟨mb, moff + K, none⟩ = _ := (hb1.cell (p := ⟨mb, moff + K, none⟩) hmb).trans MC.out
            clear hb1
            go_wp2_with fail
            refine (Gf.areElements_calls _ p _ (RP.out.below B1.out)).mono ?_
            rw [PE.out]
            rintro e w1' ⟨rfl, rfl⟩
            go_wp2
            go_ret2
            exact ⟨_, rfl, Mat.nil _ _ _, B1.out⟩
          · have t1 : ((p.length : Int) != (l : Int)) = true := by simp; omega
            clear hc hu c2 c3 hrk hl hpl hmc
            go_enter Tryd.func52, Tryd.ntmps52
            go_wp2_with fail
            refine (areCodePieces_calls _ _ _ m _ RM.out).mono ?_
            rw [C.out]
            rintro e w1 ⟨rfl, hb1⟩
            have B1 := hide hb1
            have hmc1 : w1.cell? ⟨mb, moff + K, none⟩ = _ := (hb1.cell (p := ⟨mb, moff + K, none⟩) hmb).trans MC.out
            clear hb1
            go_wp2
            go_ret2
            exact ⟨_, rfl, Mat.nil _ _ _, B1.out⟩

set_option maxRecDepth 100000 in
set_option maxHeartbeats 1600000 in
theorem sUpdatePiece_calls (d q k : Int) (mv pv : Value) (m : List (List Int)) (p : List Int) (w : World) (hm : RdM w mv m) (hp : Rd w pv p) :
    Calls Tryd.prog 53 #[.int .i64 d, .int .i64 q, mv, .int .i64 k, pv] w fun e w' => ∃ v', e = .returned (.tuple #[v', .bool (updR d q m k p).2]) ∧ Mat w' w.heap.size w'.heap.size v' (updR d q m k p).1 ∧ Below w.heap.size w w' := by
  cases hu : updOk d q m k p with
  | true =>
    obtain ⟨D, Q, K, rfl, rfl, rfl, hf, e⟩ := updOk_parts hu
    rw [e]
    exact sUpdatePiece_good D Q K _ mv pv m p w hm hp hf
  | false =>
    have e : updR d q m k p = ([], false) := by simp [updR, hu]
    rw [e]
    have RM := hide hm
    have RP := hide hp
    obtain ⟨ma, mcap, rfl, _⟩ := hm
    obtain ⟨pa, pcap, rfl, _⟩ := hp
    clear e
    cases hc0 : codeOk d q with
    | false =>
      have C := hide hc0
      clear hc0 hu
      go_enter Tryd.func53, Tryd.ntmps53
      go_wp2_with fail
      refine (l3Size_calls _ _ _).mono ?_
      rw [C.out]
      rintro e w' ⟨rfl, rfl⟩
      go_wp2
      go_ret2
      exact ⟨_, rfl, Mat.nil _ _ _, Below.refl _ _⟩
    | true =>
      have C := hide hc0
      obtain ⟨f1, f2, f3, f4⟩ := codeOk_facts hc0
      obtain ⟨t, ht⟩ : ∃ t, t = (piecesOk m && decide ((m.length : Int) = d + q)) := ⟨_, rfl⟩
      have hcp : chkOk d q m = t := by rw [chkOk, hc0, ht, Bool.true_and, Bool.and_comm]
      have T := hide ht
      cases t with
      | false =>
        clear hc0 hu ht hcp
        go_enter Tryd.func53, Tryd.ntmps53
        go_wp2_with fail
        refine (l3Size_calls _ _ _).mono ?_
        rw [C.out]
        rintro e w' ⟨rfl, rfl⟩
        go_wp2_with fail
        refine (l3Pieces_calls _ m _ _ RM.out).mono ?_
        rw [← T.out]
        rintro e w' ⟨rfl, rfl⟩
        go_wp2
        go_ret2
        exact ⟨_, rfl, Mat.nil _ _ _, Below.refl _ _⟩
      | true =>
        obtain ⟨c1, c2, c3⟩ := chkOk_facts hcp
        by_cases hk0 : k < 0
        · clear hc0 hu ht hcp c2
          go_enter Tryd.func53, Tryd.ntmps53
          go_wp2_with fail
          refine (l3Size_calls _ _ _).mono ?_
          rw [C.out]
          rintro e w' ⟨rfl, rfl⟩
          go_wp2_with fail
          refine (l3Pieces_calls _ m _ _ RM.out).mono ?_
          rw [← T.out]
          rintro e w' ⟨rfl, rfl⟩
          go_wp2
          go_ret2
          exact ⟨_, rfl, Mat.nil _ _ _, Below.refl _ _⟩
        · by_cases hkd : d ≤ k
          · clear hc0 hu ht hcp c2
            go_enter Tryd.func53, Tryd.ntmps53
            go_wp2_with fail
            refine (l3Size_calls _ _ _).mono ?_
            rw [C.out]
            rintro e w' ⟨rfl, rfl⟩
            go_wp2_with fail
            refine (l3Pieces_calls _ m _ _ RM.out).mono ?_
            rw [← T.out]
            rintro e w' ⟨rfl, rfl⟩
            go_wp2
            go_ret2
            exact ⟨_, rfl, Mat.nil _ _ _, Below.refl _ _⟩
          · have hm0 : (0 : Int) < (m.length : Int) := by omega
            obtain ⟨mb, moff, mu, rfl, hmc, hmu⟩ := RM.out.row 0 (by omega)
            rw [Nat.add_zero] at hmc
            obtain ⟨l, hl⟩ : ∃ l, l = (m.getD 0 []).length := ⟨_, rfl⟩
            obtain ⟨ka, kcap, hkv, _⟩ := hmu
            rw [← hl] at hkv
            subst hkv
            by_cases hpl : p.length = l
            · have t1 : ((p.length : Int) != (l : Int)) = false := by simp; omega
              have hpe : p.all Gf.elOk = false := by
                cases hpe : p.all Gf.elOk with
                | false => rfl
                | true =>
                  rw [updOk, hcp, decide_eq_true (show 0 ≤ k ∧ k < d by omega), hpe, decide_eq_true (by rw [hpl, hl])] at hu
                  cases hu
              have PE := hide hpe
              clear hc0 hu ht hcp c2 c3 hl hpl hpe
              go_enter Tryd.func53, Tryd.ntmps53
              go_wp2_with fail
              refine (l3Size_calls _ _ _).mono ?_
              rw [C.out]
              rintro e w' ⟨rfl, rfl⟩
              go_wp2_with fail
              refine (l3Pieces_calls _ m _ _ RM.out).mono ?_
              rw [← T.out]
              rintro e w' ⟨rfl, rfl⟩
              go_wp2_with fail
              refine (Gf.l1All_calls _ p _ RP.out).mono ?_
              rw [PE.out]
              rintro e w' ⟨rfl, rfl⟩
              go_wp2
              go_ret2
              exact ⟨_, rfl, Mat.nil _ _ _, Below.refl _ _⟩
            · have t1 : ((p.length : Int) != (l : Int)) = true := by simp; omega
              clear hc0 hu ht hcp c2 c3 hl hpl
              go_enter Tryd.func53, Tryd.ntmps53
              go_wp2_with fail
              refine (l3Size_calls _ _ _).mono ?_
              rw [C.out]
              rintro e w' ⟨rfl, rfl⟩
              go_wp2_with fail
              refine (l3Pieces_calls _ m _ _ RM.out).mono ?_
              rw [← T.out]
              rintro e w' ⟨rfl, rfl⟩
              go_wp2
              go_ret2
              exact ⟨_, rfl, Mat.nil _ _ _, Below.refl _ _⟩
end Go.Proofs.YtogopakmebiomaaDoor

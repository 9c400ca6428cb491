/-
  CheckPieces: the program's function and its model's, at all arguments. The program's table of rests must hold its seven numbers where the program's own function is called.
-/
import Derived.Test.YthdbacihhmilbaaGreatDoorMendsB16
import Derived.Test.YthdbacihhmilbaaGreatDoorMendsB19
import Derived.Test.YthdbacihhmilbaaGreatDoorMendsB0
set_option maxRecDepth 100000
set_option maxHeartbeats 1600000
set_option linter.unusedSimpArgs false
namespace Go.Proofs.YthdbacihhmilbaaGreatDoor
open Go.RowKit
def chkOk (d q : Int) (m : List (List Int)) : Bool := codeOk d q && (decide ((m.length : Int) = d + q) && piecesOk m)
theorem chkOk_facts {d q : Int} {m : List (List Int)} (h : chkOk d q m = true) : codeOk d q = true ∧ (m.length : Int) = d + q ∧ piecesOk m = true := by
 simp only [chkOk, Bool.and_eq_true, decide_eq_true_eq] at h
 exact h
theorem areCodePieces_calls (d q : Int) (v : Value) (m : List (List Int)) (w : World) (h : RdM w v m) :
    Calls Tryz.prog 113 #[.int .i64 d, .int .i64 q, v] w fun e w' => e = .returned (.bool (chkOk d q m)) ∧ Below w.heap.size w w' := by
 have R := hide h
 obtain ⟨a, cap, rfl, _⟩ := h
 cases hc : codeOk d q with
 | false =>
  have e : chkOk d q m = false := by simp [chkOk, hc]
  rw [e]
  have C := hide hc
  clear hc e
  go_enter Tryz.func113, Tryz.ntmps113
  go_wp2_with fail
  refine (isCode_calls d q _).mono ?_
  rw [C.out]
  rintro e w' ⟨rfl, rfl⟩
  go_wp2
  go_ret
  exact ⟨rfl, Below.refl _ _⟩
 | true =>
  obtain ⟨f1, f2, f3, f4⟩ := codeOk_facts hc
  have C := hide hc
  by_cases hl : (m.length : Int) = d + q
  ·have t1 : ((m.length : Int) == d + q) = true := by simp [hl]
   obtain ⟨p, hp⟩ : ∃ p, p = piecesOk m := ⟨_, rfl⟩
   have e : chkOk d q m = p := by rw [chkOk, hc, decide_eq_true hl, hp]; rfl
   rw [e]
   have PO := hide hp
   clear hc e hl hp
   go_enter Tryz.func113, Tryz.ntmps113
   go_wp2_with fail
   refine (isCode_calls d q _).mono ?_
   rw [C.out]
   rintro e w' ⟨rfl, rfl⟩
   go_wp2_with fail
   refine (arePieces_calls _ m _ R.out).mono ?_
   rw [← PO.out]
   rintro e w1 ⟨rfl, hb⟩
   have B := hide hb
   clear hb
   go_wp2
   go_ret
   exact ⟨rfl, B.out⟩
  ·have t1 : ((m.length : Int) == d + q) = false := by simp [hl]
   have e : chkOk d q m = false := by rw [chkOk, decide_eq_false hl]; simp
   rw [e]
   clear hc e hl
   go_enter Tryz.func113, Tryz.ntmps113
   go_wp2_with fail
   refine (isCode_calls d q _).mono ?_
   rw [C.out]
   rintro e w' ⟨rfl, rfl⟩
   go_wp2
   go_ret
   exact ⟨rfl, Below.refl _ _⟩
theorem rdM_take {w : World} {a : Option Addr} {n cap : Nat} {m : List (List Int)} (h : RdM w (.slice a n cap) m) (i : Nat) (hi : i ≤ m.length) : RdM w (.slice a i cap) (m.take i) := by
 obtain ⟨a', cap', hv, h1, h2, h3⟩ := h
 simp only [Value.slice.injEq] at hv
 obtain ⟨rfl, rfl, rfl⟩ := hv
 have hl : (m.take i).length = i := by simp; omega
 refine ⟨a, cap, by rw [hl], by rw [hl]; omega, h2, ?_⟩
 rcases h3 with h3 | ⟨b, off, rfl, hlt, hc⟩
 ·subst h3; exact .inl (by simp)
 ·refine .inr ⟨b, off, rfl, hlt, fun j hj => ?_⟩
  rw [hl] at hj
  obtain ⟨u, hu, hr⟩ := hc j (by omega)
  refine ⟨u, hu, ?_⟩
  have e : (m.take i).getD j [] = m.getD j [] := by simp [qg, hj]
  rw [e]
  exact hr
theorem pieces_take {m : List (List Int)} (h : piecesOk m = true) (i : Nat) (h0 : 0 < i) (hi : i ≤ m.length) : piecesOk (m.take i) = true := by
 refine piecesOk_yes fun j hj => ?_
 have hl : (m.take i).length = i := by simp; omega
 rw [hl] at hj
 have e : (m.take i).getD j [] = m.getD j [] := by simp [qg, hj]
 have e0 : (m.take i).getD 0 [] = m.getD 0 [] := by simp [qg, h0]
 have := piecesOk_at h j (by omega)
 rw [pieceAt, e, e0, decide_eq_true ⟨this.1, this.2.1⟩, this.2.2]; rfl
def encT (d q : Nat) (m : List (List Int)) : List (List Int) := mulM (codeM d q) (m.take d)
def chkR (d q : Int) (m : List (List Int)) : Bool × Bool := if chkOk d q m = true then (decide (((unlTo m (encT d.toNat q.toNat m) m.length : Nat) : Int) = 0), true) else (false, false)
theorem encT_rows {D Q : Nat} {m : List (List Int)} (hp : piecesOk m = true) (h1 : 1 ≤ D) (hl : m.length = D + Q) : (encT D Q m).length = m.length ∧ ∀ i, i < m.length → (m.getD i []).length = ((encT D Q m).getD i []).length ∧ (m.getD i []).length ≤ 32 := by
 have h0 : 0 < D := h1
 have e0 : (m.take D).getD 0 [] = m.getD 0 [] := by simp [qg, h0]
 refine ⟨by rw [encT, mulM_length, codeM_length, hl], fun i hi => ?_⟩
 have := piecesOk_at hp i hi
 unfold encT
 rw [mulM_get _ _ _ (by rw [codeM_length]; omega), Gf.ci_length, mulRow_length, e0]
 exact ⟨this.1, this.2.1⟩
theorem checkPieces_calls (d q : Int) (v : Value) (m : List (List Int)) (w : World) (hT : Gf.Tab w) (h : RdM w v m) :
    Calls Tryz.prog 68 #[.int .i64 d, .int .i64 q, v] w fun e w' => e = .returned (.tuple #[.bool (chkR d q m).1, .bool (chkR d q m).2]) ∧ Below w.heap.size w w' := by
 have R := hide h
 have T := hide hT
 obtain ⟨a, cap, rfl, hcap, _⟩ := h
 clear hT
 cases hc : chkOk d q m with
 | false =>
  have e : chkR d q m = (false, false) := by simp [chkR, hc]
  rw [e]
  have C := hide hc
  clear hc e
  go_enter Tryz.func68, Tryz.ntmps68
  go_wp2_with fail
  refine (areCodePieces_calls d q _ m _ R.out).mono ?_
  rw [C.out]
  rintro e w1 ⟨rfl, hb⟩
  have B := hide hb
  clear hb
  go_wp2
  go_ret2
  exact ⟨rfl, B.out⟩
 | true =>
  obtain ⟨c1, c2, c3⟩ := chkOk_facts hc
  obtain ⟨f1, f2, f3, f4⟩ := codeOk_facts c1
  have C := hide hc
  obtain ⟨D, rfl⟩ := Int.eq_ofNat_of_zero_le (show 0 ≤ d by omega)
  obtain ⟨Q, rfl⟩ := Int.eq_ofNat_of_zero_le (show 0 ≤ q by omega)
  have hl : m.length = D + Q := by omega
  obtain ⟨z, hz⟩ : ∃ z, z = unlTo m (encT D Q m) m.length := ⟨_, rfl⟩
  have e : chkR (D : Int) (Q : Int) m = (decide (((z : Nat) : Int) = 0), true) := by simp only [chkR, if_pos hc, Int.toNat_natCast, hz]
  rw [e]
  have er := encT_rows c3 (by omega) hl
  have ER := hide er
  have PT := hide (pieces_take c3 D (by omega) (by omega))
  have TL : Hid ((m.take D).length = D) := by show (m.take D).length = D; simp; omega
  have HZ := hide hz
  have HL := hide hl
  have i0 : (0 : Int) ≤ (D : Int) := by omega
  have i1 : (D : Int) ≤ (cap : Int) := by omega
  clear hc c1 c2 c3 e er hz hl
  go_enter Tryz.func68, Tryz.ntmps68
  go_wp2_with fail
  refine (areCodePieces_calls _ _ _ m _ R.out).mono ?_
  rw [C.out]
  rintro e w1 ⟨rfl, hb⟩
  have B := hide hb
  clear hb
  have R1 := hide (R.out.below B.out)
  have RT : Hid (RdM w1 (.slice a D cap) (m.take D)) := rdM_take R1.out D (by have := HL.out; omega)
  have EN : Hid (Calls Tryz.prog 110 #[.slice a D cap, .int .i64 (Q : Nat)] w1 fun e w' => ∃ v', e = .returned v' ∧ Mat w' w1.heap.size w'.heap.size v' (encT D Q m) ∧ Below w1.heap.size w1 w') := by
   have := encode_calls _ (m.take D) Q w1 (Gf.Tab.below T.out B.out) RT.out PT.out (by rw [TL.out]; omega) (by rw [TL.out]; omega) (by omega) (by omega)
   rw [TL.out] at this
   exact this
  go_wp2_with fail
  refine EN.out.mono ?_
  rintro e w2 ⟨v2, rfl, hm2, hb2⟩
  have M2 := hide hm2.rd
  have B2 := hide (B.out.trans (hb2.mono B.out.size))
  have R2 := hide (R1.out.below hb2)
  clear hm2 hb2
  go_wp2_with fail
  refine (countUnlike_calls _ _ m (encT D Q m) m.length _ R2.out M2.out rfl ER.out.1 (by rw [HL.out]; omega) ER.out.2).mono ?_
  rw [← HZ.out]
  rintro e w3 ⟨rfl, hb3⟩
  have B3 := hide (B2.out.trans (hb3.mono B2.out.size))
  clear hb3
  go_wp2
  go_ret2
  refine ⟨?_, B3.out⟩
  have eb : (((z : Nat) : Int) == 0) = decide (z = 0) := by rw [Bool.eq_iff_iff]; simp only [beq_iff_eq, decide_eq_true_eq]; omega
  simp [eb]
theorem sCheckPieces_calls (d q : Int) (v : Value) (m : List (List Int)) (w : World) (h : RdM w v m) :
    Calls Tryz.prog 73 #[.int .i64 d, .int .i64 q, v] w fun e w' => e = .returned (.tuple #[.bool (chkR d q m).1, .bool (chkR d q m).2]) ∧ Below w.heap.size w w' := by
 have R := hide h
 obtain ⟨a, cap, rfl, hcap, _⟩ := h
 cases hc0 : codeOk d q with
 | false =>
  have e : chkR d q m = (false, false) := by simp [chkR, chkOk, hc0]
  rw [e]
  have C := hide hc0
  clear hc0 e
  go_enter Tryz.func73, Tryz.ntmps73
  go_wp2_with fail
  refine (l3Size_calls d q _).mono ?_
  rw [C.out]
  rintro e w' ⟨rfl, rfl⟩
  go_wp2
  go_ret2
  exact ⟨rfl, Below.refl _ _⟩
 | true =>
  obtain ⟨f1, f2, f3, f4⟩ := codeOk_facts hc0
  have C := hide hc0
  obtain ⟨p, hp⟩ : ∃ p, p = (piecesOk m && decide ((m.length : Int) = d + q)) := ⟨_, rfl⟩
  have hcp : chkOk d q m = p := by rw [chkOk, hc0, hp, Bool.true_and, Bool.and_comm]
  have PO := hide hp
  cases p with
  | false =>
   have e : chkR d q m = (false, false) := by simp [chkR, hcp]
   rw [e]
   clear hc0 e hp hcp
   go_enter Tryz.func73, Tryz.ntmps73
   go_wp2_with fail
   refine (l3Size_calls d q _).mono ?_
   rw [C.out]
   rintro e w' ⟨rfl, rfl⟩
   go_wp2_with fail
   refine (l3Pieces_calls _ m _ _ R.out).mono ?_
   rw [← PO.out]
   rintro e w1 ⟨rfl, rfl⟩
   go_wp2
   go_ret2
   exact ⟨rfl, Below.refl _ _⟩
  | true =>
   obtain ⟨c1, c2, c3⟩ := chkOk_facts hcp
   obtain ⟨D, rfl⟩ := Int.eq_ofNat_of_zero_le (show 0 ≤ d by omega)
   obtain ⟨Q, rfl⟩ := Int.eq_ofNat_of_zero_le (show 0 ≤ q by omega)
   have hl : m.length = D + Q := by omega
   obtain ⟨z, hz⟩ : ∃ z, z = unlTo m (encT D Q m) m.length := ⟨_, rfl⟩
   have e : chkR (D : Int) (Q : Int) m = (decide (((z : Nat) : Int) = 0), true) := by simp only [chkR, if_pos hcp, Int.toNat_natCast, hz]
   rw [e]
   rw [unlTo_comm] at hz
   have er := encT_rows c3 (by omega) hl
   have ER := hide er
   have PT := hide (pieces_take c3 D (by omega) (by omega))
   have TL : Hid ((m.take D).length = D) := by show (m.take D).length = D; simp; omega
   have HZ := hide hz
   have HL := hide hl
   have i0 : (0 : Int) ≤ (D : Int) := by omega
   have i1 : (D : Int) ≤ (cap : Int) := by omega
   have RT : Hid (RdM w (.slice a D cap) (m.take D)) := rdM_take R.out D (by omega)
   have EN : Hid (Calls Tryz.prog 80 #[.slice a D cap, .int .i64 (Q : Nat)] w fun e w' => ∃ v', e = .returned v' ∧ Mat w' w.heap.size w'.heap.size v' (encT D Q m) ∧ Below w.heap.size w w') := by
    have := l3Encode_calls _ (m.take D) Q w RT.out PT.out (by rw [TL.out]; omega) (by rw [TL.out]; omega) (by omega) (by omega)
    rw [TL.out] at this
    exact this
   clear hc0 c1 c2 c3 e er hz hl hp hcp
   go_enter Tryz.func73, Tryz.ntmps73
   go_wp2_with fail
   refine (l3Size_calls _ _ _).mono ?_
   rw [C.out]
   rintro e w' ⟨rfl, rfl⟩
   go_wp2_with fail
   refine (l3Pieces_calls _ m _ _ R.out).mono ?_
   rw [← PO.out]
   rintro e w1 ⟨rfl, rfl⟩
   go_wp2_with fail
   refine EN.out.mono ?_
   rintro e w2 ⟨v2, rfl, hm2, hb2⟩
   have M2 := hide hm2.rd
   have B2 := hide hb2
   have R2 := hide (R.out.below hb2)
   clear hm2 hb2
   go_wp2_with fail
   refine (l3Unlike_calls _ _ (encT D Q m) m m.length _ M2.out R2.out ER.out.1 rfl (by rw [HL.out]; omega)).mono ?_
   rw [← HZ.out]
   rintro e w3 ⟨rfl, hb3⟩
   have B3 := hide (B2.out.trans (hb3.mono B2.out.size))
   clear hb3
   go_wp2
   go_ret2
   refine ⟨?_, B3.out⟩
   have eb : (((z : Nat) : Int) == 0) = decide (z = 0) := by rw [Bool.eq_iff_iff]; simp only [beq_iff_eq, decide_eq_true_eq]; omega
   simp [eb]
end Go.Proofs.YthdbacihhmilbaaGreatDoor

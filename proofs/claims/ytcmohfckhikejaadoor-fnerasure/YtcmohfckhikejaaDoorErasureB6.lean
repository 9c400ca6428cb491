/-
  CheckPieces: the program's function and its model's, at all arguments. The program's table of rests must hold its seven numbers where the program's own function is called. What is decoded of pieces, and that it is what was coded: plain mathematics over the program's and its model's rows. No call is walked here. Rows copied, from a place on or whole: the program's functions and its model's, call by call. Each contract says what it asks. UpdatePiece: the program's function, at all arguments. The program's table of rests must hold its seven numbers. UpdatePiece: the program's function and its model's, at all arguments. The program's table of rests must hold its seven numbers where the program's own function is called. UpdatePiece as the two public functions answer it, at all arguments. The program's table of rests must hold its seven numbers where the program's own function is called. DistanceOf: the program's function and its model's, at all rows. No condition. What the law of pieces asks of the mathematics: a piece put anew leaves a code a code, and what was none stays none; a piece that is changed changes every parity piece.
-/
import Derived.Test.YtcmohfckhikejaaDoorErasureB4
import Derived.Test.YtcmohfckhikejaaDoorErasureB5
import Derived.Test.YtcmohfckhikejaaDoorErasureB1
import Derived.Test.YtcmohfckhikejaaDoorErasureB2
namespace Go.Proofs.YtcmohfckhikejaaDoor
open Go.RowKit

def chkOk (d q : Int) (m : List (List Int)) : Bool := codeOk d q && (decide ((m.length : Int) = d + q) && piecesOk m)
theorem chkOk_facts {d q : Int} {m : List (List Int)} (h : chkOk d q m = true) : codeOk d q = true ∧ (m.length : Int) = d + q ∧ piecesOk m = true := by
  simp only [chkOk, Bool.and_eq_true, decide_eq_true_eq] at h
  exact h

set_option maxRecDepth 100000 in
set_option maxHeartbeats 800000 in
theorem areCodePieces_calls (d q : Int) (v : Value) (m : List (List Int)) (w : World) (h : RdM w v m) :
    Calls Tryd.prog 26 #[.int .i64 d, .int .i64 q, v] w fun e w' => e = .returned (.bool (chkOk d q m)) ∧ Below w.heap.size w w' := by
  have R := hide h
  obtain ⟨a, cap, rfl, _⟩ := h
  cases hc : codeOk d q with
  | false =>
    have e : chkOk d q m = false := by simp [chkOk, hc]
    rw [e]
    have C := hide hc
    clear hc e
    go_enter Tryd.func26, Tryd.ntmps26
    go_wp2_with fail
    refine (isCode_calls d q _).mono ?_
    rw [C.out]
    rintro e w' ⟨rfl, rfl⟩
    go_wp2
    go_ret
    exact ⟨rfl, Below.refl _ _⟩
  | true =>
    obtain ⟨f1, f2, f3, f4⟩ := codeOk_facts hc
    have C := hide hc
    by_cases hl : (m.length : Int) = d + q
    · have t1 : ((m.length : Int) == d + q) = true := by simp [hl]
      obtain ⟨p, hp⟩ : ∃ p, p = piecesOk m := ⟨_, rfl⟩
      have e : chkOk d q m = p := by rw [chkOk, hc, decide_eq_true hl, hp]; rfl
      rw [e]
      have PO := hide hp
      clear hc e hl hp
      go_enter Tryd.func26, Tryd.ntmps26
      go_wp2_with fail
      refine (isCode_calls d q _).mono ?_
      rw [C.out]
      rintro e w' ⟨rfl, rfl⟩
      go_wp2_with fail
      refine (arePieces_calls _ m _ R.out).mono ?_
      rw [← PO.out]
      rintro e w1 ⟨rfl, hb⟩
      have B := hide hb
      clear hb
      go_wp2
      go_ret
      exact ⟨rfl, B.out⟩
    · have t1 : ((m.length : Int) == d + q) = false := by simp [hl]
      have e : chkOk d q m = false := by rw [chkOk, decide_eq_false hl]; simp
      rw [e]
      clear hc e hl
      go_enter Tryd.func26, Tryd.ntmps26
      go_wp2_with fail
      refine (isCode_calls d q _).mono ?_
      rw [C.out]
      rintro e w' ⟨rfl, rfl⟩
      go_wp2
      go_ret
      exact ⟨rfl, Below.refl _ _⟩
theorem rdM_take {w : World} {a : Option Addr} {n cap : Nat} {m : List (List Int)} (h : RdM w (.slice a n cap) m) (i : Nat) (hi : i ≤ m.length) : RdM w (.slice a i cap) (m.take i) := by
  obtain ⟨a', cap', hv, h1, h2, h3⟩ := h
  simp only [Value.slice.injEq] at hv
  obtain ⟨rfl, rfl, rfl⟩ := hv
  have hl : (m.take i).length = i := by simp; omega
  refine ⟨a, cap, by rw [hl], by rw [hl]; omega, h2, ?_⟩
  rcases h3 with h3 | ⟨b, off, rfl, hlt, hc⟩
  · subst h3; exact .inl (by simp)
  · refine .inr ⟨b, off, rfl, hlt, fun j hj => ?_⟩
    rw [hl] at hj
    obtain ⟨u, hu, hr⟩ := hc j (by omega)
    refine ⟨u, hu, ?_⟩
    have e : (m.take i).getD j [] = m.getD j [] := by simp [List.getD_eq_getElem?_getD, hj]
    rw [e]
    exact hr
theorem pieces_take {m : List (List Int)} (h : piecesOk m = true) (i : Nat) (h0 : 0 < i) (hi : i ≤ m.length) : piecesOk (m.take i) = true := by
  refine piecesOk_yes fun j hj => ?_
  have hl : (m.take i).length = i := by simp; omega
  rw [hl] at hj
  have e : (m.take i).getD j [] = m.getD j [] := by simp [List.getD_eq_getElem?_getD, hj]
  have e0 : (m.take i).getD 0 [] = m.getD 0 [] := by simp [List.getD_eq_getElem?_getD, h0]
  have := piecesOk_at h j (by omega)
  rw [pieceAt, e, e0, decide_eq_true ⟨this.1, this.2.1⟩, this.2.2]; rfl
/-- All pieces as a code has them whose data are the first ones. -/
def encT (d q : Nat) (m : List (List Int)) : List (List Int) := mulM (codeM d q) (m.take d)
def chkR (d q : Int) (m : List (List Int)) : Bool × Bool := if chkOk d q m = true then (decide (((unlTo m (encT d.toNat q.toNat m) m.length : Nat) : Int) = 0), true) else (false, false)
theorem encT_rows {D Q : Nat} {m : List (List Int)} (hp : piecesOk m = true) (h1 : 1 ≤ D) (hl : m.length = D + Q) : (encT D Q m).length = m.length ∧ ∀ i, i < m.length → (m.getD i []).length = ((encT D Q m).getD i []).length ∧ (m.getD i []).length ≤ 32 := by
  have h0 : 0 < D := h1
  have e0 : (m.take D).getD 0 [] = m.getD 0 [] := by simp [List.getD_eq_getElem?_getD, h0]
  refine ⟨by rw [encT, mulM_length, codeM_length, hl], fun i hi => ?_⟩
  have := piecesOk_at hp i hi
  unfold encT
  rw [mulM_get _ _ _ (by rw [codeM_length]; omega), Gf.ci_length, mulRow_length, e0]
  exact ⟨this.1, this.2.1⟩

set_option maxRecDepth 100000 in
set_option maxHeartbeats 1600000 in
theorem checkPieces_calls (d q : Int) (v : Value) (m : List (List Int)) (w : World) (hT : Gf.Tab w) (h : RdM w v m) :
    Calls Tryd.prog 8 #[.int .i64 d, .int .i64 q, v] w fun e w' => e = .returned (.tuple #[.bool (chkR d q m).1, .bool (chkR d q m).2]) ∧ Below w.heap.size w w' := by
  have R := hide h
  have T := hide hT
  obtain ⟨a, cap, rfl, hcap, _⟩ := h
  clear hT
  cases hc : chkOk d q m with
  | false =>
    have e : chkR d q m = (false, false) := by simp [chkR, hc]
    rw [e]
    have C := hide hc
    clear hc e
    go_enter Tryd.func8, Tryd.ntmps8
    go_wp2_with fail
    refine (areCodePieces_calls d q _ m _ R.out).mono ?_
    rw [C.out]
    rintro e w1 ⟨rfl, hb⟩
    have B := hide hb
    clear hb
    go_wp2
    go_ret2
    exact ⟨rfl, B.out⟩
  | true =>
    obtain ⟨c1, c2, c3⟩ := chkOk_facts hc
    obtain ⟨f1, f2, f3, f4⟩ := codeOk_facts c1
    have C := hide hc
    obtain ⟨D, rfl⟩ := Int.eq_ofNat_of_zero_le (show 0 ≤ d by omega)
    obtain ⟨Q, rfl⟩ := Int.eq_ofNat_of_zero_le (show 0 ≤ q by omega)
    have hl : m.length = D + Q := by omega
    obtain ⟨z, hz⟩ : ∃ z, z = unlTo m (encT D Q m) m.length := ⟨_, rfl⟩
    have e : chkR (D : Int) (Q : Int) m = (decide (((z : Nat) : Int) = 0), true) := by simp only [chkR, if_pos hc, Int.toNat_natCast, hz]
    rw [e]
    have er := encT_rows c3 (by omega) hl
    have ER := hide er
    have PT := hide (pieces_take c3 D (by omega) (by omega))
    have TL : Hid ((m.take D).length = D) := by show (m.take D).length = D; simp; omega
    have HZ := hide hz
    have HL := hide hl
    have i0 : (0 : Int) ≤ (D : Int) := by omega
    have i1 : (D : Int) ≤ (cap : Int) := by omega
    clear hc c1 c2 c3 e er hz hl
    go_enter Tryd.func8, Tryd.ntmps8
    go_wp2_with fail
    refine (areCodePieces_calls _ _ _ m _ R.out).mono ?_
    rw [C.out]
    rintro e w1 ⟨rfl, hb⟩
    have B := hide hb
    clear hb
    have R1 := hide (R.out.below B.out)
    have RT : Hid (RdM w1 (.slice a D cap) (m.take D)) := rdM_take R1.out D (by have := HL.out; omega)
    have EN : Hid (Calls Tryd.prog 21 #[.slice a D cap, .int .i64 (Q : Nat)] w1 fun e w' => ∃ v', e = .returned v' ∧ Mat w' w1.heap.size w'.heap.size v' (encT D Q m) ∧ Below w1.heap.size w1 w') := by
      have := encode_calls _ (m.take D) Q w1 (Gf.Tab.below T.out B.out) RT.out PT.out (by rw [TL.out]; omega) (by rw [TL.out]; omega) (by omega) (by omega)
      rw [TL.out] at this
      exact this
    go_wp2_with fail
    refine EN.out.mono ?_
    rintro e w2 ⟨v2, rfl, hm2, hb2⟩
    have M2 := hide hm2.rd
    have B2 := hide (B.out.trans (hb2.mono B.out.size))
    have R2 := hide (R1.out.below hb2)
    clear hm2 hb2
    go_wp2_with fail
    refine (countUnlike_calls _ _ m (encT D Q m) m.length _ R2.out M2.out rfl ER.out.1 (by rw [HL.out]; omega) ER.out.2).mono ?_
    rw [← HZ.out]
    rintro e w3 ⟨rfl, hb3⟩
    have B3 := hide (B2.out.trans (hb3.mono B2.out.size))
    clear hb3
    go_wp2
    go_ret2
    refine ⟨?_, B3.out⟩
    have eb : (((z : Nat) : Int) == 0) = decide (z = 0) := by rw [Bool.eq_iff_iff]; simp only [beq_iff_eq, decide_eq_true_eq]; omega
    simp [eb]

end Go.Proofs.YtcmohfckhikejaaDoor

namespace Go.Proofs.YtcmohfckhikejaaDoor
open Go.RowKit
open Gf (ci nat ciM Sh AllLt invTo solN selM codeN those rowL identN elOk)

theorem those_one (p : Nat → Bool) (x : Int) : ∀ n : Nat, (those (fun k => decide ((k : Int) = x) || p k) n).length ≤ (those p n).length + (if x < (n : Int) then 1 else 0) := by
  intro n
  induction n with
  | zero => simp [those]
  | succ n ih =>
    rw [Gf.those_succ, Gf.those_succ, List.length_append, List.length_append]
    by_cases e : (n : Int) = x
    · subst e
      rw [if_neg (show ¬ (n : Int) < (n : Int) by omega)] at ih
      have t : (decide ((n : Int) = (n : Int)) || p n) = true := by simp
      rw [t, show (if (n : Int) < ((n + 1 : Nat) : Int) then 1 else 0) = 1 from if_pos (by omega)]
      simp only [if_true, List.length_singleton]
      omega
    · have e2 : (decide ((n : Int) = x) || p n) = p n := by rw [decide_eq_false e, Bool.false_or]
      rw [e2]
      by_cases h : x < (n : Int)
      · rw [if_pos h] at ih
        rw [show (if x < ((n + 1 : Nat) : Int) then 1 else 0) = 1 from if_pos (by omega)]
        omega
      · rw [if_neg h] at ih
        omega
theorem those_in (xs : List Int) (n : Nat) : (those (fun k => !kp xs k) n).length ≤ xs.length := by
  induction xs with
  | nil =>
    have e : (fun k : Nat => !kp [] k) = fun _ => false := by funext k; simp [kp]
    rw [e]
    simp [those]
  | cons x xs ih =>
    have e : (fun k : Nat => !kp (x :: xs) k) = fun k : Nat => decide ((k : Int) = x) || !kp xs k := by
      funext k
      simp only [kp, List.mem_cons, not_or]
      by_cases h1 : (k : Int) = x <;> by_cases h2 : (k : Int) ∈ xs <;> simp [h1, h2]
    rw [e, List.length_cons]
    have := those_one (fun k => !kp xs k) x n
    split at this <;> omega
theorem kept_length (xs : List Int) (D Q : Nat) (h : xs.length ≤ Q) : D ≤ (those (kp xs) (D + Q)).length := by
  have h1 := Gf.those_not (kp xs) (D + Q)
  have h2 := those_in xs (D + Q)
  omega
/-- The first places, as many as data, that are not lost. -/
def firstF (xs : List Int) (D Q : Nat) : List Nat := (those (kp xs) (D + Q)).take D
theorem firstF_length (xs : List Int) (D Q : Nat) (h : xs.length ≤ Q) : (firstF xs D Q).length = D := by
  unfold firstF
  rw [List.length_take]
  have := kept_length xs D Q h
  omega
theorem firstF_mem {xs : List Int} {D Q k : Nat} (h : k ∈ firstF xs D Q) : k < D + Q ∧ (k : Int) ∉ xs := by
  obtain ⟨h1, h2⟩ := Gf.those_mem.1 (List.mem_of_mem_take h)
  exact ⟨h1, by simpa [kp] using h2⟩
theorem first_inv {xs : List Int} {D Q : Nat} (hD : 0 < D) (hDQ : D + Q ≤ 16) (h : xs.length ≤ Q) : Sh (selM (codeN D Q) (firstF xs D Q)) D D ∧ (solN (selM (codeN D Q) (firstF xs D Q)) (identN D)).2 = true := by
  have hl := firstF_length xs D Q h
  unfold firstF at hl ⊢
  rw [Gf.those_take] at hl ⊢
  exact Gf.code_inv hD hDQ hl
theorem sh_pieces {m : List (List Int)} (h : piecesOk m = true) : Sh (m.map nat) m.length (m.getD 0 []).length := by
  refine ⟨by rw [List.length_map], fun i hi => ?_, fun i hi => ?_⟩
  · rw [natM_get, Gf.nat_length]; exact (piecesOk_at h i hi).1
  · rw [natM_get]; exact Gf.nat_allLt (piecesOk_at h i hi).2.2
theorem ci_nat {l : List Int} (h : l.all elOk = true) : ci (nat l) = l := by
  unfold ci nat
  rw [List.map_map]
  conv => rhs; rw [← List.map_id l]
  refine List.map_congr_left fun x hx => ?_
  have := Gf.elOk_iff.1 (List.all_eq_true.1 h x hx)
  show ((x.toNat : Nat) : Int) = x
  omega
theorem nat_ciE (l : List Nat) : nat (ci l) = l := by
  unfold nat ci
  rw [List.map_map]
  conv => rhs; rw [← List.map_id l]
  exact List.map_congr_left fun x _ => by simp
theorem ciM_natM {m : List (List Int)} (h : ∀ i, i < m.length → (m.getD i []).all elOk = true) : ciM (m.map nat) = m := by
  unfold ciM
  rw [List.map_map]
  conv => rhs; rw [← List.map_id m]
  refine List.map_congr_left fun r hr => ?_
  obtain ⟨i, hi, rfl⟩ := List.getElem_of_mem hr
  have := h i hi
  rw [List.getD_eq_getElem?_getD, List.getElem?_eq_getElem hi] at this
  exact ci_nat this
theorem natM_ciM (M : List (List Nat)) : (ciM M).map nat = M := by
  unfold ciM
  rw [List.map_map]
  conv => rhs; rw [← List.map_id M]
  exact List.map_congr_left fun r _ => nat_ciE r
theorem elOk_lt {l : List Nat} (h : AllLt l) : (ci l).all elOk = true := by
  rw [List.all_eq_true]
  intro x hx
  obtain ⟨k, hk, rfl⟩ := List.mem_map.1 hx
  obtain ⟨i, hi, rfl⟩ := List.getElem_of_mem hk
  have := h i
  rw [List.getD_eq_getElem?_getD, List.getElem?_eq_getElem hi, Option.getD_some] at this
  exact Gf.elOk_iff.2 (by omega)
theorem pieces_sh {X : List (List Nat)} {n l : Nat} (h : Sh X n l) (hl : l ≤ 32) : piecesOk (ciM X) = true := by
  refine piecesOk_yes fun i hi => ?_
  rw [Gf.ciM_length, h.len] at hi
  have h0 : 0 < n := by omega
  unfold pieceAt
  rw [Gf.ciM_get, Gf.ciM_get, Gf.ci_length, Gf.ci_length, h.row i hi, h.row 0 h0, decide_eq_true ⟨rfl, hl⟩, elOk_lt (h.lt i hi)]
  rfl
theorem sel_ciM (M : List (List Nat)) (f : List Nat) : selM (ciM M) f = ciM (selM M f) := by
  unfold selM ciM
  rw [List.map_map]
  refine List.map_congr_left fun k _ => ?_
  show (M.map ci).getD k [] = ci (M.getD k [])
  simp only [List.getD_eq_getElem?_getD, List.getElem?_map]
  cases M[k]? <;> rfl
theorem code_ciM (D Q : Nat) : ciM (codeN D Q) = codeM D Q := ciM_natM fun i hi => (codeM_rows D Q i hi).2
theorem mul_row {A R : List (List Nat)} {n l k : Nat} (ha : Sh A k n) (hr : Sh R n l) (hn : 0 < n) : mulM (ciM A) (ciM R) = ciM (A.map (rowL R l n)) := by
  unfold mulM
  rw [natM_ciM, Gf.ciM_get, Gf.ci_length, hr.row 0 hn]
  unfold ciM
  rw [List.map_map, List.map_map]
  refine List.map_congr_left fun r hx => ?_
  obtain ⟨i, hi, rfl⟩ := List.getElem_of_mem hx
  have hl : A[i].length = n := by
    have := ha.row i (by rw [← ha.len]; exact hi)
    rw [List.getD_eq_getElem?_getD, List.getElem?_eq_getElem hi] at this
    exact this
  show ci (mulRow R l (nat (ci A[i])) (ci A[i]).length) = ci (rowL R l n A[i])
  rw [nat_ciE, Gf.ci_length, hl]
  rfl
theorem sh_mul {A R : List (List Nat)} {n l k : Nat} (ha : Sh A k n) (_ : Sh R n l) : Sh (A.map (rowL R l n)) k l := by
  refine ⟨by rw [List.length_map, ha.len], fun i hi => ?_, fun i hi => ?_⟩
  · rw [Gf.map_get _ _ _ _ (by rw [ha.len]; exact hi), Gf.rowL_length]
  · rw [Gf.map_get _ _ _ _ (by rw [ha.len]; exact hi)]
    exact mulRow_lt (ha.lt i hi) _

/-- What is decoded: the data, as plain numbers. -/
def decX (D Q : Nat) (m : List (List Int)) (xs : List Int) : List (List Nat) := (solN (selM (codeN D Q) (firstF xs D Q)) (selM (m.map nat) (firstF xs D Q))).1
/-- What is decoded: all pieces. -/
def decM (D Q : Nat) (m : List (List Int)) (xs : List Int) : List (List Int) := mulM (codeM D Q) (ciM (decX D Q m xs))
def decOk (d q : Int) (m : List (List Int)) (xs : List Int) : Bool := ((canR d q xs).1 && (canR d q xs).2) && (decide ((m.length : Int) = d + q) && piecesOk m)
def decR (d q : Int) (m : List (List Int)) (xs : List Int) : List (List Int) × Bool := if decOk d q m xs = true then (decM d.toNat q.toNat m xs, true) else ([], false)
/-- What decoding rests on. -/
structure DecF (D Q l : Nat) (m : List (List Int)) (xs : List Int) : Prop where
  d1 : 1 ≤ D
  d6 : D ≤ 6
  q1 : 1 ≤ Q
  q4 : Q ≤ 4
  ris : rises xs ((D + Q : Nat) : Int) = true
  xl : xs.length ≤ Q
  ml : m.length = D + Q
  l0 : (m.getD 0 []).length = l
  l32 : l ≤ 32
  ok : piecesOk m = true
theorem dec_open {d q : Int} {m : List (List Int)} {xs : List Int} (h : decOk d q m xs = true) : ∃ D Q : Nat, d = D ∧ q = Q ∧ DecF D Q (m.getD 0 []).length m xs := by
  unfold decOk at h
  rw [Bool.and_eq_true, Bool.and_eq_true, Bool.and_eq_true, decide_eq_true_eq] at h
  obtain ⟨⟨h1, h2⟩, h3, h4⟩ := h
  have hc : canOk d q xs = true := by
    cases e : canOk d q xs with
    | true => rfl
    | false => simp [canR, e] at h2
  rw [canR, if_pos hc] at h1
  have hx : (xs.length : Int) ≤ q := of_decide_eq_true h1
  unfold canOk at hc
  rw [Bool.and_eq_true] at hc
  obtain ⟨c1, c2, c3, c4⟩ := codeOk_facts hc.1
  obtain ⟨D, rfl⟩ := Int.eq_ofNat_of_zero_le (show 0 ≤ d by omega)
  obtain ⟨Q, rfl⟩ := Int.eq_ofNat_of_zero_le (show 0 ≤ q by omega)
  have hm : m.length = D + Q := by omega
  exact ⟨D, Q, rfl, rfl, by omega, by omega, by omega, by omega, by rw [Int.natCast_add]; exact hc.2, by omega, hm, rfl, (piecesOk_at h4 0 (by omega)).2.1, h4⟩
theorem DecF.shA {D Q l : Nat} {m : List (List Int)} {xs : List Int} (h : DecF D Q l m xs) : Sh (selM (codeN D Q) (firstF xs D Q)) D D ∧ (solN (selM (codeN D Q) (firstF xs D Q)) (identN D)).2 = true :=
  first_inv (by have := h.d1; omega) (by have := h.d6; have := h.q4; omega) h.xl
theorem DecF.shR {D Q l : Nat} {m : List (List Int)} {xs : List Int} (h : DecF D Q l m xs) : Sh (selM (m.map nat) (firstF xs D Q)) D l := by
  have hs := sh_pieces h.ok
  rw [h.l0, h.ml] at hs
  have := Gf.sh_sel hs (f := firstF xs D Q) (fun k hk => (firstF_mem hk).1)
  rw [firstF_length xs D Q h.xl] at this
  exact this
theorem DecF.sol {D Q l : Nat} {m : List (List Int)} {xs : List Int} (h : DecF D Q l m xs) : solN (selM (codeN D Q) (firstF xs D Q)) (selM (m.map nat) (firstF xs D Q)) = (decX D Q m xs, true) ∧
    decX D Q m xs = ((solN (selM (codeN D Q) (firstF xs D Q)) (identN D)).1).map (rowL (selM (m.map nat) (firstF xs D Q)) l D) := by
  have e := Gf.solN_inv h.shA.1 h.shR h.shA.2
  unfold decX
  rw [e]
  exact ⟨rfl, rfl⟩
theorem sol_sh {A S : List (List Nat)} {n d : Nat} (ha : Sh A n n) (hs : Sh S n d) (hok : (solN A S).2 = true) : Sh (solN A S).1 n d := by
  unfold solN at hok ⊢
  rw [ha.len] at hok ⊢
  cases e : invTo A S n with
  | none => rw [e] at hok; cases hok
  | some q => exact (Gf.invTo_sh ha hs n (Nat.le_refl _) q e).2
theorem DecF.shX {D Q l : Nat} {m : List (List Int)} {xs : List Int} (h : DecF D Q l m xs) : Sh (decX D Q m xs) D l := by
  have := sol_sh h.shA.1 h.shR (by rw [h.sol.1])
  rw [h.sol.1] at this
  exact this
theorem DecF.okX {D Q l : Nat} {m : List (List Int)} {xs : List Int} (h : DecF D Q l m xs) : piecesOk (ciM (decX D Q m xs)) = true := pieces_sh h.shX h.l32

/-- Where the first pieces that are not lost are those of a code, all of it is decoded. -/
theorem dec_back {D Q l : Nat} {m c : List (List Int)} {xs : List Int} (h : DecF D Q l m xs) (hc : piecesOk c = true) (hcl : c.length = D) (hc0 : (c.getD 0 []).length = l) (hm : ∀ k, k < D + Q → (k : Int) ∉ xs → m.getD k [] = (mulM (codeM D Q) c).getD k []) : decX D Q m xs = c.map nat := by
  have hs := sh_pieces hc
  rw [hcl, hc0] at hs
  have e : selM (m.map nat) (firstF xs D Q) = (selM (codeN D Q) (firstF xs D Q)).map (rowL (c.map nat) l D) := by
    unfold selM
    rw [List.map_map]
    refine List.map_congr_left fun k hk => ?_
    obtain ⟨hk1, hk2⟩ := firstF_mem hk
    have he : mulM (codeM D Q) c = ciM ((codeN D Q).map (rowL (c.map nat) l D)) := by
      rw [← mul_row (Gf.sh_code D Q) hs (by have := h.d1; omega), code_ciM, ciM_natM fun i hi => (piecesOk_at hc i hi).2.2]
    show (m.map nat).getD k [] = rowL (c.map nat) l D ((codeN D Q).getD k [])
    rw [natM_get, hm k hk1 hk2, he, Gf.ciM_get, nat_ciE, Gf.map_get _ _ _ _ (by rw [(Gf.sh_code D Q).len]; exact hk1)]
  unfold decX
  rw [e, Gf.solN_back h.shA.1 hs h.shA.2]
theorem dec_code {D Q l : Nat} {m c : List (List Int)} {xs : List Int} (h : DecF D Q l m xs) (hc : piecesOk c = true) (hcl : c.length = D) (hc0 : (c.getD 0 []).length = l) (hm : ∀ k, k < D + Q → (k : Int) ∉ xs → m.getD k [] = (mulM (codeM D Q) c).getD k []) : decM D Q m xs = mulM (codeM D Q) c := by
  unfold decM
  rw [dec_back h hc hcl hc0 hm, ciM_natM fun i hi => (piecesOk_at hc i hi).2.2]
end Go.Proofs.YtcmohfckhikejaaDoor

namespace Go.Proofs.YtcmohfckhikejaaDoor
open Go.RowKit

set_option maxRecDepth 100000 in
set_option maxHeartbeats 800000 in
theorem copyList_calls (v : Value) (xs : List Int) (w : World) (h : Rd w v xs) (hn : xs.length ≤ 1048576) :
    Calls Tryd.prog 77 #[v] w fun e w' => ∃ v', e = .returned v' ∧ Own w' w.heap.size v' xs ∧ Below w.heap.size w w' := by
  have R := hide h
  obtain ⟨a, cap, rfl, h1, h2, h3⟩ := h
  clear h3 h2 h1
  go_enter Tryd.func77, Tryd.ntmps77
  go_wp2_with (at_make; refine wpList_make_ints rfl _ _ rfl w.heap.size _ _ xs.length rfl rfl (by omega) (by omega) (by omega) (Nat.le_refl _) ?_)
  intro w0 hown0 hg0
  have hb0 : Below w.heap.size w w0 := (Below.refl _ _).grown hg0 (Nat.le_refl _) (fun k h => by cases h)
  have O0 := hide hown0
  have B0 := hide hb0
  clear hown0 hg0 hb0
  go_wp2_with (refine wpList_copy_fresh rfl _ _ rfl w.heap.size w.heap.size xs.length (List.replicate xs.length 0) rfl O0.out _ rfl xs (R.out.below B0.out) (Nat.le_refl _) (Nat.le_refl _) (by unfold maxLen; omega) w.heap.size w B0.out (Nat.le_refl _) ?_)
  intro w1 ho hb _
  have O1 := hide ho
  have B1 := hide hb
  clear ho hb
  go_wp2
  go_ret
  exact ⟨_, rfl, by simpa using O1.out, B1.out⟩


theorem rd_cut {w : World} {a : Option Addr} {cap f : Nat} {xs : List Int} (h : Rd w (.slice a xs.length cap) xs) (hf : f ≤ xs.length) (hc : f < cap) :
    Rd w (.slice (Option.map (fun x : Addr => x.add f) a) (xs.length - f) (cap - f)) (xs.drop f) := by
  obtain ⟨a', cap', hv, h1, ⟨h2, h2'⟩, h3⟩ := h
  simp only [Value.slice.injEq] at hv
  obtain ⟨rfl, _, rfl⟩ := hv
  refine ⟨_, cap - f, by rw [List.length_drop], by rw [List.length_drop]; omega, ⟨by omega, fun h => ?_⟩, ?_⟩
  · cases a with
    | none => have := h2' rfl; omega
    | some x => simp at h
  · rcases h3 with h3 | ⟨b, off, rfl, hb, hcell⟩
    · left; rw [h3]; simp
    · right
      have hadd : (⟨b, off, none⟩ : Addr).add f = ⟨b, off + f, none⟩ := by unfold Addr.add; split <;> simp_all
      refine ⟨b, off + f, by simp [hadd], hb, fun i hi => ?_⟩
      rw [List.length_drop] at hi
      have := hcell (f + i) (by omega)
      rw [Nat.add_assoc, this]
      simp [List.getD_eq_getElem?_getD]
set_option maxRecDepth 100000 in
set_option maxHeartbeats 800000 in
theorem rowCut_calls (v : Value) (xs : List Int) (f g : Nat) (w : World) (h : Rd w v xs) (hg : w.cell? ⟨g, 0, none⟩ = some (.int .i64 f)) (hf : f ≤ xs.length) (hl : xs.length ≤ 1048576) :
    Calls Tryd.prog 76 #[v, .pointer (some ⟨g, 0, none⟩)] w fun e w' => ∃ v', e = .returned v' ∧ Own w' w.heap.size v' (xs.drop f) ∧ Below w.heap.size w w' := by
  have R := hide h
  obtain ⟨a, cap, rfl, h1, h2, h3⟩ := h
  clear h3
  have hf1 : (f : Int) ≤ (xs.length : Int) := by omega
  have hf0 : (0 : Int) ≤ (f : Int) := by omega
  by_cases hcf : cap = f
  · subst hcf
    have hR : Rd w (.slice a (xs.length - cap) 0) (xs.drop cap) := by
      have e : xs.drop cap = [] := List.drop_eq_nil_of_le h1
      rw [e, show xs.length - cap = 0 from by omega]
      exact ⟨a, 0, rfl, Nat.le_refl _, ⟨Nat.zero_le _, fun _ => rfl⟩, .inl rfl⟩
    have R2 := hide hR
    have R3 : Hid (Rd w (.slice a 0 0) (xs.drop cap)) := by
      have := hR
      rw [show xs.length - cap = 0 from by omega] at this
      exact this
    have HL := hide hl
    clear hR h2 hl
    go_enter Tryd.func76, Tryd.ntmps76
    go_wp2_with fail
    all_goals
      refine (copyList_calls _ (xs.drop cap) _ (by first | exact R2.out | exact R3.out) (by rw [List.length_drop]; have := HL.out; omega)).mono ?_
      rintro e w1 ⟨v1, rfl, ho, hb⟩
      have O := hide ho
      have B := hide hb
      clear ho hb
      go_wp2
      go_ret
      exact ⟨_, rfl, O.out, B.out⟩
  · have R2 := hide (rd_cut R.out hf (by omega))
    have HL := hide hl
    clear h2 hl
    go_enter Tryd.func76, Tryd.ntmps76
    go_wp2_with fail
    all_goals
      refine (copyList_calls _ (xs.drop f) _ (by first | exact R2.out | omega | (exfalso; omega)) (by rw [List.length_drop]; have := HL.out; omega)).mono ?_
      rintro e w1 ⟨v1, rfl, ho, hb⟩
      have O := hide ho
      have B := hide hb
      clear ho hb
      go_wp2
      go_ret
      exact ⟨_, rfl, O.out, B.out⟩

def dropM (m : List (List Int)) (f : Nat) : List (List Int) := m.map fun r => r.drop f
theorem dropM_length (m : List (List Int)) (f : Nat) : (dropM m f).length = m.length := by simp [dropM]
theorem dropM_get (m : List (List Int)) (f k : Nat) (h : k < m.length) : (dropM m f).getD k [] = (m.getD k []).drop f := by simp [dropM, List.getD_eq_getElem?_getD, h]

set_option maxRecDepth 100000 in
set_option maxHeartbeats 800000 in
theorem eachCut_calls (v : Value) (m : List (List Int)) (f g : Nat) (w : World) (h : RdM w v m) (hgc : w.cell? ⟨g, 0, none⟩ = some (.int .i64 f)) (hgl : g < w.heap.size) (hn : m.length ≤ 1048576)
    (hl : ∀ i, i < m.length → f ≤ (m.getD i []).length ∧ (m.getD i []).length ≤ 1048576) :
    Calls Tryd.prog 75 #[v, .func (.func 76) #[] #[.pointer (some ⟨g, 0, none⟩)]] w fun e w' => ∃ v', e = .returned v' ∧ Mat w' w.heap.size w'.heap.size v' (dropM m f) ∧ Below w.heap.size w w' := by
  have R := hide h
  obtain ⟨a, cap, rfl, _⟩ := h
  have HL := hide hl
  clear hl
  obtain ⟨MM, hM⟩ : ∃ M, M = dropM m f := ⟨_, rfl⟩
  rw [← hM]
  have hMl : MM.length = m.length := by rw [hM, dropM_length]
  have hMg : ∀ k, k < m.length → MM.getD k [] = (m.getD k []).drop f := fun k hk => by rw [hM, dropM_get _ _ _ hk]
  have ML := hide hMl
  have MG := hide hMg
  have GC := hide hgc
  clear hM hMl hMg hgc
  go_enter Tryd.func75, Tryd.ntmps75
  go_wp2_with (at_make; refine wpList_make_rows rfl _ _ rfl _ _ m.length rfl rfl (by omega) (by omega) hn ?_)
  intro w0 hm0 hg0
  have M0 := hide hm0
  have G0 := hide hg0
  clear hm0 hg0
  go_wp2
  go_loopw [6, 7, 13] (fun _ _ vi wr => ∃ (k : Nat) (vs : List Value), k ≤ m.length ∧ vi = .int .i64 k ∧ MatV wr w.heap.size wr.heap.size (.slice (some ⟨w.heap.size, 0, none⟩) m.length m.length) vs (toTo MM k) ∧ Below w.heap.size w wr) (fun _ _ vi _ => m.length - (intOf vi).toNat)
  case atStart =>
    refine ⟨0, List.replicate m.length nilRow, Nat.zero_le _, rfl, ?_, (Below.refl _ _).grown G0.out (Nat.le_refl _) (fun k h => by cases h)⟩
    rw [toTo_zero, ML.out]
    exact M0.out
  case round =>
    obtain ⟨k, vs, hk, rfl, hm, hb⟩ := hrel
    have M := hide hm
    have B := hide hb
    clear hm hb
    by_cases hlt : k < m.length
    · have hlt' : (k : Int) < (m.length : Int) := by omega
      obtain ⟨b, off, u, rfl, hc1, hu⟩ := (R.out.below B.out).row k hlt
      have U := hide hu
      clear hu
      have hgc2 : wr.cell? ⟨g, 0, none⟩ = some (.int .i64 f) := (B.out.cell (p := ⟨g, 0, none⟩) hgl).trans GC.out
      have GC2 := hide hgc2
      clear hgc2
      go_wp2_with fail
      refine (rowCut_calls u _ f g _ U.out GC2.out (HL.out k hlt).1 (HL.out k hlt).2).mono ?_
      rintro e w1 ⟨x, rfl, hx, hb1⟩
      obtain ⟨xa, xn, xc, rfl⟩ := hx.shape
      have hkl : k < (toTo MM k).length := by rw [toTo_length _ k (by rw [ML.out]; exact hk), ML.out]; exact hlt
      have hM1 := M.out.below hb1
      have hc2 : w1.frozen? ⟨w.heap.size, k, none⟩ = false := World.ownsRow.frozenAt (by have := hM1.head; rwa [← hM1.lenEq] at this) k
      have hc3 := hM1.cell k hkl
      have L := hide (M.out.lay k hkl hb1 _ _ hx M.out.sizeLo (Nat.le_refl _))
      have B1 := hide hb1
      clear hM1 hx hb1
      go_wp2
      go_roundw
      case rel =>
        refine ⟨k + 1, vs.set k (.slice xa xn xc), by omega, by go_num, ?_, ?_⟩
        · have := L.out.1
          rw [← MG.out k hlt, toTo_step _ k (by rw [ML.out]; exact hlt)] at this
          exact this
        · exact (B.out.trans (B1.out.mono B.out.size)).setCell (Nat.le_refl _) _
      case measure => simp [intOf]; omega
    · obtain rfl : k = m.length := by omega
      go_wp2
      go_ret
      have hm := M.out
      have e := toTo_end MM
      rw [ML.out] at e
      rw [e] at hm
      exact ⟨_, rfl, ⟨_, hm⟩, B.out⟩

set_option maxRecDepth 100000 in
set_option maxHeartbeats 800000 in
theorem rowsFrom_calls (v : Value) (m : List (List Int)) (f : Nat) (w : World) (h : RdM w v m) (hn : m.length ≤ 1048576)
    (hl : ∀ i, i < m.length → f ≤ (m.getD i []).length ∧ (m.getD i []).length ≤ 1048576) :
    Calls Tryd.prog 55 #[v, .int .i64 f] w fun e w' => ∃ v', e = .returned v' ∧ Mat w' w.heap.size w'.heap.size v' (dropM m f) ∧ Below w.heap.size w w' := by
  have R := hide h
  have HL := hide hl
  have S : ∃ a n c, v = .slice a n c := by
    obtain ⟨a, cap, rfl, _⟩ := h
    exact ⟨_, _, _, rfl⟩
  obtain ⟨a, k, c, rfl⟩ := S
  clear h hl
  go_enter Tryd.func55, Tryd.ntmps55
  go_wp2_with fail
  refine (eachCut_calls _ m f w.heap.size _ (R.out.below ((Below.refl _ _).alloc (Nat.le_refl _) _)) (World.cell?_alloc_at _ _ _ _ rfl) (by simp) hn HL.out).mono ?_
  rintro e w' ⟨v', rfl, hm, hb⟩
  have M := hide hm
  have B := hide hb
  clear hm hb
  go_wp2
  go_ret
  have h0 : Below w.heap.size w (w.alloc (.cells #[.int .i64 f] 3)) := (Below.refl _ _).alloc (Nat.le_refl _) _
  exact ⟨_, rfl, M.out.wider h0.size (Nat.le_refl _), h0.trans (B.out.mono h0.size)⟩

set_option maxRecDepth 100000 in
set_option maxHeartbeats 800000 in
theorem l2Own_calls (v : Value) (m : List (List Int)) (w : World) (h : RdM w v m) (hn : m.length ≤ 1048576) (hl : ∀ i, i < m.length → (m.getD i []).length ≤ 1048576) :
    Calls Tryd.prog 81 #[v] w fun e w' => ∃ v', e = .returned v' ∧ Mat w' w.heap.size w'.heap.size v' m ∧ Below w.heap.size w w' := by
  have R := hide h
  obtain ⟨a, cap, rfl, _⟩ := h
  have HL := hide hl
  clear hl
  go_enter Tryd.func81, Tryd.ntmps81
  go_wp2
  go_loopw [3, 5, 8] (fun vo _ vi wr => ∃ (k : Nat) (vs : List Value), k ≤ m.length ∧ vi = .int .i64 k ∧ MatV wr w.heap.size wr.heap.size vo vs (m.take k) ∧ Below w.heap.size w wr) (fun _ _ vi _ => m.length - (intOf vi).toNat)
  case atStart =>
    obtain ⟨vs, hv⟩ := Mat.nil w w.heap.size w.heap.size
    exact ⟨0, vs, Nat.zero_le _, rfl, hv, Below.refl _ _⟩
  case round =>
    obtain ⟨k, vs, hk, rfl, hm, hb⟩ := hrel
    have M := hide hm
    have B := hide hb
    clear hm hb
    by_cases hlt : k < m.length
    · have hlt' : (k : Int) < (m.length : Int) := by omega
      obtain ⟨b2, off2, u2, rfl, hc2, hu2⟩ := (R.out.below B.out).row k hlt
      obtain ⟨r, hrr⟩ : ∃ r, r = m.getD k [] := ⟨_, rfl⟩
      rw [← hrr] at hu2
      have hrl : r.length ≤ 1048576 := by rw [hrr]; exact HL.out k hlt
      have HR := hide hrr
      clear hrr
      have RR : Hid (Rd (wr.alloc (.cells #[] 3)) u2 r) := hu2.below ((Below.refl _ _).alloc (Nat.le_refl _) _)
      have OO : Hid (Own (wr.alloc (.cells #[] 3)) wr.heap.size (.slice (some ⟨wr.heap.size, 0, none⟩) 0 0) []) :=
        World.ownsRow_lit wr #[] 0 (Nat.le_refl _) (Nat.zero_le _) (by rfl)
      clear hu2
      go_wp2_with (at_builtin; refine wpList_append_rd rfl (.tmp 13) (.tmp 14) rfl wr.heap.size _ 0 [] r rfl OO.out _ rfl RR.out (by omega) (by simp) ?_)
      intro v1 w1 ho1 hg1
      have hb1 : Below wr.heap.size wr w1 := ((Below.refl _ _).alloc (Nat.le_refl _) _).grown hg1 (by simp) (fun k hk => (OO.out.lt k hk).1)
      obtain ⟨xa, xn, xc, rfl⟩ := ho1.shape
      have ho1' : Own w1 wr.heap.size (.slice xa xn xc) r := by simpa using ho1
      have O1 := hide ho1'
      have B1 := hide hb1
      clear ho1 ho1' hg1 hb1
      go_wp2_with (at_builtin; refine wpList_append_row rfl (.tmp 12) (.tmp 16) rfl w.heap.size wr.heap.size _ vs (m.take k) rfl M.out (B1.out.alloc B1.out.size _) _ r (O1.out.below ((Below.refl _ _).alloc (Nat.le_refl _) _)) (Nat.le_refl _) B.out.size _ rfl (World.cell?_alloc_at _ _ _ _ (by simp)) (by simp; omega) ?_)
      intro v2 w2 hM2 hB2
      have M2 := hide hM2
      have B3 := hide hB2
      clear hM2 hB2
      go_wp2
      go_roundw
      case rel =>
        refine ⟨k + 1, vs ++ [.slice xa xn xc], by omega, by go_num, ?_, B.out.trans B3.out⟩
        have := M2.out
        have e : m.take k ++ [r] = m.take (k + 1) := by
          rw [List.take_succ_eq_append_getElem hlt, HR.out, List.getD_eq_getElem?_getD, List.getElem?_eq_getElem hlt, Option.getD_some]
        rw [e] at this
        exact this
      case measure => simp [intOf]; omega
    · obtain rfl : k = m.length := by omega
      go_wp2
      go_ret
      have hm := M.out
      rw [List.take_of_length_le (Nat.le_refl _)] at hm
      exact ⟨_, rfl, ⟨_, hm⟩, B.out⟩
end Go.Proofs.YtcmohfckhikejaaDoor

namespace Go.Proofs.YtcmohfckhikejaaDoor
open Go.RowKit
open Gf (ci nat amTo AllLt addRow)

def ovTo (U m : List (List Int)) (j : Nat) : List (List Int) := U.take j ++ m.drop j
theorem ovTo_length {U m : List (List Int)} (h : U.length = m.length) (j : Nat) : (ovTo U m j).length = m.length := by simp [ovTo]; omega
theorem ovTo_zero (U m : List (List Int)) : ovTo U m 0 = m := by simp [ovTo]
theorem ovTo_end {U m : List (List Int)} (h : U.length = m.length) : ovTo U m m.length = U := by simp [ovTo, ← h]
theorem ovTo_get {U m : List (List Int)} (h : U.length = m.length) (j : Nat) (hj : j < m.length) : (ovTo U m j).getD j [] = m.getD j [] := by
  unfold ovTo
  rw [getD_app, List.length_take, if_neg (by omega)]
  have : j - min j U.length = 0 := by omega
  rw [this]
  simp [List.getD_eq_getElem?_getD]
theorem ovTo_step {U m : List (List Int)} (h : U.length = m.length) (j : Nat) (hj : j < m.length) : (ovTo U m j).set j (U.getD j []) = ovTo U m (j + 1) := by
  have e1 : (U.take j).length = j := by rw [List.length_take]; omega
  unfold ovTo
  rw [List.set_append_right _ _ (by omega), e1, Nat.sub_self, List.drop_eq_getElem_cons hj, List.set_cons_zero, take_snoc U [] j (by omega), List.append_assoc]
  rfl
theorem addRow_one {s q : List Nat} (hs : AllLt s) (hq : AllLt q) (hl : s.length = q.length) : addRow s q 1 = addRow q s 1 := by
  unfold addRow
  apply List.ext_getElem
  · simp [hl]
  · intro i h1 h2
    simp only [List.length_zipWith] at h1
    have a1 := hs i
    have a2 := hq i
    rw [List.getD_eq_getElem?_getD, List.getElem?_eq_getElem (by omega), Option.getD_some] at a1 a2
    simp only [List.getElem_zipWith]
    rw [Gf.one_mul _ a1, Gf.one_mul _ a2, Nat.xor_comm]

/-- What a piece changes by. -/
def difN (m : List (List Int)) (K : Nat) (p : List Int) : List Nat := addRow (nat p) (nat (m.getD K [])) 1
def facN (D Q K i : Nat) : Nat := (nat ((codeM D Q).getD i [])).getD K 0
def updRow (D Q K : Nat) (m : List (List Int)) (p : List Int) (i : Nat) : List Int := ci (amTo (nat (m.getD i [])) (difN m K p) (facN D Q K i) 0 (difN m K p).length)
def updM (D Q K : Nat) (m : List (List Int)) (p : List Int) : List (List Int) := (List.range m.length).map (updRow D Q K m p)
theorem updM_length (D Q K : Nat) (m : List (List Int)) (p : List Int) : (updM D Q K m p).length = m.length := by simp [updM]
theorem updM_get (D Q K : Nat) (m : List (List Int)) (p : List Int) (i : Nat) (h : i < m.length) : (updM D Q K m p).getD i [] = updRow D Q K m p i := by simp [updM, h]
def updOk (d q : Int) (m : List (List Int)) (k : Int) (p : List Int) : Bool := chkOk d q m && (decide (0 ≤ k ∧ k < d) && (decide (p.length = (m.getD 0 []).length) && p.all Gf.elOk))
def updR (d q : Int) (m : List (List Int)) (k : Int) (p : List Int) : List (List Int) × Bool := if updOk d q m k p = true then (updM d.toNat q.toNat k.toNat m p, true) else ([], false)
structure UpdF (D Q K l : Nat) (m : List (List Int)) (p : List Int) : Prop where
  d1 : 1 ≤ D
  d2 : D ≤ 6
  q1 : 1 ≤ Q
  q2 : Q ≤ 4
  k1 : K < D
  ml : m.length = D + Q
  ok : piecesOk m = true
  l0 : (m.getD 0 []).length = l
  pl : p.length = l
  pe : p.all Gf.elOk = true
theorem UpdF.row {D Q K l : Nat} {m : List (List Int)} {p : List Int} (h : UpdF D Q K l m p) (i : Nat) (hi : i < m.length) : (m.getD i []).length = l ∧ l ≤ 32 ∧ (m.getD i []).all Gf.elOk = true := by
  have := piecesOk_at h.ok i hi
  rw [h.l0] at this
  exact ⟨this.1, by omega, this.2.2⟩
theorem UpdF.dif {D Q K l : Nat} {m : List (List Int)} {p : List Int} (h : UpdF D Q K l m p) : (difN m K p).length = l ∧ AllLt (difN m K p) := by
  have hk := h.row K (by have := h.k1; have := h.ml; omega)
  refine ⟨?_, Gf.addRow_lt (Gf.nat_lt h.pe) (by omega)⟩
  unfold difN
  rw [Gf.addRow_length _ _ _ (by rw [Gf.nat_length, Gf.nat_length, hk.1, h.pl]), Gf.nat_length, h.pl]
theorem UpdF.fac {D Q K l : Nat} {m : List (List Int)} {p : List Int} (h : UpdF D Q K l m p) (i : Nat) (hi : i < m.length) : ((codeM D Q).getD i []).length = D ∧ facN D Q K i < 256 ∧ ((codeM D Q).getD i []).getD K 0 = ((facN D Q K i : Nat) : Int) := by
  have hr := codeM_rows D Q i (by rw [codeM_length, ← h.ml]; exact hi)
  refine ⟨hr.1, Gf.nat_lt hr.2 K, ?_⟩
  have := Gf.ci_getD (nat ((codeM D Q).getD i [])) K
  rw [Gf.ci_nat hr.2] at this
  exact this
theorem updR_tot (d q : Int) (m : List (List Int)) (k : Int) (p : List Int) : (updR d q m k p).1.length + tot (updR d q m k p).1 ≤ 1048576 := by
  unfold updR
  split
  · rename_i h
    simp only [updOk, Bool.and_eq_true] at h
    obtain ⟨c1, c2, c3⟩ := chkOk_facts h.1
    obtain ⟨f1, f2, f3, f4⟩ := codeOk_facts c1
    simp only []
    have hr : ∀ i, i < m.length → ((updM d.toNat q.toNat k.toNat m p).getD i []).length ≤ 32 := fun i hi => by
      rw [updM_get _ _ _ _ _ _ hi, updRow, Gf.ci_length, Gf.amTo_length, Gf.nat_length]
      exact (piecesOk_at c3 i hi).2.1
    have : ∀ j, j ≤ m.length → tot ((updM d.toNat q.toNat k.toNat m p).take j) ≤ 32 * j := by
      intro j
      induction j with
      | zero => intro _; simp [tot]
      | succ j ih =>
        intro hj
        rw [tot_take_succ _ j (by rw [updM_length]; omega)]
        have := ih (by omega)
        have := hr j (by omega)
        omega
    have := this m.length (Nat.le_refl _)
    rw [List.take_of_length_le (by rw [updM_length]; exact Nat.le_refl _)] at this
    rw [updM_length]
    omega
  · simp [tot]

end Go.Proofs.YtcmohfckhikejaaDoor

namespace Go.Proofs.YtcmohfckhikejaaDoor
open Go.RowKit
open Gf (ci nat amTo AllLt addRow)

end Go.Proofs.YtcmohfckhikejaaDoor

namespace Go.Proofs.YtcmohfckhikejaaDoor
open Go.RowKit

theorem updOk_parts {d q : Int} {m : List (List Int)} {k : Int} {p : List Int} (h : updOk d q m k p = true) :
    ∃ D Q K : Nat, d = D ∧ q = Q ∧ k = K ∧ UpdF D Q K (m.getD 0 []).length m p ∧ updR d q m k p = (updM D Q K m p, true) := by
  have h' := h
  simp only [updOk, Bool.and_eq_true, decide_eq_true_eq] at h
  obtain ⟨h1, h2, h3, h4⟩ := h
  obtain ⟨c1, c2, c3⟩ := chkOk_facts h1
  obtain ⟨f1, f2, f3, f4⟩ := codeOk_facts c1
  obtain ⟨D, rfl⟩ := Int.eq_ofNat_of_zero_le (show 0 ≤ d by omega)
  obtain ⟨Q, rfl⟩ := Int.eq_ofNat_of_zero_le (show 0 ≤ q by omega)
  obtain ⟨K, rfl⟩ := Int.eq_ofNat_of_zero_le h2.1
  refine ⟨D, Q, K, rfl, rfl, rfl, ⟨by omega, by omega, by omega, by omega, by omega, by omega, c3, rfl, h3, h4⟩, ?_⟩
  simp only [updR, if_pos h', Int.toNat_natCast]

end Go.Proofs.YtcmohfckhikejaaDoor

namespace Go.Proofs.YtcmohfckhikejaaDoor
open Go.RowKit

def distOk (a b : List (List Int)) : Bool := decide (a.length = b.length) && (decide (a.length ≤ 10) && piecesOk (a ++ b))
def distR (a b : List (List Int)) : Int × Bool := if distOk a b = true then (((unlTo a b a.length : Nat) : Int), true) else (0, false)
theorem pieces_app {a b : List (List Int)} (hl : a.length = b.length) : piecesOk (a ++ b) = (piecesOk a && (piecesOk b && (decide (a.length = 0) || decide ((a.getD 0 []).length = (b.getD 0 []).length)))) := by
  rw [Bool.eq_iff_iff]
  simp only [Bool.and_eq_true, Bool.or_eq_true, decide_eq_true_eq]
  have g : ∀ i, i < a.length → (a ++ b).getD i [] = a.getD i [] := fun i hi => by rw [getD_app, if_pos hi]
  have g' : ∀ i, (a ++ b).getD (a.length + i) [] = b.getD i [] := fun i => by rw [getD_app, if_neg (by omega), Nat.add_sub_cancel_left]
  have gl : (a ++ b).length = a.length + b.length := by simp
  constructor
  · intro h
    have f := piecesOk_at h
    by_cases h0 : a.length = 0
    · have ea : a = [] := List.eq_nil_of_length_eq_zero h0
      have eb : b = [] := List.eq_nil_of_length_eq_zero (by omega)
      subst ea eb
      exact ⟨rfl, rfl, .inl rfl⟩
    · have f0 := f a.length (by omega)
      have e0 := g' 0
      rw [Nat.add_zero] at e0
      rw [e0, g 0 (by omega)] at f0
      refine ⟨piecesOk_yes fun i hi => ?_, piecesOk_yes fun i hi => ?_, .inr f0.1.symm⟩
      · have := f i (by omega)
        rw [g i hi, g 0 (by omega)] at this
        rw [pieceAt, decide_eq_true ⟨this.1, this.2.1⟩, this.2.2]; rfl
      · have := f (a.length + i) (by omega)
        rw [g' i, g 0 (by omega)] at this
        rw [pieceAt, decide_eq_true ⟨by omega, this.2.1⟩, this.2.2]; rfl
  · rintro ⟨h1, h2, h3⟩
    refine piecesOk_yes fun i hi => ?_
    rw [gl] at hi
    have h0 : 0 < a.length := by omega
    have e0 : (a.getD 0 []).length = (b.getD 0 []).length := by
      rcases h3 with h3 | h3
      · omega
      · exact h3
    by_cases h : i < a.length
    · have := piecesOk_at h1 i h
      rw [pieceAt, g i h, g 0 h0, decide_eq_true ⟨this.1, this.2.1⟩, this.2.2]; rfl
    · have := piecesOk_at h2 (i - a.length) (by omega)
      have e := g' (i - a.length)
      rw [show a.length + (i - a.length) = i from by omega] at e
      rw [pieceAt, e, g 0 h0, decide_eq_true ⟨by omega, this.2.1⟩, this.2.2]; rfl

theorem rdM_join {w w' : World} {us vs : List Value} {a b : List (List Int)} {g : Nat} (hu : us.length = a.length) (hv : vs.length = b.length) (ha : ∀ i, i < a.length → Rd w' (us.getD i nilRow) (a.getD i [])) (hb : ∀ i, i < b.length → Rd w' (vs.getD i nilRow) (b.getD i []))
    (ho : w'.ownsRow w.heap.size 31 1 (.slice (some ⟨g, 0, none⟩) (us.length + vs.length) (us.length + vs.length)) (us.length + vs.length) (us ++ vs)) (hm : us.length + vs.length ≤ 8192) :
    RdM w' (.slice (some ⟨g, 0, none⟩) (us.length + vs.length) (us.length + vs.length)) (a ++ b) := by
  have hl : (a ++ b).length = us.length + vs.length := by simp [hu, hv]
  have hlt : g < w'.heap.size := (World.ownsRow.lt ho g rfl).2
  refine ⟨_, us.length + vs.length, by rw [hl], by rw [hl]; exact Nat.le_refl _, ⟨by unfold maxLen; omega, fun h => by cases h⟩, .inr ⟨g, 0, rfl, hlt, fun i hi => ?_⟩⟩
  rw [hl] at hi
  have hi2 : i < (us ++ vs).length := by simp; exact hi
  refine ⟨(us ++ vs).getD i nilRow, ?_, ?_⟩
  · rw [Nat.zero_add, World.ownsRow.cellAt ho i (by omega), List.getD_eq_getElem?_getD, List.getElem?_eq_getElem hi2]
    rfl
  · rw [getD_app, getD_app, hu]
    split
    · rename_i h; exact ha i h
    · exact hb _ (by omega)

set_option maxRecDepth 100000 in
set_option maxHeartbeats 800000 in
theorem joinLists_none (fv bv : Value) (w : World) (hf : Vals w fv []) (hb : Vals w bv []) :
    Calls Tryd.prog 58 #[fv, bv] w fun e w' => ∃ v', e = .returned v' ∧ RdM w' v' [] ∧ Below w.heap.size w w' := by
  obtain ⟨fa, fcap, rfl, f1, f2, f3⟩ := hf
  obtain ⟨ba, bcap, rfl, b1, b2, b3⟩ := hb
  clear f1 f2 f3 b1 b2 b3
  go_enter Tryd.func58, Tryd.ntmps58
  go_wp2_with (at_make; refine wpList_make_rows rfl _ _ rfl _ _ 0 rfl rfl (by simp) (by simp) (by omega) ?_)
  intro w0 hm0 hg0
  have B0 := hide ((Below.refl w.heap.size w).grown hg0 (Nat.le_refl _) (fun k h => by cases h))
  have M0 := hide hm0.rd
  clear hm0 hg0
  go_wp2_with (refine wpList_copy_nothing rfl _ _ 23 23 rfl 31 Tryd.underlying23 infoRowSize _ _ _ _ _ _ rfl rfl (by simp) ?_)
  go_ret
  exact ⟨_, rfl, M0.out, B0.out⟩

set_option maxRecDepth 100000 in
set_option maxHeartbeats 800000 in
theorem joinLists_rd (av bv : Value) (a b : List (List Int)) (w : World) (ha : RdM w av a) (hb : RdM w bv b) (hl : a.length = b.length) (hn : a.length ≤ 10) :
    Calls Tryd.prog 58 #[av, bv] w fun e w' => ∃ v', e = .returned v' ∧ RdM w' v' (a ++ b) ∧ Below w.heap.size w w' := by
  obtain ⟨us, hu1, hu2, hu3⟩ := ha.vals
  obtain ⟨vs, hv1, hv2, hv3⟩ := hb.vals
  by_cases h0 : a.length = 0
  · have ea : a = [] := List.eq_nil_of_length_eq_zero h0
    have eb : b = [] := List.eq_nil_of_length_eq_zero (by omega)
    subst ea eb
    have eu : us = [] := List.eq_nil_of_length_eq_zero hu2
    have ev : vs = [] := List.eq_nil_of_length_eq_zero hv2
    subst eu ev
    exact joinLists_none av bv w hu1 hv1
  · refine (joinLists_calls av bv us vs w hu1 hv1 (by omega) (by omega) (by omega)).mono ?_
    rintro e w' ⟨rfl, ho, hg⟩
    have hB : Below w.heap.size w w' := (Below.refl _ _).grown hg (Nat.le_refl _) (fun k h => by cases h)
    exact ⟨_, rfl, rdM_join hu2 hv2 (fun i hi => (hu3 i hi).below hB) (fun i hi => (hv3 i hi).below hB) ho (by omega), hB⟩

end Go.Proofs.YtcmohfckhikejaaDoor

namespace Go.Proofs.YtcmohfckhikejaaDoor
open Go.RowKit
open Gf

theorem fac_ok : Gf.allB 6 (fun d => Gf.allB 4 (fun q => Gf.allB (d + 1) (fun K => Gf.allB (d + q + 2) (fun i => if i < d + 1 then facN (d + 1) (q + 1) K i == (if i = K then 1 else 0) else facN (d + 1) (q + 1) K i != 0)))) = true := by decide +kernel
theorem fac_at {D Q K i : Nat} (d1 : 1 ≤ D) (d6 : D ≤ 6) (q1 : 1 ≤ Q) (q4 : Q ≤ 4) (hK : K < D) (hi : i < D + Q) : (if i < D then facN D Q K i == (if i = K then 1 else 0) else facN D Q K i != 0) = true := by
  obtain ⟨a, rfl⟩ : ∃ a, D = a + 1 := ⟨D - 1, by omega⟩
  obtain ⟨b, rfl⟩ : ∃ b, Q = b + 1 := ⟨Q - 1, by omega⟩
  exact Gf.allB_of (Gf.allB_of (Gf.allB_of (Gf.allB_of fac_ok a (by omega)) b (by omega)) K hK) i (by omega)
theorem fac_unit {D Q K i : Nat} (d1 : 1 ≤ D) (d6 : D ≤ 6) (q1 : 1 ≤ Q) (q4 : Q ≤ 4) (hK : K < D) (hi : i < D) : facN D Q K i = if i = K then 1 else 0 := by
  have := fac_at d1 d6 q1 q4 hK (i := i) (by omega)
  rw [if_pos hi] at this
  simpa using this
theorem fac_nz {D Q K i : Nat} (d1 : 1 ≤ D) (d6 : D ≤ 6) (q1 : 1 ≤ Q) (q4 : Q ≤ 4) (hK : K < D) (h1 : D ≤ i) (hi : i < D + Q) : facN D Q K i ≠ 0 := by
  have := fac_at d1 d6 q1 q4 hK hi
  rw [if_neg (by omega)] at this
  simpa using this

theorem addRow_at (s q : List Nat) (f i : Nat) (h : i < s.length) (h2 : i < q.length) : (addRow s q f).getD i 0 = s.getD i 0 ^^^ mul f (q.getD i 0) := by
  simp [addRow, List.getD_eq_getElem?_getD, List.getElem?_zipWith, h, h2]
theorem natci (l : List Nat) : nat (ci l) = l := by
  rw [nat, ci, List.map_map]
  conv => rhs; rw [← List.map_id l]
  rfl
theorem ciall {l : List Nat} (h : AllLt l) : (ci l).all Gf.elOk = true := by
  rw [List.all_eq_true]
  intro x hx
  simp only [ci, List.mem_map] at hx
  obtain ⟨n, hn, rfl⟩ := hx
  obtain ⟨i, hi, rfl⟩ := List.getElem_of_mem hn
  have := h i
  rw [List.getD_eq_getElem?_getD, List.getElem?_eq_getElem hi, Option.getD_some] at this
  simp only [Gf.elOk, decide_eq_true_eq]
  omega
theorem mulRow_at {b : List (List Nat)} {l : Nat} {r : List Nat} {k j : Nat} (hb : (b.getD k []).length = l) (hj : j < l) : (mulRow b l r (k + 1)).getD j 0 = (mulRow b l r k).getD j 0 ^^^ mul (r.getD k 0) ((b.getD k []).getD j 0) := by
  rw [mulRow, Gf.amTo_add _ _ _ (by rw [hb, mulRow_length]), addRow_at _ _ _ _ (by rw [mulRow_length]; exact hj) (by rw [hb]; exact hj)]
/-- One row of the right factor is changed by d at place j: the product by its number times d. -/
theorem mulRow_upd {b c : List (List Nat)} {l K j d : Nat} {r : List Nat} (hj : j < l) : ∀ n, (∀ t, t < n → (b.getD t []).length = l ∧ (c.getD t []).length = l) → (∀ t, t < n → t ≠ K → (c.getD t []).getD j 0 = (b.getD t []).getD j 0) → ((c.getD K []).getD j 0 = (b.getD K []).getD j 0 ^^^ d) →
    (mulRow c l r n).getD j 0 = (mulRow b l r n).getD j 0 ^^^ (if K < n then mul (r.getD K 0) d else 0) := by
  intro n
  induction n with
  | zero => intro _ _ _; simp [mulRow]
  | succ n ih =>
    intro h1 h2 h3
    rw [mulRow_at (h1 n (by omega)).1 hj, mulRow_at (h1 n (by omega)).2 hj, ih (fun t ht => h1 t (by omega)) (fun t ht => h2 t (by omega)) h3]
    by_cases e : n = K
    · subst e
      rw [if_neg (Nat.lt_irrefl _), if_pos (Nat.lt_succ_self _), h3, Gf.mul_xor_b, Nat.xor_zero, Nat.xor_assoc]
    · rw [h2 n (by omega) e]
      by_cases h : K < n
      · rw [if_pos h, if_pos (by omega), Nat.xor_assoc, Nat.xor_assoc, Nat.xor_comm (mul (r.getD K 0) d)]
      · rw [if_neg h, if_neg (by omega), Nat.xor_zero, Nat.xor_zero]
theorem upd_at {D Q K l : Nat} {m : List (List Int)} {p : List Int} (h : UpdF D Q K l m p) (i j : Nat) (hi : i < m.length) (hj : j < l) : (nat ((updM D Q K m p).getD i [])).getD j 0 = (nat (m.getD i [])).getD j 0 ^^^ mul (facN D Q K i) ((difN m K p).getD j 0) := by
  have hd := h.dif
  have hr := h.row i hi
  rw [updM_get _ _ _ _ _ _ hi, updRow, natci, Gf.amTo_add _ _ _ (by rw [hd.1, Gf.nat_length, hr.1]), addRow_at _ _ _ _ (by rw [Gf.nat_length, hr.1]; exact hj) (by rw [hd.1]; exact hj)]
theorem dif_at {D Q K l : Nat} {m : List (List Int)} {p : List Int} (h : UpdF D Q K l m p) (j : Nat) (hj : j < l) : (difN m K p).getD j 0 = (nat p).getD j 0 ^^^ (nat (m.getD K [])).getD j 0 := by
  have hk := h.row K (by have := h.k1; have := h.ml; omega)
  rw [difN, addRow_at _ _ _ _ (by rw [Gf.nat_length, h.pl]; exact hj) (by rw [Gf.nat_length, hk.1]; exact hj), Gf.one_mul _ (Gf.nat_lt hk.2.2 j)]
theorem nat_inj {a b : List Int} (ha : a.all Gf.elOk = true) (hb : b.all Gf.elOk = true) (h : nat a = nat b) : a = b := by
  rw [← Gf.ci_nat ha, ← Gf.ci_nat hb, h]
theorem ext_nat {a b : List Nat} {l : Nat} (ha : a.length = l) (hb : b.length = l) (h : ∀ j, j < l → a.getD j 0 = b.getD j 0) : a = b := by
  apply List.ext_getElem (by omega)
  intro i h1 h2
  have := h i (by omega)
  rwa [List.getD_eq_getElem?_getD, List.getD_eq_getElem?_getD, List.getElem?_eq_getElem h1, List.getElem?_eq_getElem h2, Option.getD_some, Option.getD_some] at this
theorem upd_row {D Q K l : Nat} {m : List (List Int)} {p : List Int} (h : UpdF D Q K l m p) (i : Nat) (hi : i < m.length) : ((updM D Q K m p).getD i []).length = l ∧ ((updM D Q K m p).getD i []).all Gf.elOk = true := by
  have hr := h.row i hi
  rw [updM_get _ _ _ _ _ _ hi, updRow]
  refine ⟨by rw [Gf.ci_length, Gf.amTo_length, Gf.nat_length, hr.1], ?_⟩
  exact ciall (Gf.amTo_lt (Gf.nat_lt hr.2.2) (h.fac i hi).2.1 _)
theorem upd_same {D Q K l : Nat} {m : List (List Int)} {p : List Int} (h : UpdF D Q K l m p) (i : Nat) (hi : i < D) (hK : i ≠ K) : (updM D Q K m p).getD i [] = m.getD i [] := by
  have him : i < m.length := by have := h.ml; omega
  have hr := h.row i him
  have hu := upd_row h i him
  refine nat_inj hu.2 hr.2.2 (ext_nat (l := l) (by rw [Gf.nat_length, hu.1]) (by rw [Gf.nat_length, hr.1]) fun j hj => ?_)
  rw [upd_at h i j him hj, fac_unit h.d1 h.d2 h.q1 h.q2 h.k1 hi, if_neg hK, Gf.zero_mul (h.dif.2 j), Nat.xor_zero]
theorem upd_put {D Q K l : Nat} {m : List (List Int)} {p : List Int} (h : UpdF D Q K l m p) : (updM D Q K m p).getD K [] = p := by
  have him : K < m.length := by have := h.ml; have := h.k1; omega
  have hu := upd_row h K him
  refine nat_inj hu.2 h.pe (ext_nat (l := l) (by rw [Gf.nat_length, hu.1]) (by rw [Gf.nat_length, h.pl]) fun j hj => ?_)
  rw [upd_at h K j him hj, fac_unit h.d1 h.d2 h.q1 h.q2 h.k1 h.k1, if_pos rfl, Gf.one_mul _ (h.dif.2 j), dif_at h j hj, Nat.xor_comm ((nat p).getD j 0), ← Nat.xor_assoc, Nat.xor_self, Nat.zero_xor]
theorem upd_pieces {D Q K l : Nat} {m : List (List Int)} {p : List Int} (h : UpdF D Q K l m p) : piecesOk (updM D Q K m p) = true := by
  refine piecesOk_yes fun i hi => ?_
  rw [updM_length] at hi
  have h0 := upd_row h 0 (by have := h.ml; have := h.d1; omega)
  have hi2 := upd_row h i hi
  have := (h.row i hi).2.1
  simp only [pieceAt, Bool.and_eq_true, decide_eq_true_eq]
  exact ⟨⟨by rw [hi2.1, h0.1], by omega⟩, hi2.2⟩
theorem take_get (m : List (List Int)) (D i : Nat) (h : i < D) : (m.take D).getD i [] = m.getD i [] := by
  simp [List.getD_eq_getElem?_getD, h]
theorem enc_at {D Q : Nat} {m : List (List Int)} {i : Nat} (hD : 1 ≤ D) (hi : i < D + Q) : nat ((encT D Q m).getD i []) = mulRow ((m.take D).map nat) (m.getD 0 []).length (nat ((codeM D Q).getD i [])) D := by
  unfold encT
  rw [mulM_get _ _ _ (by rw [codeM_length]; exact hi), natci, take_get _ _ _ (by omega), (codeM_rows D Q i (by rw [codeM_length]; exact hi)).1]
theorem enc_ok {D Q : Nat} {m : List (List Int)} {i : Nat} (hi : i < D + Q) : ((encT D Q m).getD i []).all Gf.elOk = true := by
  unfold encT
  rw [mulM_get _ _ _ (by rw [codeM_length]; exact hi)]
  exact ciall (mulRow_lt (Gf.nat_lt (codeM_rows D Q i (by rw [codeM_length]; exact hi)).2) _)
theorem enc_upd {D Q K l : Nat} {m : List (List Int)} {p : List Int} (h : UpdF D Q K l m p) (i j : Nat) (hi : i < D + Q) (hj : j < l) : (nat ((encT D Q (updM D Q K m p)).getD i [])).getD j 0 = (nat ((encT D Q m).getD i [])).getD j 0 ^^^ mul (facN D Q K i) ((difN m K p).getD j 0) := by
  have hml := h.ml
  have hk := h.k1
  rw [enc_at h.d1 hi, enc_at h.d1 hi, h.l0, (upd_row h 0 (by have := h.d1; omega)).1]
  have := mulRow_upd (b := (m.take D).map nat) (c := ((updM D Q K m p).take D).map nat) (l := l) (K := K) (j := j) (d := (difN m K p).getD j 0) (r := nat ((codeM D Q).getD i [])) hj D (fun t ht => ?_) (fun t ht hK => ?_) ?_
  · rw [this, if_pos hk]; rfl
  · rw [natM_get, natM_get, take_get _ _ _ ht, take_get _ _ _ ht, Gf.nat_length, Gf.nat_length]
    exact ⟨(h.row t (by omega)).1, (upd_row h t (by omega)).1⟩
  · rw [natM_get, natM_get, take_get _ _ _ ht, take_get _ _ _ ht, upd_same h t ht hK]
  · rw [natM_get, natM_get, take_get _ _ _ hk, take_get _ _ _ hk, upd_at h K j (by omega) hj, fac_unit h.d1 h.d2 h.q1 h.q2 h.k1 h.k1, if_pos rfl, Gf.one_mul _ (h.dif.2 j)]
theorem xor_cancel {a b c : Nat} (h : a ^^^ c = b ^^^ c) : a = b := by
  have := congrArg (· ^^^ c) h
  simpa [Nat.xor_assoc] using this
theorem code_iff {D Q K l : Nat} {m : List (List Int)} {p : List Int} (h : UpdF D Q K l m p) (i : Nat) (hi : i < D + Q) : (updM D Q K m p).getD i [] = (encT D Q (updM D Q K m p)).getD i [] ↔ m.getD i [] = (encT D Q m).getD i [] := by
  have hml := h.ml
  have d1 := h.d1
  have him : i < m.length := by omega
  have e1 := (encT_rows (Q := Q) h.ok h.d1 hml).2 i him
  have e2 := (encT_rows (Q := Q) (upd_pieces h) h.d1 (by rw [updM_length, hml])).2 i (by rw [updM_length]; exact him)
  have hr := h.row i him
  have hu := upd_row h i him
  constructor
  · intro e
    refine nat_inj hr.2.2 (enc_ok hi) (ext_nat (l := l) (by rw [Gf.nat_length, hr.1]) (by rw [Gf.nat_length, ← e1.1, hr.1]) fun j hj => ?_)
    have : (nat ((updM D Q K m p).getD i [])).getD j 0 = (nat ((encT D Q (updM D Q K m p)).getD i [])).getD j 0 := by rw [e]
    rw [upd_at h i j him hj, enc_upd h i j hi hj] at this
    exact xor_cancel this
  · intro e
    refine nat_inj hu.2 (enc_ok hi) (ext_nat (l := l) (by rw [Gf.nat_length, hu.1]) (by rw [Gf.nat_length, ← e2.1, hu.1]) fun j hj => ?_)
    rw [upd_at h i j him hj, enc_upd h i j hi hj, e]
theorem unl_zero (a b : List (List Int)) : ∀ n, unlTo a b n = 0 ↔ ∀ i, i < n → a.getD i [] = b.getD i [] := by
  intro n
  induction n with
  | zero => simp [unlTo]
  | succ n ih =>
    rw [unlTo]
    constructor
    · intro h i hi
      by_cases e : i = n
      · subst e
        by_cases e2 : a.getD i [] = b.getD i []
        · exact e2
        · rw [if_neg e2] at h; omega
      · exact ih.mp (by omega) i (by omega)
    · intro h
      rw [ih.mpr (fun i hi => h i (by omega)), if_pos (h n (by omega))]
theorem unl_more (a b : List (List Int)) (D : Nat) : ∀ q, (∀ i, D ≤ i → i < D + q → a.getD i [] ≠ b.getD i []) → unlTo a b (D + q) = unlTo a b D + q := by
  intro q
  induction q with
  | zero => intro _; rfl
  | succ q ih =>
    intro h
    rw [← Nat.add_assoc, unlTo, ih (fun i h1 h2 => h i h1 (by omega)), if_neg (h (D + q) (by omega) (by omega))]
    omega
theorem unl_some (a b : List (List Int)) {K D : Nat} (hK : K < D) (h : a.getD K [] ≠ b.getD K []) : 1 ≤ unlTo a b D := by
  rcases Nat.eq_zero_or_pos (unlTo a b D) with e | e
  · exact absurd ((unl_zero a b D).mp e K hK) h
  · exact e
/-- A piece that is changed changes every parity piece. -/
theorem upd_far {D Q K l : Nat} {m : List (List Int)} {p : List Int} (h : UpdF D Q K l m p) (hp : p ≠ m.getD K []) : Q + 1 ≤ unlTo m (updM D Q K m p) (D + Q) := by
  have hml := h.ml
  have hk := h.k1
  have hr := h.row K (by omega)
  have h1 := unl_some m (updM D Q K m p) h.k1 (by rw [upd_put h]; exact fun e => hp e.symm)
  obtain ⟨j, hj, hd⟩ : ∃ j, j < l ∧ (difN m K p).getD j 0 ≠ 0 := by
    apply Classical.byContradiction
    intro hn
    apply hp
    refine nat_inj h.pe hr.2.2 (ext_nat (l := l) (by rw [Gf.nat_length, h.pl]) (by rw [Gf.nat_length, hr.1]) fun j hj => ?_)
    have h0 : (difN m K p).getD j 0 = 0 := Classical.byContradiction fun e => hn ⟨j, hj, e⟩
    rw [dif_at h j hj] at h0
    have := congrArg (· ^^^ (nat (m.getD K [])).getD j 0) h0
    simpa [Nat.xor_assoc] using this
  rw [unl_more _ _ D Q (fun i hi1 hi2 e => ?_)]
  · omega
  · have : (nat (m.getD i [])).getD j 0 = (nat ((updM D Q K m p).getD i [])).getD j 0 := by rw [e]
    rw [upd_at h i j (by omega) hj] at this
    have hz : mul (facN D Q K i) ((difN m K p).getD j 0) = 0 := by
      have := congrArg ((nat (m.getD i [])).getD j 0 ^^^ ·) this
      simp only [Nat.xor_self] at this
      rw [← Nat.xor_assoc, Nat.xor_self, Nat.zero_xor] at this
      exact this.symm
    rcases Gf.mul_eq_zero _ _ (h.fac i (by omega)).2.1 (h.dif.2 j) hz with e | e
    · exact fac_nz h.d1 h.d2 h.q1 h.q2 h.k1 hi1 hi2 e
    · exact hd e
/-- What the law asks, as the functions answer. -/
structure PieF (D Q K : Nat) (m u : List (List Int)) (p : List Int) (is : Bool) (dd : Nat) (e : List (List Int)) : Prop where
  one : chkR D Q m = (is, true)
  two : chkR D Q u = (is, true)
  three : distR m u = ((dd : Int), true)
  put : u.getD K [] = p
  far : p ≠ m.getD K [] → Q < dd
  four : encR ((m.take D).set K p) Q = (e, true)
  same : is = true → e = u
theorem pie_facts {D Q K l : Nat} {m : List (List Int)} {p : List Int} (h : UpdF D Q K l m p) : ∃ is dd e, PieF D Q K m (updM D Q K m p) p is dd e := by
  have hml := h.ml
  have d1 := h.d1
  have d2 := h.d2
  have q1 := h.q1
  have q2 := h.q2
  have hk := h.k1
  have hcode : codeOk (D : Int) (Q : Int) = true := by
    simp only [codeOk, Bool.and_eq_true, decide_eq_true_eq]
    omega
  have hum : (updM D Q K m p).length = D + Q := by rw [updM_length, hml]
  have c1 : chkOk (D : Int) (Q : Int) m = true := by
    simp only [chkOk, Bool.and_eq_true, decide_eq_true_eq]
    exact ⟨hcode, by omega, h.ok⟩
  have c2 : chkOk (D : Int) (Q : Int) (updM D Q K m p) = true := by
    simp only [chkOk, Bool.and_eq_true, decide_eq_true_eq]
    exact ⟨hcode, by omega, upd_pieces h⟩
  have hdist : distOk m (updM D Q K m p) = true := by
    simp only [distOk, Bool.and_eq_true, decide_eq_true_eq]
    refine ⟨by omega, by omega, ?_⟩
    rw [pieces_app (by omega), h.ok, upd_pieces h, h.l0, (upd_row h 0 (by omega)).1]
    simp
  have htake : (updM D Q K m p).take D = (m.take D).set K p := by
    apply List.ext_getElem
    · simp; omega
    · intro i h1 h2
      have hi : i < D := by simp at h1; omega
      have e1 : ((updM D Q K m p).take D)[i] = (updM D Q K m p).getD i [] := by
        rw [← take_get _ _ _ hi, List.getD_eq_getElem?_getD, List.getElem?_eq_getElem h1]; rfl
      rw [e1, List.getElem_set]
      by_cases e : K = i
      · subst e; rw [if_pos rfl, upd_put h]
      · rw [if_neg e, upd_same h i hi (fun e' => e e'.symm), ← take_get _ _ _ hi, List.getD_eq_getElem?_getD, List.getElem?_eq_getElem (by simp at h2 ⊢; omega)]; rfl
  have hlen : ((m.take D).set K p).length = D := by simp; omega
  have henc : encOk ((m.take D).set K p) (Q : Int) = true := by
    simp only [encOk, Bool.and_eq_true]
    refine ⟨by rw [hlen]; exact hcode, ?_⟩
    rw [← htake]
    exact pieces_take (upd_pieces h) D (by omega) (by omega)
  have hiff : unlTo m (encT D Q m) (D + Q) = 0 ↔ unlTo (updM D Q K m p) (encT D Q (updM D Q K m p)) (D + Q) = 0 := by
    rw [unl_zero, unl_zero]
    exact ⟨fun hh i hi => (code_iff h i hi).mpr (hh i hi), fun hh i hi => (code_iff h i hi).mp (hh i hi)⟩
  refine ⟨decide (((unlTo m (encT D Q m) (D + Q) : Nat) : Int) = 0), unlTo m (updM D Q K m p) (D + Q), mulM (codeM D Q) ((m.take D).set K p), ?_, ?_, ?_, upd_put h, fun hp => upd_far h hp, ?_, ?_⟩
  · rw [chkR, if_pos c1, Int.toNat_natCast, Int.toNat_natCast, hml]
  · rw [chkR, if_pos c2, Int.toNat_natCast, Int.toNat_natCast, hum]
    congr 1
    rw [Bool.eq_iff_iff]
    simp only [decide_eq_true_eq]
    constructor
    · intro e; have := hiff.mpr (by omega); omega
    · intro e; have := hiff.mp (by omega); omega
  · rw [distR, if_pos hdist, hml]
  · rw [encR, if_pos henc, hlen, Int.toNat_natCast]
  · intro e
    simp only [decide_eq_true_eq] at e
    have hz := (unl_zero _ _ _).mp (hiff.mp (by omega))
    have : mulM (codeM D Q) ((m.take D).set K p) = encT D Q (updM D Q K m p) := by rw [encT, htake]
    rw [this]
    have el := (encT_rows (Q := Q) (upd_pieces h) h.d1 hum).1
    apply List.ext_getElem el
    intro i h1 h2
    have := hz i (by omega)
    rw [List.getD_eq_getElem?_getD, List.getD_eq_getElem?_getD, List.getElem?_eq_getElem h1, List.getElem?_eq_getElem h2, Option.getD_some, Option.getD_some] at this
    exact this.symm
end Go.Proofs.YtcmohfckhikejaaDoor

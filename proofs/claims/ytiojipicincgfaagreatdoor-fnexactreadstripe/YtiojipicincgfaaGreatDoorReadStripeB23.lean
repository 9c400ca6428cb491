/-
  How many rows are unlike, as the model tells it, call by call. Each contract says what it asks. CheckPieces: the program's function and its model's, at all arguments. The program's table of rests must hold its seven numbers where the program's own function is called.
-/
import Derived.Test.YtiojipicincgfaaGreatDoorReadStripeB22
import Derived.Test.YtiojipicincgfaaGreatDoorReadStripeB20
namespace Go.Proofs.YtiojipicincgfaaGreatDoor
open Go.RowKit

theorem take_same {xs ys : List Int} {k : Nat} (h1 : k < xs.length) (h2 : k < ys.length) (h : xs.take k = ys.take k) (e : xs.getD k 0 = ys.getD k 0) : xs.take (k + 1) = ys.take (k + 1) := by
  rw [List.take_succ_eq_append_getElem h1, List.take_succ_eq_append_getElem h2, h]
  rw [List.getD_eq_getElem?_getD, List.getD_eq_getElem?_getD, List.getElem?_eq_getElem h1, List.getElem?_eq_getElem h2, Option.getD_some, Option.getD_some] at e
  rw [e]

set_option maxRecDepth 100000 in
set_option maxHeartbeats 800000 in
theorem l1Same_calls (v1 v2 : Value) (xs ys : List Int) (t : Bool) (w : World) (h1 : Rd w v1 xs) (h2 : Rd w v2 ys) (ht : t = decide (xs = ys)) :
    Calls Tryz.prog 183 #[v1, v2] w fun e w' => e = .returned (.bool t) ∧ ∃ n, w' = w.drewN n := by
  have R1 := hide h1
  have R2 := hide h2
  have T := hide ht
  obtain ⟨a1, c1, rfl, _, m1, k1⟩ := h1
  obtain ⟨a2, c2, rfl, _, _, k2⟩ := h2
  have hm : xs.length ≤ maxLen := by omega
  unfold maxLen at hm
  clear k1 k2 m1 ht
  by_cases hl : xs.length = ys.length
  · have t1 : ((xs.length : Int) != (ys.length : Int)) = false := by simp; omega
    have HL := hide hl
    clear hl
    go_enter Tryz.func183, Tryz.ntmps183
    go_wp2
    go_loopw [13] (fun vi wr => ∃ k n : Nat, k ≤ xs.length ∧ vi = .int .i64 k ∧ wr = w.drewN n ∧ xs.take k = ys.take k) (fun vi _ => xs.length - (intOf vi).toNat)
    case atStart => exact ⟨0, 0, Nat.zero_le _, rfl, rfl, rfl⟩
    case round =>
      obtain ⟨k, n, hk, rfl, rfl, hs⟩ := hrel
      have S := hide hs
      clear hs
      by_cases hlt : k < xs.length
      · have hlt' : (k : Int) < (xs.length : Int) := by omega
        have hlt2 : (k : Int) < (ys.length : Int) := by have := HL.out; omega
        obtain ⟨b, off, u, rfl, e1, hu⟩ := R1.out.row k hlt
        obtain ⟨b', off', u', rfl, e2, hu'⟩ := R2.out.row k (by have := HL.out; omega)
        obtain ⟨x, hx⟩ : ∃ x, x = xs.getD k 0 := ⟨_, rfl⟩
        obtain ⟨y, hy⟩ : ∃ y, y = ys.getD k 0 := ⟨_, rfl⟩
        rw [← hx] at hu
        rw [← hy] at hu'
        subst hu hu'
        have X := hide hx
        have Y := hide hy
        clear hx hy
        by_cases e : x = y
        · have t2 : (x != y) = false := by simp [e]
          have E := hide e
          clear e
          go_wp2
          go_quiet (fail)
          go_wp2
          go_roundw
          case rel => exact ⟨k + 1, _, by omega, by go_num, rfl, take_same hlt (by have := HL.out; omega) S.out (by rw [← X.out, ← Y.out, E.out])⟩
          case measure => simp [intOf]; omega
        · have t2 : (x != y) = true := by simp [e]
          have hf : t = false := by
            rw [T.out]
            refine decide_eq_false (fun h => e ?_)
            rw [X.out, Y.out, h]
          have F := hide hf
          clear e hf
          go_wp2
          go_quiet (fail)
          go_wp2
          go_ret
          refine ⟨Gf.ret_bool F.out.symm, ?_⟩
          rw [World.drewN_drewN]
          exact ⟨_, rfl⟩
      · obtain rfl : k = xs.length := by omega
        have hf : t = true := by
          have := S.out
          rw [List.take_of_length_le (Nat.le_refl _), HL.out, List.take_of_length_le (Nat.le_refl _)] at this
          rw [T.out]
          exact decide_eq_true this
        have F := hide hf
        clear hf
        go_wp2
        go_ret
        exact ⟨Gf.ret_bool F.out.symm, _, rfl⟩
  · have t1 : ((xs.length : Int) != (ys.length : Int)) = true := by simp; omega
    have hf : t = false := by
      rw [T.out]
      exact decide_eq_false (fun h => hl (by rw [h]))
    have F := hide hf
    clear hf hl
    go_enter Tryz.func183, Tryz.ntmps183
    go_wp2
    go_ret
    exact ⟨Gf.ret_bool F.out.symm, 0, rfl⟩

set_option maxRecDepth 100000 in
set_option maxHeartbeats 1600000 in
theorem l3Unlike_calls (av bv : Value) (a b : List (List Int)) (n : Nat) (w : World) (ha : RdM w av a) (hb : RdM w bv b) (hal : a.length = n) (hbl : b.length = n) (hn : n ≤ 4096) :
    Calls Tryz.prog 141 #[av, bv] w fun e w' => e = .returned (.int .i64 ((unlTo a b n : Nat) : Int)) ∧ Below w.heap.size w w' := by
  have RA := hide ha
  have RB := hide hb
  have AL := hide hal
  have BL := hide hbl
  obtain ⟨aa, acap, hav, _⟩ := ha
  obtain ⟨ba, bcap, hbv, _⟩ := hb
  rw [hal] at hav
  rw [hbl] at hbv
  subst hav hbv
  clear hal hbl
  go_enter Tryz.func141, Tryz.ntmps141
  go_wp2
  go_loopw [5, 9] (fun vn vi wr => ∃ k c : Nat, k ≤ n ∧ vi = .int .i64 k ∧ vn = .int .i64 c ∧ c = unlTo a b k ∧ Below w.heap.size w wr) (fun _ vi _ => n - (intOf vi).toNat)
  case atStart => exact ⟨0, 0, Nat.zero_le _, rfl, rfl, rfl, Below.refl _ _⟩
  case round =>
    obtain ⟨k, c, hk, rfl, rfl, hc, hb⟩ := hrel
    have C := hide hc
    have B := hide hb
    have hcn : c ≤ 4096 := by rw [hc]; have := unlTo_le a b k; omega
    clear hc hb
    by_cases hlt : k < n
    · have hlt' : (k : Int) < (n : Int) := by omega
      obtain ⟨ab, aoff, au, rfl, hac, hau⟩ := (RA.out.below B.out).row k (by rw [AL.out]; exact hlt)
      obtain ⟨bb, boff, bu, rfl, hbc, hbu⟩ := (RB.out.below B.out).row k (by rw [BL.out]; exact hlt)
      obtain ⟨r, hrr⟩ : ∃ r, r = a.getD k [] := ⟨_, rfl⟩
      obtain ⟨s, hss⟩ : ∃ s, s = b.getD k [] := ⟨_, rfl⟩
      rw [← hrr] at hau
      rw [← hss] at hbu
      obtain ⟨t, ht⟩ : ∃ t, t = decide (r = s) := ⟨_, rfl⟩
      have nx : unlTo a b (k + 1) = c + if t = true then 0 else 1 := by
        rw [unlTo, ← C.out, ht, ← hrr, ← hss]
        simp only [decide_eq_true_eq]
      have NX := hide nx
      have U := hide hau
      have V := hide hbu
      have T := hide ht
      have i0 : (0 : Int) ≤ (k : Int) := by omega
      clear ht nx hau hbu hrr hss
      go_wp2
      go_quiet ((go_at_call 183; exact quiet_more (l1Same_calls _ _ r s t _ (Rd.drewN U.out _) (Rd.drewN V.out _) T.out)))
      cases t with
      | true =>
        go_wp2
        go_roundw
        case rel => exact ⟨k + 1, c, by omega, by go_num, rfl, by rw [NX.out]; rfl, below_drewN B.out _⟩
        case measure => simp [intOf]; omega
      | false =>
        go_wp2
        go_roundw
        case rel => exact ⟨k + 1, c + 1, by omega, by go_num, by go_num, by rw [NX.out]; rfl, below_drewN B.out _⟩
        case measure => simp [intOf]; omega
    · obtain rfl : k = n := by omega
      go_wp2
      go_ret
      rw [C.out]
      exact ⟨rfl, B.out⟩
end Go.Proofs.YtiojipicincgfaaGreatDoor

namespace Go.Proofs.YtiojipicincgfaaGreatDoor
open Go.RowKit

def chkOk (d q : Int) (m : List (List Int)) : Bool := codeOk d q && (decide ((m.length : Int) = d + q) && piecesOk m)
theorem chkOk_facts {d q : Int} {m : List (List Int)} (h : chkOk d q m = true) : codeOk d q = true ∧ (m.length : Int) = d + q ∧ piecesOk m = true := by
  simp only [chkOk, Bool.and_eq_true, decide_eq_true_eq] at h
  exact h

set_option maxRecDepth 100000 in
set_option maxHeartbeats 800000 in
theorem areCodePieces_calls (d q : Int) (v : Value) (m : List (List Int)) (w : World) (h : RdM w v m) :
    Calls Tryz.prog 135 #[.int .i64 d, .int .i64 q, v] w fun e w' => e = .returned (.bool (chkOk d q m)) ∧ Below w.heap.size w w' := by
  have R := hide h
  obtain ⟨a, cap, rfl, _⟩ := h
  cases hc : codeOk d q with
  | false =>
    have e : chkOk d q m = false := by simp [chkOk, hc]
    rw [e]
    have C := hide hc
    clear hc e
    go_enter Tryz.func135, Tryz.ntmps135
    go_wp2_with fail
    refine (isCode_calls d q _).mono ?_
    rw [C.out]
    rintro e w' ⟨rfl, rfl⟩
    go_wp2
    go_ret
    exact ⟨rfl, Below.refl _ _⟩
  | true =>
    obtain ⟨f1, f2, f3, f4⟩ := codeOk_facts hc
    have C := hide hc
    by_cases hl : (m.length : Int) = d + q
    · have t1 : ((m.length : Int) == d + q) = true := by simp [hl]
      obtain ⟨p, hp⟩ : ∃ p, p = piecesOk m := ⟨_, rfl⟩
      have e : chkOk d q m = p := by rw [chkOk, hc, decide_eq_true hl, hp]; rfl
      rw [e]
      have PO := hide hp
      clear hc e hl hp
      go_enter Tryz.func135, Tryz.ntmps135
      go_wp2_with fail
      refine (isCode_calls d q _).mono ?_
      rw [C.out]
      rintro e w' ⟨rfl, rfl⟩
      go_wp2_with fail
      refine (arePieces_calls _ m _ R.out).mono ?_
      rw [← PO.out]
      rintro e w1 ⟨rfl, hb⟩
      have B := hide hb
      clear hb
      go_wp2
      go_ret
      exact ⟨rfl, B.out⟩
    · have t1 : ((m.length : Int) == d + q) = false := by simp [hl]
      have e : chkOk d q m = false := by rw [chkOk, decide_eq_false hl]; simp
      rw [e]
      clear hc e hl
      go_enter Tryz.func135, Tryz.ntmps135
      go_wp2_with fail
      refine (isCode_calls d q _).mono ?_
      rw [C.out]
      rintro e w' ⟨rfl, rfl⟩
      go_wp2
      go_ret
      exact ⟨rfl, Below.refl _ _⟩
theorem rdM_take {w : World} {a : Option Addr} {n cap : Nat} {m : List (List Int)} (h : RdM w (.slice a n cap) m) (i : Nat) (hi : i ≤ m.length) : RdM w (.slice a i cap) (m.take i) := by
  obtain ⟨a', cap', hv, h1, h2, h3⟩ := h
  simp only [Value.slice.injEq] at hv
  obtain ⟨rfl, rfl, rfl⟩ := hv
  have hl : (m.take i).length = i := by simp; omega
  refine ⟨a, cap, by rw [hl], by rw [hl]; omega, h2, ?_⟩
  rcases h3 with h3 | ⟨b, off, rfl, hlt, hc⟩
  · subst h3; exact .inl (by simp)
  · refine .inr ⟨b, off, rfl, hlt, fun j hj => ?_⟩
    rw [hl] at hj
    obtain ⟨u, hu, hr⟩ := hc j (by omega)
    refine ⟨u, hu, ?_⟩
    have e : (m.take i).getD j [] = m.getD j [] := by simp [List.getD_eq_getElem?_getD, hj]
    rw [e]
    exact hr
theorem pieces_take {m : List (List Int)} (h : piecesOk m = true) (i : Nat) (h0 : 0 < i) (hi : i ≤ m.length) : piecesOk (m.take i) = true := by
  refine piecesOk_yes fun j hj => ?_
  have hl : (m.take i).length = i := by simp; omega
  rw [hl] at hj
  have e : (m.take i).getD j [] = m.getD j [] := by simp [List.getD_eq_getElem?_getD, hj]
  have e0 : (m.take i).getD 0 [] = m.getD 0 [] := by simp [List.getD_eq_getElem?_getD, h0]
  have := piecesOk_at h j (by omega)
  rw [pieceAt, e, e0, decide_eq_true ⟨this.1, this.2.1⟩, this.2.2]; rfl
/-- All pieces as a code has them whose data are the first ones. -/
def encT (d q : Nat) (m : List (List Int)) : List (List Int) := mulM (codeM d q) (m.take d)
def chkR (d q : Int) (m : List (List Int)) : Bool × Bool := if chkOk d q m = true then (decide (((unlTo m (encT d.toNat q.toNat m) m.length : Nat) : Int) = 0), true) else (false, false)
theorem encT_rows {D Q : Nat} {m : List (List Int)} (hp : piecesOk m = true) (h1 : 1 ≤ D) (hl : m.length = D + Q) : (encT D Q m).length = m.length ∧ ∀ i, i < m.length → (m.getD i []).length = ((encT D Q m).getD i []).length ∧ (m.getD i []).length ≤ 32 := by
  have h0 : 0 < D := h1
  have e0 : (m.take D).getD 0 [] = m.getD 0 [] := by simp [List.getD_eq_getElem?_getD, h0]
  refine ⟨by rw [encT, mulM_length, codeM_length, hl], fun i hi => ?_⟩
  have := piecesOk_at hp i hi
  unfold encT
  rw [mulM_get _ _ _ (by rw [codeM_length]; omega), Gf.ci_length, mulRow_length, e0]
  exact ⟨this.1, this.2.1⟩

set_option maxRecDepth 100000 in
set_option maxHeartbeats 1600000 in
theorem checkPieces_calls (d q : Int) (v : Value) (m : List (List Int)) (w : World) (hT : Gf.Tab w) (h : RdM w v m) :
    Calls Tryz.prog 89 #[.int .i64 d, .int .i64 q, v] w fun e w' => e = .returned (.tuple #[.bool (chkR d q m).1, .bool (chkR d q m).2]) ∧ Below w.heap.size w w' := by
  have R := hide h
  have T := hide hT
  obtain ⟨a, cap, rfl, hcap, _⟩ := h
  clear hT
  cases hc : chkOk d q m with
  | false =>
    have e : chkR d q m = (false, false) := by simp [chkR, hc]
    rw [e]
    have C := hide hc
    clear hc e
    go_enter Tryz.func89, Tryz.ntmps89
    go_wp2_with fail
    refine (areCodePieces_calls d q _ m _ R.out).mono ?_
    rw [C.out]
    rintro e w1 ⟨rfl, hb⟩
    have B := hide hb
    clear hb
    go_wp2
    go_ret2
    exact ⟨rfl, B.out⟩
  | true =>
    obtain ⟨c1, c2, c3⟩ := chkOk_facts hc
    obtain ⟨f1, f2, f3, f4⟩ := codeOk_facts c1
    have C := hide hc
    obtain ⟨D, rfl⟩ := Int.eq_ofNat_of_zero_le (show 0 ≤ d by omega)
    obtain ⟨Q, rfl⟩ := Int.eq_ofNat_of_zero_le (show 0 ≤ q by omega)
    have hl : m.length = D + Q := by omega
    obtain ⟨z, hz⟩ : ∃ z, z = unlTo m (encT D Q m) m.length := ⟨_, rfl⟩
    have e : chkR (D : Int) (Q : Int) m = (decide (((z : Nat) : Int) = 0), true) := by simp only [chkR, if_pos hc, Int.toNat_natCast, hz]
    rw [e]
    have er := encT_rows c3 (by omega) hl
    have ER := hide er
    have PT := hide (pieces_take c3 D (by omega) (by omega))
    have TL : Hid ((m.take D).length = D) := by show (m.take D).length = D; simp; omega
    have HZ := hide hz
    have HL := hide hl
    have i0 : (0 : Int) ≤ (D : Int) := by omega
    have i1 : (D : Int) ≤ (cap : Int) := by omega
    clear hc c1 c2 c3 e er hz hl
    go_enter Tryz.func89, Tryz.ntmps89
    go_wp2_with fail
    refine (areCodePieces_calls _ _ _ m _ R.out).mono ?_
    rw [C.out]
    rintro e w1 ⟨rfl, hb⟩
    have B := hide hb
    clear hb
    have R1 := hide (R.out.below B.out)
    have RT : Hid (RdM w1 (.slice a D cap) (m.take D)) := rdM_take R1.out D (by have := HL.out; omega)
    have EN : Hid (Calls Tryz.prog 132 #[.slice a D cap, .int .i64 (Q : Nat)] w1 fun e w' => ∃ v', e = .returned v' ∧ Mat w' w1.heap.size w'.heap.size v' (encT D Q m) ∧ Below w1.heap.size w1 w') := by
      have := encode_calls _ (m.take D) Q w1 (Gf.Tab.below T.out B.out) RT.out PT.out (by rw [TL.out]; omega) (by rw [TL.out]; omega) (by omega) (by omega)
      rw [TL.out] at this
      exact this
    go_wp2_with fail
    refine EN.out.mono ?_
    rintro e w2 ⟨v2, rfl, hm2, hb2⟩
    have M2 := hide hm2.rd
    have B2 := hide (B.out.trans (hb2.mono B.out.size))
    have R2 := hide (R1.out.below hb2)
    clear hm2 hb2
    go_wp2_with fail
    refine (countUnlike_calls _ _ m (encT D Q m) m.length _ R2.out M2.out rfl ER.out.1 (by rw [HL.out]; omega) ER.out.2).mono ?_
    rw [← HZ.out]
    rintro e w3 ⟨rfl, hb3⟩
    have B3 := hide (B2.out.trans (hb3.mono B2.out.size))
    clear hb3
    go_wp2
    go_ret2
    refine ⟨?_, B3.out⟩
    have eb : (((z : Nat) : Int) == 0) = decide (z = 0) := by rw [Bool.eq_iff_iff]; simp only [beq_iff_eq, decide_eq_true_eq]; omega
    simp [eb]

set_option maxRecDepth 100000 in
set_option maxHeartbeats 1600000 in
theorem sCheckPieces_calls (d q : Int) (v : Value) (m : List (List Int)) (w : World) (h : RdM w v m) :
    Calls Tryz.prog 94 #[.int .i64 d, .int .i64 q, v] w fun e w' => e = .returned (.tuple #[.bool (chkR d q m).1, .bool (chkR d q m).2]) ∧ Below w.heap.size w w' := by
  have R := hide h
  obtain ⟨a, cap, rfl, hcap, _⟩ := h
  cases hc0 : codeOk d q with
  | false =>
    have e : chkR d q m = (false, false) := by simp [chkR, chkOk, hc0]
    rw [e]
    have C := hide hc0
    clear hc0 e
    go_enter Tryz.func94, Tryz.ntmps94
    go_wp2_with fail
    refine (l3Size_calls d q _).mono ?_
    rw [C.out]
    rintro e w' ⟨rfl, rfl⟩
    go_wp2
    go_ret2
    exact ⟨rfl, Below.refl _ _⟩
  | true =>
    obtain ⟨f1, f2, f3, f4⟩ := codeOk_facts hc0
    have C := hide hc0
    obtain ⟨p, hp⟩ : ∃ p, p = (piecesOk m && decide ((m.length : Int) = d + q)) := ⟨_, rfl⟩
    have hcp : chkOk d q m = p := by rw [chkOk, hc0, hp, Bool.true_and, Bool.and_comm]
    have PO := hide hp
    cases p with
    | false =>
      have e : chkR d q m = (false, false) := by simp [chkR, hcp]
      rw [e]
      clear hc0 e hp hcp
      go_enter Tryz.func94, Tryz.ntmps94
      go_wp2_with fail
      refine (l3Size_calls d q _).mono ?_
      rw [C.out]
      rintro e w' ⟨rfl, rfl⟩
      go_wp2_with fail
      refine (l3Pieces_calls _ m _ _ R.out).mono ?_
      rw [← PO.out]
      rintro e w1 ⟨rfl, rfl⟩
      go_wp2
      go_ret2
      exact ⟨rfl, Below.refl _ _⟩
    | true =>
      obtain ⟨c1, c2, c3⟩ := chkOk_facts hcp
      obtain ⟨D, rfl⟩ := Int.eq_ofNat_of_zero_le (show 0 ≤ d by omega)
      obtain ⟨Q, rfl⟩ := Int.eq_ofNat_of_zero_le (show 0 ≤ q by omega)
      have hl : m.length = D + Q := by omega
      obtain ⟨z, hz⟩ : ∃ z, z = unlTo m (encT D Q m) m.length := ⟨_, rfl⟩
      have e : chkR (D : Int) (Q : Int) m = (decide (((z : Nat) : Int) = 0), true) := by simp only [chkR, if_pos hcp, Int.toNat_natCast, hz]
      rw [e]
      rw [unlTo_comm] at hz
      have er := encT_rows c3 (by omega) hl
      have ER := hide er
      have PT := hide (pieces_take c3 D (by omega) (by omega))
      have TL : Hid ((m.take D).length = D) := by show (m.take D).length = D; simp; omega
      have HZ := hide hz
      have HL := hide hl
      have i0 : (0 : Int) ≤ (D : Int) := by omega
      have i1 : (D : Int) ≤ (cap : Int) := by omega
      have RT : Hid (RdM w (.slice a D cap) (m.take D)) := rdM_take R.out D (by omega)
      have EN : Hid (Calls Tryz.prog 96 #[.slice a D cap, .int .i64 (Q : Nat)] w fun e w' => ∃ v', e = .returned v' ∧ Mat w' w.heap.size w'.heap.size v' (encT D Q m) ∧ Below w.heap.size w w') := by
        have := l3Encode_calls _ (m.take D) Q w RT.out PT.out (by rw [TL.out]; omega) (by rw [TL.out]; omega) (by omega) (by omega)
        rw [TL.out] at this
        exact this
      clear hc0 c1 c2 c3 e er hz hl hp hcp
      go_enter Tryz.func94, Tryz.ntmps94
      go_wp2_with fail
      refine (l3Size_calls _ _ _).mono ?_
      rw [C.out]
      rintro e w' ⟨rfl, rfl⟩
      go_wp2_with fail
      refine (l3Pieces_calls _ m _ _ R.out).mono ?_
      rw [← PO.out]
      rintro e w1 ⟨rfl, rfl⟩
      go_wp2_with fail
      refine EN.out.mono ?_
      rintro e w2 ⟨v2, rfl, hm2, hb2⟩
      have M2 := hide hm2.rd
      have B2 := hide hb2
      have R2 := hide (R.out.below hb2)
      clear hm2 hb2
      go_wp2_with fail
      refine (l3Unlike_calls _ _ (encT D Q m) m m.length _ M2.out R2.out ER.out.1 rfl (by rw [HL.out]; omega)).mono ?_
      rw [← HZ.out]
      rintro e w3 ⟨rfl, hb3⟩
      have B3 := hide (B2.out.trans (hb3.mono B2.out.size))
      clear hb3
      go_wp2
      go_ret2
      refine ⟨?_, B3.out⟩
      have eb : (((z : Nat) : Int) == 0) = decide (z = 0) := by rw [Bool.eq_iff_iff]; simp only [beq_iff_eq, decide_eq_true_eq]; omega
      simp [eb]
end Go.Proofs.YtiojipicincgfaaGreatDoor

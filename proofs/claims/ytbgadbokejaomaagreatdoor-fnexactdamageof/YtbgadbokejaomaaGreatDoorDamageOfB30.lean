/-
  Pieces decoded: the program's function and its model's, call by call. Each contract says what it asks: the pieces are lists of elements. UpdatePiece: the program's function, at all arguments. The program's table of rests must hold its seven numbers. UpdatePiece: the program's function and its model's, at all arguments. The program's table of rests must hold its seven numbers where the program's own function is called. UpdatePiece as the two public functions answer it, at all arguments. The program's table of rests must hold its seven numbers where the program's own function is called. DistanceOf: the program's function and its model's, at all rows. No condition. What the law of pieces asks of the mathematics: a piece put anew leaves a code a code, and what was none stays none; a piece that is changed changes every parity piece. What the law of erasure asks: a code stands as it was made, comes back whatever lost pieces hold, and is no code where one was spoilt: plain mathematics. No call is walked here.
-/
import Derived.Test.YtbgadbokejaomaaGreatDoorDamageOfB26
import Derived.Test.YtbgadbokejaomaaGreatDoorDamageOfB29
import Derived.Test.YtbgadbokejaomaaGreatDoorDamageOfB22
import Derived.Test.YtbgadbokejaomaaGreatDoorDamageOfB24
import Derived.Test.YtbgadbokejaomaaGreatDoorDamageOfB28
import Derived.Test.YtbgadbokejaomaaGreatDoorDamageOfB20
namespace Go.Proofs.YtbgadbokejaomaaGreatDoor
open Go.RowKit
open Gf (ci nat ciM Sh AllLt invTo solN selM codeN those rowL identN elOk)

theorem sel_el {m : List (List Int)} (h : m.all (fun r : List Int => r.all elOk) = true) {f : List Nat} (hf : ∀ k ∈ f, k < m.length) : (selM m f).all (fun r : List Int => r.all elOk) = true := by
  rw [List.all_eq_true] at h ⊢
  intro r hr
  obtain ⟨k, hk, rfl⟩ := List.mem_map.1 hr
  have hl := hf k hk
  rw [List.getD_eq_getElem?_getD, List.getElem?_eq_getElem hl]
  exact h _ (List.getElem_mem hl)
theorem dec_no {d q : Int} {m : List (List Int)} {xs : List Int} (h : decOk d q m xs = false) : decR d q m xs = ([], false) := by
  unfold decR
  rw [h]
  rfl
theorem those_short (p : Nat → Bool) (n : Nat) : (those p n).length ≤ n := by have := Gf.those_not p n; omega

set_option maxRecDepth 100000 in
set_option maxHeartbeats 3200000 in
theorem decodePieces_calls (d q : Int) (v xv : Value) (m : List (List Int)) (xs : List Int) (w : World) (hT : Gf.Tab w) (h : RdM w v m) (hx : Rd w xv xs) (hel : m.all (fun r : List Int => r.all elOk) = true) :
    Calls Tryz.prog 153 #[.int .i64 d, .int .i64 q, v, xv] w fun e w' => ∃ v', e = .returned (.tuple #[v', .bool (decR d q m xs).2]) ∧ Mat w' w.heap.size w'.heap.size v' (decR d q m xs).1 ∧ Below w.heap.size w w' := by
  have R := hide h
  have X := hide hx
  have T := hide hT
  have EL := hide hel
  have hpc : piecesOk m = asLongOk m := by unfold piecesOk; rw [hel, Bool.and_true]
  have PC := hide hpc
  clear hT hel hpc
  cases hc : ((canR d q xs).1 && (canR d q xs).2) with
  | false =>
    have e : decR d q m xs = ([], false) := dec_no (by unfold decOk; rw [hc]; rfl)
    rw [e]
    clear e
    obtain ⟨a, cap, rfl, _⟩ := h
    obtain ⟨xa, xc, rfl, _⟩ := hx
    obtain ⟨c1, hc1⟩ : ∃ c, c = (canR d q xs).1 := ⟨_, rfl⟩
    obtain ⟨c2, hc2⟩ : ∃ c, c = (canR d q xs).2 := ⟨_, rfl⟩
    rw [← hc1, ← hc2] at hc
    have C1 := hide hc1
    have C2 := hide hc2
    clear hc1 hc2
    cases c1 with
    | false =>
      go_enter Tryz.func153, Tryz.ntmps153
      go_wp2_with fail
      refine (canDecode_calls d q _ xs _ X.out).mono ?_
      rw [← C1.out, ← C2.out]
      rintro e w1 ⟨rfl, b⟩
      have B := hide b
      clear b
      go_wp2
      go_ret2
      exact ⟨_, rfl, Mat.nil _ _ _, B.out⟩
    | true =>
      cases c2 with
      | true => cases hc
      | false =>
        go_enter Tryz.func153, Tryz.ntmps153
        go_wp2_with fail
        refine (canDecode_calls d q _ xs _ X.out).mono ?_
        rw [← C1.out, ← C2.out]
        rintro e w1 ⟨rfl, b⟩
        have B := hide b
        clear b
        go_wp2
        go_ret2
        exact ⟨_, rfl, Mat.nil _ _ _, B.out⟩
  | true =>
    rw [Bool.and_eq_true] at hc
    obtain ⟨hc1, hc2⟩ := hc
    have C1 := hide hc1
    have C2 := hide hc2
    have hcan : codeOk d q = true := by
      cases e : codeOk d q with
      | true => rfl
      | false => simp [canR, canOk, e] at hc2
    obtain ⟨f1, f2, f3, f4⟩ := codeOk_facts hcan
    obtain ⟨D, rfl⟩ := Int.eq_ofNat_of_zero_le (show 0 ≤ d by omega)
    obtain ⟨Q, rfl⟩ := Int.eq_ofNat_of_zero_le (show 0 ≤ q by omega)
    clear hcan
    by_cases hml : m.length = D + Q
    case neg =>
      have e : decR D Q m xs = ([], false) := dec_no (by unfold decOk; rw [hc1, hc2, decide_eq_false (by omega)]; rfl)
      rw [e]
      clear e hc1 hc2
      obtain ⟨a, cap, rfl, _⟩ := h
      obtain ⟨xa, xc, rfl, _⟩ := hx
      have t1 : ((m.length : Int) != (D : Int) + (Q : Int)) = true := by simp; omega
      have t2 : ¬ (m.length : Int) = (D : Int) + (Q : Int) := by omega
      go_enter Tryz.func153, Tryz.ntmps153
      go_wp2_with fail
      refine (canDecode_calls D Q _ xs _ X.out).mono ?_
      rw [C1.out, C2.out]
      rintro e w1 ⟨rfl, b⟩
      have B := hide b
      clear b
      go_wp2
      go_ret2
      exact ⟨_, rfl, Mat.nil _ _ _, B.out⟩
    obtain ⟨N, hN⟩ : ∃ N, N = D + Q := ⟨_, rfl⟩
    have hmN : m.length = N := by omega
    have MN := hide hmN
    have t1 : ((N : Int) != (D : Int) + (Q : Int)) = false := by simp; omega
    have t2 : (N : Int) = (D : Int) + (Q : Int) := by omega
    have HN := hide hN
    have T2 := hide t2
    obtain ⟨a, cap, hv, _⟩ := h
    rw [hmN] at hv
    subst hv
    obtain ⟨xa, xc, rfl, _⟩ := hx
    have hN10 : N ≤ 10 := by omega
    cases hal : asLongOk m with
    | false =>
      have e : decR D Q m xs = ([], false) := dec_no (by unfold decOk; rw [PC.out, hal, Bool.and_false, Bool.and_false])
      rw [e]
      have AL := hide hal
      clear e hc1 hc2 hal hN t2 hmN hml
      go_enter Tryz.func153, Tryz.ntmps153
      go_wp2_with fail
      refine (canDecode_calls D Q _ xs _ X.out).mono ?_
      rw [C1.out, C2.out]
      rintro e w1 ⟨rfl, b⟩
      have B := hide b
      clear b
      go_wp2_with fail
      refine (areAsLong_calls _ m _ (R.out.below B.out)).mono ?_
      rw [AL.out]
      rintro e w2 ⟨rfl, b⟩
      have B2 := hide (B.out.trans (b.mono B.out.size))
      clear b
      go_wp2
      go_ret2
      exact ⟨_, rfl, Mat.nil _ _ _, B2.out⟩
    | true =>
      have hok : decOk D Q m xs = true := by unfold decOk; rw [hc1, hc2, PC.out, hal, decide_eq_true (by omega)]; rfl
      obtain ⟨D', Q', hD', hQ', hF⟩ := dec_open hok
      obtain rfl : D = D' := by omega
      obtain rfl : Q = Q' := by omega
      have e : decR D Q m xs = (decM D Q m xs, true) := by unfold decR; rw [if_pos hok, Int.toNat_natCast, Int.toNat_natCast]
      rw [e]
      obtain ⟨l, hl⟩ : ∃ l, l = (m.getD 0 []).length := ⟨_, rfl⟩
      rw [← hl] at hF
      have FF := hide hF
      have AL := hide hal
      have l32 := hF.l32
      have hxl : xs.length ≤ Q := hF.xl
      have hkl : D ≤ (those (kp xs) N).length := by rw [hN]; exact kept_length xs D Q hxl
      have hks := those_short (kp xs) N
      have KM : Hid (∀ k ∈ those (kp xs) N, k < m.length) := fun k hk => by rw [MN.out]; exact (Gf.those_mem.1 hk).1
      have RI : Hid (risesM xs (N : Int) = true) := by show _ = _; rw [HN.out]; exact hF.ris
      have FK : Hid ((those (kp xs) N).take D = firstF xs D Q) := by show _ = _; rw [HN.out]; rfl
      have FM : Hid (∀ k ∈ firstF xs D Q, k < D + Q) := fun k hk => (firstF_mem hk).1
      have FL : Hid ((firstF xs D Q).length = D) := firstF_length xs D Q hxl
      clear e hc1 hc2 hal hN t2 hmN hml hok hF hD' hQ' hl
      go_enter Tryz.func153, Tryz.ntmps153
      go_wp2_with fail
      refine (canDecode_calls D Q _ xs _ X.out).mono ?_
      rw [C1.out, C2.out]
      rintro e w1 ⟨rfl, b⟩
      have B1 := hide b
      clear b
      go_wp2_with fail
      refine (areAsLong_calls _ m _ (R.out.below B1.out)).mono ?_
      rw [AL.out]
      rintro e w2 ⟨rfl, b⟩
      have B2 := hide (B1.out.trans (b.mono B1.out.size))
      clear b B1
      go_wp2_with fail
      refine (notLost_calls N _ xs _ (X.out.below B2.out) RI.out (by omega) (by have := HN.out; omega)).mono ?_
      rintro e w3 ⟨kv, rfl, ok, b⟩
      have B3 := hide (B2.out.trans (b.mono B2.out.size))
      have K3 := hide ok.rd
      clear b ok B2
      go_wp2_with fail
      refine (rowsAt_calls _ _ m (those (kp xs) N) _ (R.out.below B3.out) K3.out (by omega) KM.out).mono ?_
      rintro e w4 ⟨v4, rfl, r4, b⟩
      have B4 := hide (B3.out.trans (b.mono B3.out.size))
      have K4 := hide (K3.out.below b)
      have R4 := hide r4
      clear b r4 B3 K3
      go_wp2_with fail
      refine (allEls_calls _ _ _ R4.out).mono ?_
      rw [sel_el EL.out KM.out]
      rintro e w5 ⟨rfl, rfl⟩
      obtain ⟨ka, kc, hkv, hk1, _⟩ := K4.out
      rw [Gf.ci_length] at hkv hk1
      subst hkv
      have i1 : (D : Int) ≤ (kc : Int) := by omega
      have K5 : Hid (Rd w4 (.slice ka D kc) (ci (firstF xs D Q))) := by
        have := rd_take2 K4.out D (by rw [Gf.ci_length]; exact hkl)
        rw [← FK.out]
        unfold ci at this ⊢
        rw [List.map_take]
        exact this
      clear R4 K4 hk1
      go_wp2_with fail
      refine (codeRows_calls D Q _ (Gf.Tab.below T.out B4.out) (by omega) (by omega) (by omega) (by omega)).mono ?_
      rintro e w6 ⟨v6, rfl, m6, b⟩
      have B6 := hide (B4.out.trans (b.mono B4.out.size))
      have K6 := hide (K5.out.below b)
      have R6 := hide m6.rd
      clear b m6 B4 K5
      go_wp2_with fail
      refine (rowsAt_calls _ _ (codeM D Q) (firstF xs D Q) _ R6.out K6.out (by rw [FL.out]; omega) (fun k hk => by rw [codeM_length]; exact FM.out k hk)).mono ?_
      rintro e w7 ⟨v7, rfl, r7, b⟩
      have B7 := hide (B6.out.trans (b.mono B6.out.size))
      have K7 := hide (K6.out.below b)
      have R7 : Hid (RdM w7 v7 (ciM (selM (codeN D Q) (firstF xs D Q)))) := by rw [← code_ciM, sel_ciM] at r7; exact r7
      clear b r7 B6 K6 R6
      go_wp2_with fail
      refine (rowsAt_calls _ _ m (firstF xs D Q) _ (R.out.below B7.out) K7.out (by rw [FL.out]; omega) (fun k hk => by rw [MN.out, HN.out]; exact FM.out k hk)).mono ?_
      rintro e w8 ⟨v8, rfl, r8, b⟩
      have B8 := hide (B7.out.trans (b.mono B7.out.size))
      have R8 : Hid (RdM w8 v8 (ciM (selM (m.map nat) (firstF xs D Q)))) := by
        rw [← sel_ciM, ciM_natM fun i hi => (piecesOk_at FF.out.ok i hi).2.2]; exact r8
      have R78 := hide (R7.out.below b)
      clear b r8 B7 K7 R7
      have SOL : Hid (Calls Tryz.prog 191 #[v7, v8] w8 fun e w' => ∃ v', e = .returned (.tuple #[v', .bool true]) ∧ Mat w' w8.heap.size w'.heap.size v' (ciM (decX D Q m xs)) ∧ Below w8.heap.size w8 w') := by
        have hs := FF.out.sol.1
        by_cases hl0 : l = 0
        · have sr := FF.out.shR
          rw [hl0] at sr
          have := solveRows0_calls v7 v8 _ _ D w8 (Gf.Tab.below T.out B8.out) R78.out R8.out FF.out.shA.1 sr (by omega) (by omega)
          rw [hs] at this
          exact this
        · have := solveRows_calls v7 v8 _ _ D l w8 (Gf.Tab.below T.out B8.out) R78.out R8.out FF.out.shA.1 FF.out.shR (by omega) (by omega) (by omega) (by omega)
          rw [hs] at this
          exact this
      go_wp2_with fail
      refine SOL.out.mono ?_
      rintro e w9 ⟨v9, rfl, m9, b⟩
      have B9 := hide (B8.out.trans (b.mono B8.out.size))
      have R9 := hide m9.rd
      have XL : Hid ((ciM (decX D Q m xs)).length = D) := by show _ = _; rw [Gf.ciM_length, FF.out.shX.len]
      clear b m9 B8 SOL R78 R8
      go_wp2_with fail
      refine (encode_calls _ (ciM (decX D Q m xs)) Q _ (Gf.Tab.below T.out B9.out) R9.out FF.out.okX (by rw [XL.out]; omega) (by rw [XL.out]; omega) (by omega) (by omega)).mono ?_
      rw [XL.out]
      rintro e w10 ⟨v10, rfl, m10, b⟩
      have B10 := hide (B9.out.trans (b.mono B9.out.size))
      have M10 := hide (m10.wider B9.out.size (Nat.le_refl _))
      clear b m10 B9
      go_wp2
      go_ret2
      exact ⟨_, rfl, M10.out, B10.out⟩

theorem kp_has (xs : List Int) (k : Nat) : kp xs k = !xs.contains (k : Int) := by
  unfold kp
  rw [List.contains_eq_mem]
  by_cases h : (k : Int) ∈ xs <;> simp [h]
theorem first_of {xs : List Int} {D Q k : Nat} (hxl : xs.length ≤ Q) (hk : k ≤ D + Q) (hl : (those (kp xs) k).length ≤ D) (h : k = D + Q ∨ (those (kp xs) k).length = D) : those (kp xs) k = firstF xs D Q := by
  have hd := kept_length xs D Q hxl
  rcases h with h | h
  · subst h
    unfold firstF
    rw [List.take_of_length_le hl]
  · obtain ⟨r, hr⟩ := Gf.those_prefix (kp xs) k (D + Q - k)
    rw [show k + (D + Q - k) = D + Q by omega] at hr
    unfold firstF
    rw [hr, List.take_append_of_le_length (by omega), List.take_of_length_le (by omega)]

set_option maxRecDepth 100000 in
set_option maxHeartbeats 3200000 in
theorem l3Decode_calls (D Q l : Nat) (v xv : Value) (m : List (List Int)) (xs : List Int) (w : World) (h : RdM w v m) (hx : Rd w xv xs) (hF : DecF D Q l m xs) :
    Calls Tryz.prog 150 #[.int .i64 D, .int .i64 Q, v, xv] w fun e w' => ∃ v', e = .returned v' ∧ Mat w' w.heap.size w'.heap.size v' (decM D Q m xs) ∧ Below w.heap.size w w' := by
  have R := hide h
  have X := hide hx
  have FF := hide hF
  have d1 := hF.d1
  have d6 := hF.d6
  have q1 := hF.q1
  have q4 := hF.q4
  have l32 := hF.l32
  have hxl := hF.xl
  obtain ⟨a, cap, rfl, _⟩ := h
  obtain ⟨xa, xc, rfl, _⟩ := hx
  have FM : Hid (∀ k ∈ firstF xs D Q, k < D + Q) := fun k hk => (firstF_mem hk).1
  have FL : Hid ((firstF xs D Q).length = D) := firstF_length xs D Q hxl
  clear hF
  go_enter Tryz.func150, Tryz.ntmps150
  go_wp2
  go_loopw [9, 10] (fun vt vi wr => ∃ k : Nat, k ≤ D + Q ∧ vi = .int .i64 k ∧ (those (kp xs) k).length ≤ D ∧ Own wr w.heap.size vt (ci (those (kp xs) k)) ∧ Below w.heap.size w wr) (fun _ vi _ => D + Q - (intOf vi).toNat)
  case atStart => exact ⟨0, Nat.zero_le _, rfl, Nat.zero_le _, World.ownsRow_nil _ _ _ _, Below.refl _ _⟩
  case round =>
    obtain ⟨k, hk, rfl, htl, ho, hb⟩ := hrel
    have O := hide ho
    have B := hide hb
    obtain ⟨ta, tc, hvt, _⟩ := ho.rd
    rw [Gf.ci_length] at hvt
    subst hvt
    obtain ⟨t, ht⟩ : ∃ t, t = (those (kp xs) k).length := ⟨_, rfl⟩
    rw [← ht] at htl O ⊢
    have HT := hide ht
    clear ho hb ht
    by_cases hlt : k < D + Q ∧ t < D
    · obtain ⟨h1, h2⟩ := hlt
      have h1' : (k : Int) < (D : Int) + (Q : Int) := by omega
      have h2' : (t : Int) < (D : Int) := by omega
      obtain ⟨c, hc⟩ : ∃ c, c = xs.contains (k : Int) := ⟨_, rfl⟩
      have HC := hide hc
      cases c with
      | true =>
        have NX : Hid (those (kp xs) (k + 1) = those (kp xs) k) := by
          show _ = _
          rw [Gf.those_succ, kp_has, ← HC.out]
          simp
        clear hc
        go_wp2_with fail
        refine (l1HasM_calls _ xs (k : Int) _ (X.out.below B.out)).mono ?_
        rw [← HC.out]
        rintro e w1 ⟨rfl, rfl⟩
        go_wp2
        go_roundw
        case rel => exact ⟨k + 1, by omega, by go_num, by rw [NX.out, ← HT.out]; exact htl, by rw [NX.out]; exact O.out, B.out⟩
        case measure => simp [intOf]; omega
      | false =>
        have NX : Hid (ci (those (kp xs) (k + 1)) = ci (those (kp xs) k) ++ [(k : Int)]) := by
          show _ = _
          rw [Gf.those_succ, kp_has, ← HC.out, Bool.not_false, if_pos rfl, ci_app]
          rfl
        have NL : Hid ((those (kp xs) (k + 1)).length ≤ D) := by
          show _ ≤ _
          rw [Gf.those_succ, kp_has, ← HC.out, Bool.not_false, if_pos rfl, List.length_append, ← HT.out, List.length_singleton]
          omega
        have O2 := hide (O.out.alloc (.cells #[.int .i64 (k : Int)] 3))
        have CL : Hid ((ci (those (kp xs) k)).length = t) := by show _ = _; rw [Gf.ci_length, ← HT.out]
        clear hc
        go_wp2_with fail
        refine (l1HasM_calls _ xs (k : Int) _ (X.out.below B.out)).mono ?_
        rw [← HC.out]
        rintro e w1 ⟨rfl, rfl⟩
        go_wp2_with (at_builtin; refine wpList_append_rd rfl (.tmp 30) (.tmp 32) rfl w.heap.size _ (ci (those (kp xs) k)).length (ci (those (kp xs) k)) [(k : Int)] rfl O2.out _ rfl rd_single (by rw [CL.out]; simp; omega) (by have := B.out.size; simp; omega) ?_)
        intro v' w5 ho5 hg5
        have low : ∀ i, (Value.slice ta t tc).ownBlock = some i → w.heap.size ≤ i := fun i hi => (O.out.lt i hi).1
        have B5 := hide ((B.out.alloc B.out.size _).grown hg5 (by have := B.out.size; simp; omega) low)
        have O6 := hide ho5
        clear ho5 hg5 low
        go_wp2
        go_roundw
        case rel => exact ⟨k + 1, by omega, by go_num, NL.out, by rw [NX.out]; exact O6.out, B5.out⟩
        case measure => simp [intOf]; omega
    · have TF : Hid (those (kp xs) k = firstF xs D Q) := first_of hxl hk (by rw [← HT.out]; exact htl) (by rw [← HT.out]; omega)
      have K1 : Hid (Rd wr (.slice ta t tc) (ci (firstF xs D Q))) := by rw [← TF.out]; exact O.out.rd
      have htD : t = D := by rw [HT.out, TF.out, FL.out]
      subst htD
      clear O HT TF
      by_cases hkk : (k : Int) < (t : Int) + (Q : Int)
      all_goals
        go_wp2_with fail
        refine (l3Matrix_calls t Q _ (by omega) (by omega) (by omega) (by omega)).mono ?_
        rintro e w2 ⟨v2, rfl, m2, b⟩
        have B2 := hide (B.out.trans (b.mono B.out.size))
        have K2 := hide (K1.out.below b)
        have R2 := hide m2.rd
        clear b m2
        go_wp2_with fail
        refine (l2Rows_calls _ _ (ci (firstF xs t Q)) (codeM t Q) _ K2.out R2.out (by rw [Gf.ci_length, FL.out]; omega) (fun i hi => by rw [Gf.ci_length] at hi; rw [Gf.ci_getD, codeM_length]; have := FM.out ((firstF xs t Q).getD i 0) (by rw [List.getD_eq_getElem?_getD, List.getElem?_eq_getElem hi]; exact List.getElem_mem hi); omega) (fun i => by
          by_cases hi : i < (codeM t Q).length
          · rw [(codeM_rows t Q i hi).1]; omega
          · rw [List.getD_eq_getElem?_getD, List.getElem?_eq_none (by omega)]; simp)).mono ?_
        rw [pick_sel]
        rintro e w3 ⟨v3, rfl, m3, b⟩
        have B3 := hide (B2.out.trans (b.mono B2.out.size))
        have K3 := hide (K2.out.below b)
        have R3 : Hid (RdM w3 v3 (ciM (selM (codeN t Q) (firstF xs t Q)))) := by have := m3.rd; rw [← code_ciM, sel_ciM] at this; exact this
        clear b m3 B2 K2 R2
        go_wp2_with fail
        refine (l2Invert_calls _ _ (selM (codeN t Q) (firstF xs t Q)) t _ R3.out rfl FF.out.shA.1 (by omega) (by omega)).mono ?_
        rw [FF.out.shA.2]
        rintro e w4 ⟨v4, rfl, m4, b⟩
        have B4 := hide (B3.out.trans (b.mono B3.out.size))
        have K4 := hide (K3.out.below b)
        have R4 := hide m4.rd
        clear b m4 B3 K3 R3
        go_wp2_with fail
        refine (l2Rows_calls _ _ (ci (firstF xs t Q)) m _ K4.out (R.out.below B4.out) (by rw [Gf.ci_length, FL.out]; omega) (fun i hi => by rw [Gf.ci_length] at hi; rw [Gf.ci_getD, FF.out.ml]; have := FM.out ((firstF xs t Q).getD i 0) (by rw [List.getD_eq_getElem?_getD, List.getElem?_eq_getElem hi]; exact List.getElem_mem hi); omega) (fun i => by
          by_cases hi : i < m.length
          · have := (piecesOk_at FF.out.ok i hi).2.1; omega
          · rw [List.getD_eq_getElem?_getD, List.getElem?_eq_none (by omega)]; simp)).mono ?_
        rw [pick_sel]
        rintro e w5 ⟨v5, rfl, m5, b⟩
        have B5 := hide (B4.out.trans (b.mono B4.out.size))
        have R45 := hide (R4.out.below b)
        have R5 : Hid (RdM w5 v5 (ciM (selM (m.map nat) (firstF xs t Q)))) := by
          rw [← sel_ciM, ciM_natM fun i hi => (piecesOk_at FF.out.ok i hi).2.2]; exact m5.rd
        have IS := hide (sol_sh FF.out.shA.1 (Gf.sh_ident t) FF.out.shA.2)
        have FI : Hid (Fit (ciM (solN (selM (codeN t Q) (firstF xs t Q)) (identN t)).1) (ciM (selM (m.map nat) (firstF xs t Q))) l) := by
          have s1 := IS.out
          have s2 := FF.out.shR
          refine ⟨?_, ?_, ?_, ?_, by omega, fun i hi => ?_, fun i hi => ?_⟩
          · rw [Gf.ciM_length, s1.len]; omega
          · rw [Gf.ciM_length, s1.len]; omega
          · rw [Gf.ciM_length, s2.len]; omega
          · rw [Gf.ciM_length, s2.len]; omega
          · rw [Gf.ciM_length, s1.len] at hi
            rw [Gf.ciM_get, Gf.ci_length, s1.row i hi, Gf.ciM_length, s2.len]
            exact ⟨rfl, elOk_lt (s1.lt i hi)⟩
          · rw [Gf.ciM_length, s2.len] at hi
            rw [Gf.ciM_get, Gf.ci_length, s2.row i hi]
            exact ⟨rfl, elOk_lt (s2.lt i hi)⟩
        have ME : Hid (mulM (ciM (solN (selM (codeN t Q) (firstF xs t Q)) (identN t)).1) (ciM (selM (m.map nat) (firstF xs t Q))) = ciM (decX t Q m xs)) := by
          show _ = _
          rw [mul_row IS.out FF.out.shR (by omega), FF.out.sol.2]
        clear b m5 B4 K4 R4
        go_wp2_with fail
        refine (l3Times_calls _ _ _ _ l _ R45.out R5.out FI.out).mono ?_
        rw [ME.out]
        rintro e w6 ⟨v6, rfl, m6, b⟩
        have B6 := hide (B5.out.trans (b.mono B5.out.size))
        have R6 := hide m6.rd
        have XL : Hid ((ciM (decX t Q m xs)).length = t) := by show _ = _; rw [Gf.ciM_length, FF.out.shX.len]
        clear b m6 B5 R45 R5 FI ME IS
        go_wp2_with fail
        refine (l3Encode_calls _ (ciM (decX t Q m xs)) Q _ R6.out FF.out.okX (by rw [XL.out]; omega) (by rw [XL.out]; omega) (by omega) (by omega)).mono ?_
        rw [XL.out]
        rintro e w7 ⟨v7, rfl, m7, b⟩
        have B7 := hide (B6.out.trans (b.mono B6.out.size))
        have M7 := hide (m7.wider B6.out.size (Nat.le_refl _))
        clear b m7 B6 R6
        go_wp2
        go_ret
        exact ⟨_, rfl, M7.out, B7.out⟩
end Go.Proofs.YtbgadbokejaomaaGreatDoor

namespace Go.Proofs.YtbgadbokejaomaaGreatDoor
open Go.RowKit
open Gf (ci nat amTo AllLt addRow)

structure UpdF (D Q K l : Nat) (m : List (List Int)) (p : List Int) : Prop where
  d1 : 1 ≤ D
  d2 : D ≤ 6
  q1 : 1 ≤ Q
  q2 : Q ≤ 4
  k1 : K < D
  ml : m.length = D + Q
  ok : piecesOk m = true
  l0 : (m.getD 0 []).length = l
  pl : p.length = l
  pe : p.all Gf.elOk = true
theorem UpdF.row {D Q K l : Nat} {m : List (List Int)} {p : List Int} (h : UpdF D Q K l m p) (i : Nat) (hi : i < m.length) : (m.getD i []).length = l ∧ l ≤ 32 ∧ (m.getD i []).all Gf.elOk = true := by
  have := piecesOk_at h.ok i hi
  rw [h.l0] at this
  exact ⟨this.1, by omega, this.2.2⟩
end Go.Proofs.YtbgadbokejaomaaGreatDoor

namespace Go.Proofs.YtbgadbokejaomaaGreatDoor
open Go.RowKit
open Gf (ci nat amTo AllLt addRow)

end Go.Proofs.YtbgadbokejaomaaGreatDoor

namespace Go.Proofs.YtbgadbokejaomaaGreatDoor
open Go.RowKit

end Go.Proofs.YtbgadbokejaomaaGreatDoor

namespace Go.Proofs.YtbgadbokejaomaaGreatDoor
open Go.RowKit

end Go.Proofs.YtbgadbokejaomaaGreatDoor

namespace Go.Proofs.YtbgadbokejaomaaGreatDoor
open Go.RowKit
open Gf

theorem take_get (m : List (List Int)) (D i : Nat) (h : i < D) : (m.take D).getD i [] = m.getD i [] := by
  simp [List.getD_eq_getElem?_getD, h]
theorem unl_zero (a b : List (List Int)) : ∀ n, unlTo a b n = 0 ↔ ∀ i, i < n → a.getD i [] = b.getD i [] := by
  intro n
  induction n with
  | zero => simp [unlTo]
  | succ n ih =>
    rw [unlTo]
    constructor
    · intro h i hi
      by_cases e : i = n
      · subst e
        by_cases e2 : a.getD i [] = b.getD i []
        · exact e2
        · rw [if_neg e2] at h; omega
      · exact ih.mp (by omega) i (by omega)
    · intro h
      rw [ih.mpr (fun i hi => h i (by omega)), if_pos (h n (by omega))]
end Go.Proofs.YtbgadbokejaomaaGreatDoor

namespace Go.Proofs.YtbgadbokejaomaaGreatDoor
open Go.RowKit
open Gf (ci nat ciM Sh AllLt invTo solN selM codeN those rowL identN elOk)

/-- A good code's data. -/
structure EncF (D Q l : Nat) (m : List (List Int)) : Prop where
  d1 : 1 ≤ D
  d6 : D ≤ 6
  q1 : 1 ≤ Q
  q4 : Q ≤ 4
  ml : m.length = D
  l0 : (m.getD 0 []).length = l
  l32 : l ≤ 32
  ok : piecesOk m = true
theorem EncF.shM {D Q l : Nat} {m : List (List Int)} (h : EncF D Q l m) : Sh (m.map nat) D l := by
  have := sh_pieces h.ok
  rw [h.ml, h.l0] at this
  exact this
theorem EncF.eq {D Q l : Nat} {m : List (List Int)} (h : EncF D Q l m) : mulM (codeM D Q) m = ciM ((codeN D Q).map (rowL (m.map nat) l D)) := by
  rw [← mul_row (Gf.sh_code D Q) h.shM (by have := h.d1; omega), code_ciM, ciM_natM fun i hi => (piecesOk_at h.ok i hi).2.2]
theorem EncF.shE {D Q l : Nat} {m : List (List Int)} (h : EncF D Q l m) : Sh ((codeN D Q).map (rowL (m.map nat) l D)) (D + Q) l := sh_mul (Gf.sh_code D Q) h.shM
theorem EncF.len {D Q l : Nat} {m : List (List Int)} (h : EncF D Q l m) : (mulM (codeM D Q) m).length = D + Q := by rw [h.eq, Gf.ciM_length, h.shE.len]
theorem EncF.pieces {D Q l : Nat} {m : List (List Int)} (h : EncF D Q l m) : piecesOk (mulM (codeM D Q) m) = true := by rw [h.eq]; exact pieces_sh h.shE h.l32
theorem EncF.row {D Q l : Nat} {m : List (List Int)} (h : EncF D Q l m) (k : Nat) (hk : k < D + Q) : ((mulM (codeM D Q) m).getD k []).length = l ∧ ((mulM (codeM D Q) m).getD k []).all elOk = true := by
  rw [h.eq, Gf.ciM_get, Gf.ci_length, h.shE.row k hk]
  exact ⟨rfl, elOk_lt (h.shE.lt k hk)⟩
theorem EncF.front {D Q l : Nat} {m : List (List Int)} (h : EncF D Q l m) : (mulM (codeM D Q) m).take D = m := by
  apply Gf.ext_getD []
  · rw [List.length_take, h.len, h.ml]; omega
  · intro k hk
    rw [List.length_take, h.len] at hk
    have hkD : k < D := by omega
    rw [take_get _ _ _ hkD, h.eq, Gf.ciM_get, Gf.map_get _ _ _ _ (by rw [(Gf.sh_code D Q).len]; omega), Gf.code_low hkD]
    have e := Gf.ident_row h.shM
    have e2 : ((identN D).map (rowL (m.map nat) l D)).getD k [] = (m.map nat).getD k [] := by rw [e]
    rw [Gf.map_get _ _ _ _ (by rw [(Gf.sh_ident D).len]; exact hkD), Gf.identN_get D k hkD, natM_get] at e2
    rw [e2, ci_nat (piecesOk_at h.ok k (by rw [h.ml]; exact hkD)).2.2]
theorem EncF.code {D Q l : Nat} {m : List (List Int)} (h : EncF D Q l m) : codeOk (D : Int) (Q : Int) = true := by
  have := h.d1; have := h.d6; have := h.q1; have := h.q4
  exact codeOk_yes (by omega)
theorem EncF.chk {D Q l : Nat} {m : List (List Int)} (h : EncF D Q l m) : chkR D Q (mulM (codeM D Q) m) = (true, true) := by
  have c1 : chkOk (D : Int) (Q : Int) (mulM (codeM D Q) m) = true := by
    simp only [chkOk, Bool.and_eq_true, decide_eq_true_eq]
    exact ⟨h.code, by rw [h.len]; omega, h.pieces⟩
  have e : encT D Q (mulM (codeM D Q) m) = mulM (codeM D Q) m := by unfold encT; rw [h.front]
  rw [chkR, if_pos c1, Int.toNat_natCast, Int.toNat_natCast, e, (unl_zero _ _ _).2 fun i _ => rfl]
  rfl

/-- A piece that is lost holds something else. -/
def spoil (ys : List Int) (k : Nat) (r : List Int) : List Int := if ys.contains (k : Int) then r.map (fun x => (x + 1 + (k : Int)) % 256) else r
def spM (E : List (List Int)) (ys : List Int) : List (List Int) := (List.range E.length).map fun k => spoil ys k (E.getD k [])
theorem spM_length (E : List (List Int)) (ys : List Int) : (spM E ys).length = E.length := by simp [spM]
theorem spM_get (E : List (List Int)) (ys : List Int) (k : Nat) (h : k < E.length) : (spM E ys).getD k [] = spoil ys k (E.getD k []) := by simp [spM, h]
theorem spoil_length (ys : List Int) (k : Nat) (r : List Int) : (spoil ys k r).length = r.length := by
  unfold spoil
  split
  · rw [List.length_map]
  · rfl
theorem spoil_el {ys : List Int} {k : Nat} {r : List Int} (h : r.all elOk = true) : (spoil ys k r).all elOk = true := by
  unfold spoil
  split
  · rw [List.all_eq_true]
    intro x hx
    obtain ⟨y, _, rfl⟩ := List.mem_map.1 hx
    exact Gf.elOk_iff.2 (by omega)
  · exact h
/-- What the second half of the law rests on: a code, and what was lost of it. -/
structure SpF (D Q l : Nat) (m : List (List Int)) (ys : List Int) : Prop where
  enc : EncF D Q l m
  ris : risesM ys ((D + Q : Nat) : Int) = true
  yl : ys.length ≤ Q
theorem SpF.row {D Q l : Nat} {m : List (List Int)} {ys : List Int} (h : SpF D Q l m ys) (k : Nat) (hk : k < D + Q) : ((spM (mulM (codeM D Q) m) ys).getD k []).length = l ∧ ((spM (mulM (codeM D Q) m) ys).getD k []).all elOk = true := by
  rw [spM_get _ _ _ (by rw [h.enc.len]; exact hk), spoil_length]
  exact ⟨(h.enc.row k hk).1, spoil_el (h.enc.row k hk).2⟩
theorem SpF.pieces {D Q l : Nat} {m : List (List Int)} {ys : List Int} (h : SpF D Q l m ys) : piecesOk (spM (mulM (codeM D Q) m) ys) = true := by
  refine piecesOk_yes fun i hi => ?_
  rw [spM_length, h.enc.len] at hi
  obtain ⟨r1, r2⟩ := h.row i hi
  obtain ⟨r3, _⟩ := h.row 0 (by omega)
  unfold pieceAt
  rw [r1, r2, r3, decide_eq_true ⟨rfl, h.enc.l32⟩]
  rfl
theorem SpF.all {D Q l : Nat} {m : List (List Int)} {ys : List Int} (h : SpF D Q l m ys) : (spM (mulM (codeM D Q) m) ys).all (fun r : List Int => r.all elOk) = true := by
  have := h.pieces
  unfold piecesOk at this
  rw [Bool.and_eq_true] at this
  exact this.2
theorem SpF.dec {D Q l : Nat} {m : List (List Int)} {ys : List Int} (h : SpF D Q l m ys) : DecF D Q l (spM (mulM (codeM D Q) m) ys) ys :=
  ⟨h.enc.d1, h.enc.d6, h.enc.q1, h.enc.q4, h.ris, h.yl, by rw [spM_length, h.enc.len], (h.row 0 (by have := h.enc.d1; omega)).1, h.enc.l32, h.pieces⟩
theorem SpF.kept {D Q l : Nat} {m : List (List Int)} {ys : List Int} (h : SpF D Q l m ys) (k : Nat) (hk : k < D + Q) (hy : (k : Int) ∉ ys) : (spM (mulM (codeM D Q) m) ys).getD k [] = (mulM (codeM D Q) m).getD k [] := by
  rw [spM_get _ _ _ (by rw [h.enc.len]; exact hk)]
  unfold spoil
  rw [List.contains_eq_mem, decide_eq_false hy]
  rfl
theorem SpF.back {D Q l : Nat} {m : List (List Int)} {ys : List Int} (h : SpF D Q l m ys) : decR D Q (spM (mulM (codeM D Q) m) ys) ys = (mulM (codeM D Q) m, true) := by
  have hc : canOk (D : Int) (Q : Int) ys = true := by
    unfold canOk
    rw [h.enc.code, Bool.true_and]
    have := h.ris
    rw [Int.natCast_add] at this
    exact this
  have hok : decOk (D : Int) (Q : Int) (spM (mulM (codeM D Q) m) ys) ys = true := by
    unfold decOk canR
    rw [if_pos hc, h.pieces, decide_eq_true (by have := h.yl; omega), decide_eq_true (by rw [spM_length, h.enc.len]; omega)]
    rfl
  unfold decR
  rw [if_pos hok, Int.toNat_natCast, Int.toNat_natCast, dec_code h.dec h.enc.ok h.enc.ml h.enc.l0 h.kept]
theorem SpF.chk {D Q l : Nat} {m : List (List Int)} {ys : List Int} (h : SpF D Q l m ys) (hl : 0 < l) (hy : 0 < ys.length) : chkR D Q (spM (mulM (codeM D Q) m) ys) = (false, true) := by
  have c1 : chkOk (D : Int) (Q : Int) (spM (mulM (codeM D Q) m) ys) = true := by
    simp only [chkOk, Bool.and_eq_true, decide_eq_true_eq]
    exact ⟨h.enc.code, by rw [spM_length, h.enc.len]; omega, h.pieces⟩
  rw [chkR, if_pos c1, Int.toNat_natCast, Int.toNat_natCast, spM_length, h.enc.len]
  congr 1
  refine decide_eq_false fun e => ?_
  have hz := (unl_zero _ _ _).1 (show unlTo (spM (mulM (codeM D Q) m) ys) (encT D Q (spM (mulM (codeM D Q) m) ys)) (D + Q) = 0 by omega)
  have d1 := h.enc.d1
  have hD : D ≤ (spM (mulM (codeM D Q) m) ys).length := by rw [spM_length, h.enc.len]; omega
  have t1 : piecesOk ((spM (mulM (codeM D Q) m) ys).take D) = true := pieces_take h.pieces D (by omega) hD
  have t2 : ((spM (mulM (codeM D Q) m) ys).take D).length = D := by rw [List.length_take]; omega
  have t3 : (((spM (mulM (codeM D Q) m) ys).take D).getD 0 []).length = l := by rw [take_get _ _ _ (by omega)]; exact (h.row 0 (by omega)).1
  have b1 := dec_back h.dec t1 t2 t3 (fun k hk _ => hz k hk)
  have b2 := dec_back h.dec h.enc.ok h.enc.ml h.enc.l0 h.kept
  have e1 : (spM (mulM (codeM D Q) m) ys).take D = m := by
    have := congrArg ciM (b1.symm.trans b2)
    rw [ciM_natM fun i hi => (piecesOk_at t1 i hi).2.2, ciM_natM fun i hi => (piecesOk_at h.enc.ok i hi).2.2] at this
    exact this
  obtain ⟨x, hx⟩ : ∃ x, x = ys.getD 0 0 := ⟨_, rfl⟩
  have hr := risesM_at h.ris 0 hy
  simp only [risAtM, decide_eq_true_eq] at hr
  rw [← hx] at hr
  obtain ⟨k, rfl⟩ := Int.eq_ofNat_of_zero_le hr.1
  have hk : k < D + Q := by omega
  have q4 := h.enc.q4
  have d6 := h.enc.d6
  have hs := hz k hk
  unfold encT at hs
  rw [e1, spM_get _ _ _ (by rw [h.enc.len]; exact hk)] at hs
  have hm : ys.contains ((k : Nat) : Int) = true := contains_at hy hx.symm
  unfold spoil at hs
  rw [if_pos hm] at hs
  have hrl := (h.enc.row k hk).1
  generalize (mulM (codeM D Q) m).getD k [] = r at hs hrl
  cases r with
  | nil => simp at hrl; omega
  | cons y r =>
    rw [List.map_cons, List.cons.injEq] at hs
    have := hs.1
    omega
end Go.Proofs.YtbgadbokejaomaaGreatDoor

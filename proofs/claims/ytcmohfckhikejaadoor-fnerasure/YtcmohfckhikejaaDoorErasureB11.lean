/-
  The law of erasure: at every two texts that can be read and are not too long the call returns true, and nothing that was there is written. The program's table of rests must hold its seven numbers. The law of erasure at every two texts that can be read: the call returns true, and nothing that was there is written. The program's table of rests must hold its seven numbers.
-/
import Derived.Test.YtcmohfckhikejaaDoorErasureB7
import Derived.Test.YtcmohfckhikejaaDoorErasureB9
import Derived.Test.YtcmohfckhikejaaDoorErasureB10
import Derived.Test.YtcmohfckhikejaaDoorErasureB0
namespace Go.Proofs.YtcmohfckhikejaaDoor
open Go.RowKit

theorem l32_of {D Q l : Nat} {m : List (List Int)} (h : EncF D Q l m) : l ≤ 32 := h.l32
/-- A lost piece, spoilt so far. -/
def spTo (k : Nat) (r : List Int) (j : Nat) : List Int := (r.take j).map (fun x => (x + 1 + (k : Int)) % 256) ++ r.drop j
theorem spTo_length (k : Nat) (r : List Int) (j : Nat) (h : j ≤ r.length) : (spTo k r j).length = r.length := by simp [spTo]; omega
theorem spTo_zero (k : Nat) (r : List Int) : spTo k r 0 = r := by simp [spTo]
theorem spTo_end (k : Nat) (r : List Int) : spTo k r r.length = r.map (fun x => (x + 1 + (k : Int)) % 256) := by simp [spTo]
theorem spTo_get (k : Nat) (r : List Int) (j : Nat) (h : j < r.length) : (spTo k r j).getD j 0 = r.getD j 0 := by
  unfold spTo
  rw [getD_app, List.length_map, List.length_take, Nat.min_eq_left (by omega), if_neg (by omega), Nat.sub_self]
  simp [List.getD_eq_getElem?_getD]
theorem spTo_step (k : Nat) (r : List Int) (j : Nat) (h : j < r.length) : (spTo k r j).set j ((r.getD j 0 + 1 + (k : Int)) % 256) = spTo k r (j + 1) := by
  unfold spTo
  have e1 : ((r.take j).map (fun x => (x + 1 + (k : Int)) % 256)).length = j := by rw [List.length_map, List.length_take]; omega
  rw [List.set_append_right _ _ (by omega), e1, Nat.sub_self, List.drop_eq_getElem_cons h, List.set_cons_zero, List.take_succ_eq_append_getElem h, List.map_append, List.append_assoc]
  simp [List.getD_eq_getElem?_getD, h]
theorem take_next (s : List (List Int)) (k : Nat) (h : k < s.length) : s.take (k + 1) = s.take k ++ [s.getD k []] := by
  rw [List.take_succ_eq_append_getElem h, List.getD_eq_getElem?_getD, List.getElem?_eq_getElem h]
  rfl

set_option maxRecDepth 100000 in
set_option maxHeartbeats 12800000 in
theorem fnErasure_core (cv mv : Value) (w : World) (hT : Gf.Tab w) (hc : RdB w cv) (hm : RdB w mv) (hlen : ∀ a n c a' n' c', cv = .slice a n c → mv = .slice a' n' c' → (n : Int) + (n' : Int) ≤ 1048576) :
    Calls Tryd.prog 3 #[cv, mv] w fun e w' => e = .returned (.bool true) ∧ Below w.heap.size w w' := by
  have HC := hide hc
  have HM := hide hm
  have T := hide hT
  have B := hide (Below.refl w.heap.size w)
  obtain ⟨ca, cc, cz, rfl, _, _, _⟩ := hc
  obtain ⟨ma, mc, mz, rfl, _, _, _⟩ := hm
  have hl := hlen _ _ _ _ _ _ rfl rfl
  have hl' : ¬ (1048576 : Int) < (cz.length : Int) + (mz.length : Int) := by omega
  clear hlen hT
  go_enter Tryd.func3, Tryd.ntmps3
  go_wp2_with fail
  refine (drawEncodePieces_calls _ _ HC.out).mono ?_
  rintro e wn ⟨q, dv, m, rfl, hm, hml, hq, b⟩
  have RM := hide hm
  clear hm HC
  replace T := hide (T.out.below b)
  replace HM := hide (HM.out.below b)
  replace B := hide (B.out.trans (b.mono B.out.size))
  clear b
  have EO := hide (@enc_open m q)
  obtain ⟨ok, hok⟩ : ∃ x, x = (encR m q).2 := ⟨_, rfl⟩
  obtain ⟨E, hE⟩ : ∃ x, x = (encR m q).1 := ⟨_, rfl⟩
  have E1 := hide hok
  have E2 := hide hE
  clear hok hE
  obtain ⟨da, dc, rfl, _, _, _⟩ := RM.out
  go_wp2_with fail
  refine (encodePieces_calls _ m q _ T.out RM.out).mono ?_
  rw [← E1.out, ← E2.out]
  rintro e wn ⟨lv, rfl, o1, b⟩
  have RL := hide o1.rd
  clear o1
  replace T := hide (T.out.below b)
  replace HM := hide (HM.out.below b)
  replace RM := hide (RM.out.below b)
  replace B := hide (B.out.trans (b.mono B.out.size))
  clear b
  go_wp2_with fail
  refine (sEncodePieces_calls _ m q _ RM.out).mono ?_
  rw [← E1.out, ← E2.out]
  rintro e wn ⟨wv, rfl, o2, b⟩
  have RW := hide o2.rd
  clear o2
  replace T := hide (T.out.below b)
  replace HM := hide (HM.out.below b)
  replace RM := hide (RM.out.below b)
  replace RL := hide (RL.out.below b)
  replace B := hide (B.out.trans (b.mono B.out.size))
  clear b
  have tw : (ok != ok) = false := by simp
  go_wp2_with fail
  refine (sameLists_same _ _ E _ RL.out RW.out).mono ?_
  rintro e wn ⟨rfl, b⟩
  replace T := hide (T.out.below b)
  replace HM := hide (HM.out.below b)
  replace RM := hide (RM.out.below b)
  replace RL := hide (RL.out.below b)
  replace RW := hide (RW.out.below b)
  replace B := hide (B.out.trans (b.mono B.out.size))
  clear b
  clear RW
  cases ok with
  | false =>
    clear EO E1 E2
    clear RM RL
    go_wp2_with fail
    refine (drawDecodePieces_calls _ _ HM.out).mono ?_
    rintro e wn ⟨d2, q2, v2, u2, m2, xs2, rfl, hm2, hx2, he2, b⟩
    have RM2 := hide hm2
    have RX2 := hide hx2
    have E2 := hide he2
    clear hm2 hx2 he2
    replace T := hide (T.out.below b)
    replace HM := hide (HM.out.below b)
    replace B := hide (B.out.trans (b.mono B.out.size))
    clear b
    obtain ⟨g1, hg1⟩ : ∃ x, x = (decR d2 q2 m2 xs2).1 := ⟨_, rfl⟩
    obtain ⟨g2, hg2⟩ : ∃ x, x = (decR d2 q2 m2 xs2).2 := ⟨_, rfl⟩
    have N1 := hide hg1
    have N2 := hide hg2
    clear hg1 hg2
    go_wp2_with fail
    refine (decodePieces_calls d2 q2 _ _ m2 xs2 _ T.out RM2.out RX2.out E2.out).mono ?_
    rw [← N1.out, ← N2.out]
    rintro e wn ⟨a1, rfl, o1, b⟩
    have RA1 := hide o1.rd
    clear o1
    replace T := hide (T.out.below b)
    replace HM := hide (HM.out.below b)
    replace RM2 := hide (RM2.out.below b)
    replace RX2 := hide (RX2.out.below b)
    replace B := hide (B.out.trans (b.mono B.out.size))
    clear b
    go_wp2_with fail
    refine (sDecodePieces_calls d2 q2 _ _ m2 xs2 _ RM2.out RX2.out).mono ?_
    rw [← N1.out, ← N2.out]
    rintro e wn ⟨a2, rfl, o2, b⟩
    have RA2 := hide o2.rd
    clear o2
    replace T := hide (T.out.below b)
    replace HM := hide (HM.out.below b)
    replace RM2 := hide (RM2.out.below b)
    replace RX2 := hide (RX2.out.below b)
    replace RA1 := hide (RA1.out.below b)
    replace B := hide (B.out.trans (b.mono B.out.size))
    clear b
    clear RM2 RX2 N1 N2 E2
    go_wp2_with fail
    refine (drawCodeMatrix_calls _ _ HM.out).mono ?_
    rintro e wn ⟨c3, p3, rfl, b⟩
    replace T := hide (T.out.below b)
    replace HM := hide (HM.out.below b)
    replace RA1 := hide (RA1.out.below b)
    replace RA2 := hide (RA2.out.below b)
    replace B := hide (B.out.trans (b.mono B.out.size))
    clear b
    obtain ⟨h1, hh1⟩ : ∃ x, x = (codeR c3 p3).1 := ⟨_, rfl⟩
    obtain ⟨h2, hh2⟩ : ∃ x, x = (codeR c3 p3).2 := ⟨_, rfl⟩
    have N1 := hide hh1
    have N2 := hide hh2
    clear hh1 hh2
    go_wp2_with fail
    refine (codeMatrix_calls c3 p3 _ T.out).mono ?_
    rw [← N1.out, ← N2.out]
    rintro e wn ⟨b1, rfl, o1, b⟩
    have RB1 := hide o1.rd
    clear o1
    replace T := hide (T.out.below b)
    replace HM := hide (HM.out.below b)
    replace RA1 := hide (RA1.out.below b)
    replace RA2 := hide (RA2.out.below b)
    replace B := hide (B.out.trans (b.mono B.out.size))
    clear b
    go_wp2_with fail
    refine (sCodeMatrix_calls c3 p3 _).mono ?_
    rw [← N1.out, ← N2.out]
    rintro e wn ⟨b2, rfl, o2, b⟩
    have RB2 := hide o2.rd
    clear o2
    replace T := hide (T.out.below b)
    replace HM := hide (HM.out.below b)
    replace RA1 := hide (RA1.out.below b)
    replace RA2 := hide (RA2.out.below b)
    replace RB1 := hide (RB1.out.below b)
    replace B := hide (B.out.trans (b.mono B.out.size))
    clear b
    have t1 : (g2 == g2) = true := by simp
    have t2 : (h2 == h2) = true := by simp
    go_wp2_with fail
    refine (sameLists_same _ _ g1 _ RA1.out RA2.out).mono ?_
    rintro e wn ⟨rfl, b⟩
    replace T := hide (T.out.below b)
    replace HM := hide (HM.out.below b)
    replace RA1 := hide (RA1.out.below b)
    replace RA2 := hide (RA2.out.below b)
    replace RB1 := hide (RB1.out.below b)
    replace RB2 := hide (RB2.out.below b)
    replace B := hide (B.out.trans (b.mono B.out.size))
    clear b
    go_wp2_with fail
    refine (sameLists_same _ _ h1 _ RB1.out RB2.out).mono ?_
    rintro e wn ⟨rfl, b⟩
    replace T := hide (T.out.below b)
    replace HM := hide (HM.out.below b)
    replace RA1 := hide (RA1.out.below b)
    replace RA2 := hide (RA2.out.below b)
    replace RB1 := hide (RB1.out.below b)
    replace RB2 := hide (RB2.out.below b)
    replace B := hide (B.out.trans (b.mono B.out.size))
    clear b
    go_wp2
    go_ret
    exact ⟨rfl, B.out⟩
  | true =>
    obtain ⟨hF, hEE⟩ := EO.out E1.out.symm
    rw [hEE] at E2
    obtain ⟨D, hD⟩ : ∃ D, D = m.length := ⟨_, rfl⟩
    obtain ⟨l, hl0⟩ : ∃ l, l = (m.getD 0 []).length := ⟨_, rfl⟩
    rw [← hD, ← hl0] at hF
    rw [← hD] at E2 hml RM ⊢
    have DL := hide hD
    have L0 := hide hl0
    have FF := hide hF
    have q4 := hF.q4
    have d1 := hF.d1
    have d6 := hF.d6
    have l32 := hF.l32
    obtain ⟨N, hN⟩ : ∃ N, N = D + q := ⟨_, rfl⟩
    have hEl : E.length = N := by rw [E2.out, hN]; exact hF.len
    have EL := hide hEl
    have CK : Hid (chkR D q E = (true, true)) := by show _ = _; rw [E2.out]; exact hF.chk
    have TK : Hid (E.take D = m) := by show _ = _; rw [E2.out]; exact hF.front
    have HN := hide hN
    have n10 : N ≤ 10 := by omega
    have hDN : D ≤ N := by omega
    have t5 : ((N : Int) != (D : Int) + (q : Int)) = false := by simp; omega
    obtain ⟨la, lc, hlv, hlc1, _, _⟩ := RL.out
    rw [hEl] at hlv hlc1
    subst hlv
    have i5 : (D : Int) ≤ (lc : Int) := by omega
    clear EO E1 hEE hF hD hl0 hN hEl hlc1
    go_wp2_with fail
    refine (checkPieces_calls D q _ E _ T.out RL.out).mono ?_
    rw [CK.out]
    rintro e wn ⟨rfl, b⟩
    replace T := hide (T.out.below b)
    replace HM := hide (HM.out.below b)
    replace RM := hide (RM.out.below b)
    replace RL := hide (RL.out.below b)
    replace B := hide (B.out.trans (b.mono B.out.size))
    clear b
    have RT := hide (rdM_take RL.out D (by rw [EL.out]; exact hDN))
    rw [TK.out] at RT
    go_wp2_with fail
    refine (sameLists_same _ _ m _ RT.out RM.out).mono ?_
    rintro e wn ⟨rfl, b⟩
    clear RT
    replace T := hide (T.out.below b)
    replace HM := hide (HM.out.below b)
    replace RM := hide (RM.out.below b)
    replace RL := hide (RL.out.below b)
    replace B := hide (B.out.trans (b.mono B.out.size))
    clear b
    obtain ⟨W1, rfl⟩ : ∃ W, W = wn := ⟨_, rfl⟩
    go_wp2
    go_loopw [14, 104] (fun vt vi wr => ∃ (k : Nat) (ys : List Int), k ≤ N ∧ vi = .int .i64 k ∧ (ys.length ≤ q ∧ rises ys (k : Int) = true) ∧ Own wr W1.heap.size vt ys ∧ Below W1.heap.size W1 wr) (fun _ vi _ => N - (intOf vi).toNat)
    case atStart => exact ⟨0, [], Nat.zero_le _, rfl, ⟨Nat.zero_le _, rfl⟩, World.ownsRow_nil _ _ _ _, Below.refl _ _⟩
    case round =>
      obtain ⟨k, ys, hk, rfl, ⟨hyl, hyr⟩, ho, hb⟩ := hrel
      have O := hide ho
      have B1 := hide hb
      have YR := hide hyr
      obtain ⟨ta, tc, rfl, _⟩ := ho.rd
      clear ho hb hyr
      by_cases hlt : k < N
      · have hlt' : (k : Int) < (N : Int) := by omega
        by_cases hyq : ys.length < q
        · have hyq' : (ys.length : Int) < (q : Int) := by omega
          have O2 := hide (O.out.alloc (.cells #[.int .i64 (k : Int)] 3))
          go_wp2_with fail
          refine (numberOf_calls _ _ (HM.out.below B1.out)).mono ?_
          rintro e wn ⟨nn, hnn, rfl, rfl⟩
          obtain ⟨tb, htb⟩ : ∃ tb, tb = (bits .and .i64 ((nn : Int) / 2 ^ k) 1 == 1) := ⟨_, rfl⟩
          cases tb with
          | true =>
            have htb' := htb.symm
            clear htb
            go_wp2_with (at_builtin; refine wpList_append_rd rfl (.tmp 120) (.tmp 122) rfl W1.heap.size _ ys.length ys [(k : Int)] rfl O2.out _ rfl rd_single (by simp; omega) (by have := B1.out.size; simp; omega) ?_)
            intro v' w5 ho5 hg5
            have low : ∀ i, (Value.slice ta ys.length tc).ownBlock = some i → W1.heap.size ≤ i := fun i hi => (O.out.lt i hi).1
            have B5 := hide ((B1.out.alloc B1.out.size _).grown hg5 (by have := B1.out.size; simp; omega) low)
            have O6 := hide ho5
            clear ho5 hg5 low
            go_wp2
            go_roundw
            case rel => exact ⟨k + 1, ys ++ [(k : Int)], by omega, by go_num, ⟨by simp; omega, rises_snoc YR.out⟩, O6.out, B5.out⟩
            case measure => simp [intOf]; omega
          | false =>
            have htb' := htb.symm
            clear htb
            go_wp2
            go_roundw
            case rel => exact ⟨k + 1, ys, by omega, by go_num, ⟨hyl, rises_next YR.out⟩, O.out, B1.out⟩
            case measure => simp [intOf]; omega
        · have hyq' : ¬ (ys.length : Int) < (q : Int) := by omega
          go_wp2
          go_roundw
          case rel => exact ⟨k + 1, ys, by omega, by go_num, ⟨hyl, rises_next YR.out⟩, O.out, B1.out⟩
          case measure => simp [intOf]; omega
      · obtain rfl : k = N := by omega
        have b := B1.out
        have RY := hide O.out.rd
        clear B1 O
        replace T := hide (T.out.below b)
        replace HM := hide (HM.out.below b)
        replace RM := hide (RM.out.below b)
        replace RL := hide (RL.out.below b)
        replace B := hide (B.out.trans (b.mono B.out.size))
        clear b
        have SP : Hid (SpF D q l m ys) := ⟨FF.out, by rw [← HN.out]; exact YR.out, hyl⟩
        obtain ⟨S, hS⟩ : ∃ S, S = spM E ys := ⟨_, rfl⟩
        have HS := hide hS
        have SL : Hid (S.length = k) := by show _ = _; rw [hS, spM_length, EL.out]
        have SG : Hid (∀ j, j < k → S.getD j [] = spoil ys j (E.getD j [])) := fun j hj => by rw [hS]; exact spM_get E ys j (by rw [EL.out]; exact hj)
        have ER : Hid (∀ j, j < k → (E.getD j []).length = l ∧ (E.getD j []).all Gf.elOk = true) := fun j hj => by rw [E2.out]; exact FF.out.row j (by rw [← HN.out]; exact hj)
        clear hS YR
        obtain ⟨W2, rfl⟩ : ∃ W, W = wr := ⟨_, rfl⟩
        go_wp2
        go_loopw [16, 127] (fun vt vi wr => ∃ (j : Nat) (vs : List Value), j ≤ k ∧ vi = .int .i64 j ∧ MatV wr W2.heap.size wr.heap.size vt vs (S.take j) ∧ Below W2.heap.size W2 wr) (fun _ vi _ => k - (intOf vi).toNat)
        case atStart =>
          obtain ⟨vs, hv⟩ := Mat.nil W2 W2.heap.size W2.heap.size
          exact ⟨0, vs, Nat.zero_le _, rfl, by rw [List.take_zero]; exact hv, Below.refl _ _⟩
        case round =>
          obtain ⟨j, vs, hj, rfl, hM, hb⟩ := hrel
          have M := hide hM
          have B2 := hide hb
          clear hM hb
          obtain ⟨vt, hvt⟩ : ∃ vt, vt = u16 := ⟨_, rfl⟩
          subst hvt
          by_cases hlt2 : j < k
          · have hlt2' : (j : Int) < (k : Int) := by omega
            obtain ⟨W3, rfl⟩ : ∃ W, W = wr := ⟨_, rfl⟩
            obtain ⟨lb, lo, lu, rfl, hlb, hlc, hlu⟩ := (RL.out.below B2.out).rowAt j (by rw [EL.out]; exact hlt2)
            obtain ⟨r, hr⟩ : ∃ r, r = E.getD j [] := ⟨_, rfl⟩
            rw [← hr] at hlu
            have hrl : r.length = l := by rw [hr]; exact (ER.out j hlt2).1
            have hre : r.all Gf.elOk = true := by rw [hr]; exact (ER.out j hlt2).2
            have HR := hide hr
            have RLn := hide hrl
            have RE := hide hre
            have LU : Hid (Rd (W3.alloc (.cells #[] 3)) lu r) := hlu.below ((Below.refl _ _).alloc (Nat.le_refl _) _)
            obtain ⟨ra, rc, hru, _⟩ := hlu
            rw [hrl] at hru
            subst hru
            have OO : Hid (Own (W3.alloc (.cells #[] 3)) W3.heap.size (.slice (some ⟨W3.heap.size, 0, none⟩) 0 0) []) := World.ownsRow_lit W3 #[] 0 (Nat.le_refl _) (by decide) (by rfl)
            clear hr hrl hre
            go_wp2_with (at_builtin; refine wpList_append_rd rfl (.tmp 130) (.tmp 134) rfl W3.heap.size _ 0 [] r rfl OO.out _ rfl LU.out (by rw [RLn.out]; omega) (by simp) ?_)
            intro v5 w5 ho5 hg5
            have hb5 : Below W3.heap.size W3 w5 := ((Below.refl W3.heap.size W3).alloc (Nat.le_refl _) _).grown hg5 (by simp) (fun i hi => by cases hi; exact Nat.le_refl _)
            have ho5 : Own w5 W3.heap.size v5 r := ho5
            have O5 := hide ho5
            have B5 := hide hb5
            obtain ⟨pa, pc, hpv, _⟩ := ho5.rd
            rw [RLn.out] at hpv
            subst hpv
            clear ho5 hg5 hb5
            obtain ⟨c, hc⟩ : ∃ c, c = ys.contains (j : Int) := ⟨_, rfl⟩
            have HCt := hide hc
            clear hc
            go_wp2
            go_loopw [138] (fun vj wr => ∃ t : Nat, t ≤ l ∧ vj = .int .i64 t ∧ Own wr W3.heap.size (.slice pa l pc) (if c then spTo j r t else r) ∧ Below W3.heap.size W3 wr) (fun vj _ => l - (intOf vj).toNat)
            case atStart =>
              refine ⟨0, Nat.zero_le _, rfl, ?_, B5.out⟩
              rw [spTo_zero]
              cases c <;> exact O5.out
            case round =>
              obtain ⟨t, ht, rfl, ho, hb⟩ := hrel
              have O := hide ho
              have B6 := hide hb
              clear ho hb
              by_cases hltt : t < l
              · have hltt' : (t : Int) < (l : Int) := by omega
                cases c with
                | false =>
                  go_wp2_with fail
                  refine (has_calls _ ys (j : Int) _ (RY.out.below (B2.out.trans (B6.out.mono B2.out.size)))).mono ?_
                  rw [← HCt.out]
                  rintro e wn ⟨rfl, rfl⟩
                  go_wp2
                  go_roundw
                  case rel => exact ⟨t + 1, by omega, by go_num, O.out, B6.out⟩
                  case measure => simp [intOf]; omega
                | true =>
                  have htr : t < r.length := by rw [RLn.out]; exact hltt
                  have hoo : Own wr W3.heap.size (.slice pa l pc) (spTo j r t) := O.out
                  have hsl : (spTo j r t).length = r.length := spTo_length j r t (by omega)
                  obtain ⟨pg, pcap, hpe, plo, _⟩ := hoo.open1 (by rw [hsl]; omega)
                  simp only [Value.slice.injEq] at hpe
                  obtain ⟨rfl, hq0, rfl⟩ := hpe
                  clear hq0
                  obtain ⟨hf1, hf2⟩ := hoo.at t (by rw [hsl]; exact htr)
                  rw [spTo_get j r t htr] at hf2
                  obtain ⟨y, hy⟩ : ∃ y, y = r.getD t 0 := ⟨_, rfl⟩
                  have hyb : 0 ≤ y ∧ y ≤ 255 := by rw [hy]; exact Gf.elOk_iff.1 (List.all_eq_true.1 RE.out _ (by rw [List.getD_eq_getElem?_getD, List.getElem?_eq_getElem htr]; exact List.getElem_mem htr))
                  rw [← hy] at hf2
                  have OP := hide (hoo.put t ((y + 1 + (j : Int)) % 256))
                  have OS : Hid ((spTo j r t).set t ((y + 1 + (j : Int)) % 256) = spTo j r (t + 1)) := by show _ = _; rw [hy]; exact spTo_step j r t htr
                  have PL := hide plo
                  obtain ⟨hy0, hy1⟩ := hyb
                  clear hy hoo hsl plo htr
                  go_wp2_with fail
                  refine (has_calls _ ys (j : Int) _ (RY.out.below (B2.out.trans (B6.out.mono B2.out.size)))).mono ?_
                  rw [← HCt.out]
                  rintro e wn ⟨rfl, rfl⟩
                  go_wp2
                  go_roundw
                  case rel =>
                    refine ⟨t + 1, by omega, by go_num, ?_, B6.out.grown OP.out.2 B6.out.size (fun i hi => by cases hi; exact PL.out)⟩
                    have := OP.out.1
                    rw [OS.out] at this
                    exact this
                  case measure => simp [intOf]; omega
              · obtain rfl : t = l := by omega
                have SR : Hid ((if c then spTo j r t else r) = S.getD j []) := by
                  show _ = _
                  rw [SG.out j hlt2, ← HR.out]
                  unfold spoil
                  rw [← HCt.out]
                  cases c with
                  | false => rfl
                  | true =>
                    have := spTo_end j r
                    rw [RLn.out] at this
                    exact this
                have ho := O.out
                rw [SR.out] at ho
                have s1 := B6.out.size
                have hM2 := (M.out.below B6.out).below ((Below.refl wr.heap.size wr).alloc (Nat.le_refl _) (.cells #[.slice pa t pc] 31))
                have hS2 := mat_single ho s1
                have M2 := hide hM2
                have S2 := hide hS2
                have s0 := B2.out.size
                have low : Hid (∀ b, vt.ownBlock = some b → W2.heap.size ≤ b) := fun b hb => (World.ownsRow.lt hM2.head b hb).1
                have TN : Hid (S.take (j + 1) = S.take j ++ [S.getD j []]) := take_next S j (by rw [SL.out]; exact hlt2)
                have TL : Hid ((S.take j).length = j) := by show _ = _; rw [List.length_take, SL.out]; omega
                clear ho hM2 hS2
                go_wp2_with (at_builtin; refine wpList_append_mat rfl (.tmp 156) (.tmp 158) rfl W2.heap.size W2.heap.size W3.heap.size W3.heap.size (wr.heap.size + 1) _ _ vs [.slice pa t pc] (S.take j) [S.getD j []] rfl rfl M2.out S2.out (Nat.le_refl _) s0 (.inl (Nat.le_refl _)) (by simp) (by simp; omega) (by simp) (by rw [TL.out]; omega) (by simp) (by simp; omega) ?_)
                intro v7 w7 hm7 hg7
                have hb7 : Below W2.heap.size W2 w7 := ((B2.out.trans (B6.out.mono B2.out.size)).alloc (by omega) _).grown hg7 (by simp; omega) low.out
                have M7 := hide hm7
                have B7 := hide hb7
                clear hm7 hg7 hb7
                go_wp2
                go_roundw
                case rel => exact ⟨j + 1, _, by omega, by go_num, by rw [TN.out]; exact M7.out, B7.out⟩
                case measure => simp [intOf]; omega
          · obtain rfl : j = k := by omega
            have b := B2.out
            have RS : Hid (RdM wr vt S) := by
              have := M.out.rd
              rw [List.take_of_length_le (by rw [SL.out]; exact Nat.le_refl _)] at this
              exact this
            clear B2 M
            replace T := hide (T.out.below b)
            replace HM := hide (HM.out.below b)
            replace RM := hide (RM.out.below b)
            replace RL := hide (RL.out.below b)
            replace RY := hide (RY.out.below b)
            replace B := hide (B.out.trans (b.mono B.out.size))
            clear b
            have DK : Hid (decR D q S ys = (E, true)) := by show _ = _; rw [HS.out, E2.out]; exact SP.out.back
            have SE : Hid (S.all (fun r : List Int => r.all Gf.elOk) = true) := by show _ = _; rw [HS.out, E2.out]; exact SP.out.all
            have CF : Hid (0 < l → 0 < ys.length → chkR D q S = (false, true)) := fun h1 h2 => by rw [HS.out, E2.out]; exact SP.out.chk h1 h2
            obtain ⟨db, do_, du, rfl, hdb, hdc, hdu⟩ := RM.out.rowAt 0 (by rw [← DL.out]; omega)
            rw [Nat.add_zero] at hdc
            obtain ⟨ua, uc, hdv, _⟩ := hdu
            rw [← L0.out] at hdv
            subst hdv
            obtain ⟨W4, rfl⟩ : ∃ W, W = wr := ⟨_, rfl⟩
            clear SG ER SL HS SP EL CK TK E2
            go_wp2_with fail
            refine (decodePieces_calls D q _ _ S ys _ T.out RS.out RY.out SE.out).mono ?_
            rw [DK.out]
            rintro e wn ⟨bv, rfl, ob, b⟩
            have RB := hide ob.rd
            have BD := hide b
            clear ob
            replace T := hide (T.out.below b)
            replace HM := hide (HM.out.below b)
            replace RM := hide (RM.out.below b)
            replace RL := hide (RL.out.below b)
            replace RY := hide (RY.out.below b)
            replace RS := hide (RS.out.below b)
            replace B := hide (B.out.trans (b.mono B.out.size))
            clear b
            go_wp2_with fail
            refine (sameLists_same _ _ E _ RB.out RL.out).mono ?_
            rintro e wn ⟨rfl, b⟩
            have hdc2 : wn.cell? ⟨db, do_, none⟩ = some (.slice ua l uc) := ((BD.out.trans (b.mono BD.out.size)).cell (p := ⟨db, do_, none⟩) hdb).trans hdc
            clear BD hdc hdb
            replace T := hide (T.out.below b)
            replace HM := hide (HM.out.below b)
            replace RM := hide (RM.out.below b)
            replace RL := hide (RL.out.below b)
            replace RY := hide (RY.out.below b)
            replace RS := hide (RS.out.below b)
            replace RB := hide (RB.out.below b)
            replace B := hide (B.out.trans (b.mono B.out.size))
            clear b
            clear RB RL
            have d0 : (0 : Int) < (D : Int) := by omega
            by_cases hl0 : 0 < l
            · have hl0' : (0 : Int) < (l : Int) := by omega
              by_cases hy0 : 0 < ys.length
              · have hy0' : (0 : Int) < (ys.length : Int) := by omega
                go_wp2_with fail
                refine (checkPieces_calls D q _ S _ T.out RS.out).mono ?_
                rw [CF.out hl0 hy0]
                rintro e wn ⟨rfl, b⟩
                replace T := hide (T.out.below b)
                replace HM := hide (HM.out.below b)
                replace RM := hide (RM.out.below b)
                replace RY := hide (RY.out.below b)
                replace RS := hide (RS.out.below b)
                replace B := hide (B.out.trans (b.mono B.out.size))
                clear b
                clear RM RY RS
                go_wp2_with fail
                refine (drawDecodePieces_calls _ _ HM.out).mono ?_
                rintro e wn ⟨d2, q2, v2, u2, m2, xs2, rfl, hm2, hx2, he2, b⟩
                have RM2 := hide hm2
                have RX2 := hide hx2
                have E2 := hide he2
                clear hm2 hx2 he2
                replace T := hide (T.out.below b)
                replace HM := hide (HM.out.below b)
                replace B := hide (B.out.trans (b.mono B.out.size))
                clear b
                obtain ⟨g1, hg1⟩ : ∃ x, x = (decR d2 q2 m2 xs2).1 := ⟨_, rfl⟩
                obtain ⟨g2, hg2⟩ : ∃ x, x = (decR d2 q2 m2 xs2).2 := ⟨_, rfl⟩
                have N1 := hide hg1
                have N2 := hide hg2
                clear hg1 hg2
                go_wp2_with fail
                refine (decodePieces_calls d2 q2 _ _ m2 xs2 _ T.out RM2.out RX2.out E2.out).mono ?_
                rw [← N1.out, ← N2.out]
                rintro e wn ⟨a1, rfl, o1, b⟩
                have RA1 := hide o1.rd
                clear o1
                replace T := hide (T.out.below b)
                replace HM := hide (HM.out.below b)
                replace RM2 := hide (RM2.out.below b)
                replace RX2 := hide (RX2.out.below b)
                replace B := hide (B.out.trans (b.mono B.out.size))
                clear b
                go_wp2_with fail
                refine (sDecodePieces_calls d2 q2 _ _ m2 xs2 _ RM2.out RX2.out).mono ?_
                rw [← N1.out, ← N2.out]
                rintro e wn ⟨a2, rfl, o2, b⟩
                have RA2 := hide o2.rd
                clear o2
                replace T := hide (T.out.below b)
                replace HM := hide (HM.out.below b)
                replace RM2 := hide (RM2.out.below b)
                replace RX2 := hide (RX2.out.below b)
                replace RA1 := hide (RA1.out.below b)
                replace B := hide (B.out.trans (b.mono B.out.size))
                clear b
                clear RM2 RX2 N1 N2 E2
                go_wp2_with fail
                refine (drawCodeMatrix_calls _ _ HM.out).mono ?_
                rintro e wn ⟨c3, p3, rfl, b⟩
                replace T := hide (T.out.below b)
                replace HM := hide (HM.out.below b)
                replace RA1 := hide (RA1.out.below b)
                replace RA2 := hide (RA2.out.below b)
                replace B := hide (B.out.trans (b.mono B.out.size))
                clear b
                obtain ⟨h1, hh1⟩ : ∃ x, x = (codeR c3 p3).1 := ⟨_, rfl⟩
                obtain ⟨h2, hh2⟩ : ∃ x, x = (codeR c3 p3).2 := ⟨_, rfl⟩
                have N1 := hide hh1
                have N2 := hide hh2
                clear hh1 hh2
                go_wp2_with fail
                refine (codeMatrix_calls c3 p3 _ T.out).mono ?_
                rw [← N1.out, ← N2.out]
                rintro e wn ⟨b1, rfl, o1, b⟩
                have RB1 := hide o1.rd
                clear o1
                replace T := hide (T.out.below b)
                replace HM := hide (HM.out.below b)
                replace RA1 := hide (RA1.out.below b)
                replace RA2 := hide (RA2.out.below b)
                replace B := hide (B.out.trans (b.mono B.out.size))
                clear b
                go_wp2_with fail
                refine (sCodeMatrix_calls c3 p3 _).mono ?_
                rw [← N1.out, ← N2.out]
                rintro e wn ⟨b2, rfl, o2, b⟩
                have RB2 := hide o2.rd
                clear o2
                replace T := hide (T.out.below b)
                replace HM := hide (HM.out.below b)
                replace RA1 := hide (RA1.out.below b)
                replace RA2 := hide (RA2.out.below b)
                replace RB1 := hide (RB1.out.below b)
                replace B := hide (B.out.trans (b.mono B.out.size))
                clear b
                have t1 : (g2 == g2) = true := by simp
                have t2 : (h2 == h2) = true := by simp
                go_wp2_with fail
                refine (sameLists_same _ _ g1 _ RA1.out RA2.out).mono ?_
                rintro e wn ⟨rfl, b⟩
                replace T := hide (T.out.below b)
                replace HM := hide (HM.out.below b)
                replace RA1 := hide (RA1.out.below b)
                replace RA2 := hide (RA2.out.below b)
                replace RB1 := hide (RB1.out.below b)
                replace RB2 := hide (RB2.out.below b)
                replace B := hide (B.out.trans (b.mono B.out.size))
                clear b
                go_wp2_with fail
                refine (sameLists_same _ _ h1 _ RB1.out RB2.out).mono ?_
                rintro e wn ⟨rfl, b⟩
                replace T := hide (T.out.below b)
                replace HM := hide (HM.out.below b)
                replace RA1 := hide (RA1.out.below b)
                replace RA2 := hide (RA2.out.below b)
                replace RB1 := hide (RB1.out.below b)
                replace RB2 := hide (RB2.out.below b)
                replace B := hide (B.out.trans (b.mono B.out.size))
                clear b
                go_wp2
                go_ret
                exact ⟨rfl, B.out⟩
              · have hy0' : ¬ (0 : Int) < (ys.length : Int) := by omega
                clear RM RY RS
                go_wp2_with fail
                refine (drawDecodePieces_calls _ _ HM.out).mono ?_
                rintro e wn ⟨d2, q2, v2, u2, m2, xs2, rfl, hm2, hx2, he2, b⟩
                have RM2 := hide hm2
                have RX2 := hide hx2
                have E2 := hide he2
                clear hm2 hx2 he2
                replace T := hide (T.out.below b)
                replace HM := hide (HM.out.below b)
                replace B := hide (B.out.trans (b.mono B.out.size))
                clear b
                obtain ⟨g1, hg1⟩ : ∃ x, x = (decR d2 q2 m2 xs2).1 := ⟨_, rfl⟩
                obtain ⟨g2, hg2⟩ : ∃ x, x = (decR d2 q2 m2 xs2).2 := ⟨_, rfl⟩
                have N1 := hide hg1
                have N2 := hide hg2
                clear hg1 hg2
                go_wp2_with fail
                refine (decodePieces_calls d2 q2 _ _ m2 xs2 _ T.out RM2.out RX2.out E2.out).mono ?_
                rw [← N1.out, ← N2.out]
                rintro e wn ⟨a1, rfl, o1, b⟩
                have RA1 := hide o1.rd
                clear o1
                replace T := hide (T.out.below b)
                replace HM := hide (HM.out.below b)
                replace RM2 := hide (RM2.out.below b)
                replace RX2 := hide (RX2.out.below b)
                replace B := hide (B.out.trans (b.mono B.out.size))
                clear b
                go_wp2_with fail
                refine (sDecodePieces_calls d2 q2 _ _ m2 xs2 _ RM2.out RX2.out).mono ?_
                rw [← N1.out, ← N2.out]
                rintro e wn ⟨a2, rfl, o2, b⟩
                have RA2 := hide o2.rd
                clear o2
                replace T := hide (T.out.below b)
                replace HM := hide (HM.out.below b)
                replace RM2 := hide (RM2.out.below b)
                replace RX2 := hide (RX2.out.below b)
                replace RA1 := hide (RA1.out.below b)
                replace B := hide (B.out.trans (b.mono B.out.size))
                clear b
                clear RM2 RX2 N1 N2 E2
                go_wp2_with fail
                refine (drawCodeMatrix_calls _ _ HM.out).mono ?_
                rintro e wn ⟨c3, p3, rfl, b⟩
                replace T := hide (T.out.below b)
                replace HM := hide (HM.out.below b)
                replace RA1 := hide (RA1.out.below b)
                replace RA2 := hide (RA2.out.below b)
                replace B := hide (B.out.trans (b.mono B.out.size))
                clear b
                obtain ⟨h1, hh1⟩ : ∃ x, x = (codeR c3 p3).1 := ⟨_, rfl⟩
                obtain ⟨h2, hh2⟩ : ∃ x, x = (codeR c3 p3).2 := ⟨_, rfl⟩
                have N1 := hide hh1
                have N2 := hide hh2
                clear hh1 hh2
                go_wp2_with fail
                refine (codeMatrix_calls c3 p3 _ T.out).mono ?_
                rw [← N1.out, ← N2.out]
                rintro e wn ⟨b1, rfl, o1, b⟩
                have RB1 := hide o1.rd
                clear o1
                replace T := hide (T.out.below b)
                replace HM := hide (HM.out.below b)
                replace RA1 := hide (RA1.out.below b)
                replace RA2 := hide (RA2.out.below b)
                replace B := hide (B.out.trans (b.mono B.out.size))
                clear b
                go_wp2_with fail
                refine (sCodeMatrix_calls c3 p3 _).mono ?_
                rw [← N1.out, ← N2.out]
                rintro e wn ⟨b2, rfl, o2, b⟩
                have RB2 := hide o2.rd
                clear o2
                replace T := hide (T.out.below b)
                replace HM := hide (HM.out.below b)
                replace RA1 := hide (RA1.out.below b)
                replace RA2 := hide (RA2.out.below b)
                replace RB1 := hide (RB1.out.below b)
                replace B := hide (B.out.trans (b.mono B.out.size))
                clear b
                have t1 : (g2 == g2) = true := by simp
                have t2 : (h2 == h2) = true := by simp
                go_wp2_with fail
                refine (sameLists_same _ _ g1 _ RA1.out RA2.out).mono ?_
                rintro e wn ⟨rfl, b⟩
                replace T := hide (T.out.below b)
                replace HM := hide (HM.out.below b)
                replace RA1 := hide (RA1.out.below b)
                replace RA2 := hide (RA2.out.below b)
                replace RB1 := hide (RB1.out.below b)
                replace RB2 := hide (RB2.out.below b)
                replace B := hide (B.out.trans (b.mono B.out.size))
                clear b
                go_wp2_with fail
                refine (sameLists_same _ _ h1 _ RB1.out RB2.out).mono ?_
                rintro e wn ⟨rfl, b⟩
                replace T := hide (T.out.below b)
                replace HM := hide (HM.out.below b)
                replace RA1 := hide (RA1.out.below b)
                replace RA2 := hide (RA2.out.below b)
                replace RB1 := hide (RB1.out.below b)
                replace RB2 := hide (RB2.out.below b)
                replace B := hide (B.out.trans (b.mono B.out.size))
                clear b
                go_wp2
                go_ret
                exact ⟨rfl, B.out⟩
            · have hl0' : ¬ (0 : Int) < (l : Int) := by omega
              clear RM RY RS
              go_wp2_with fail
              refine (drawDecodePieces_calls _ _ HM.out).mono ?_
              rintro e wn ⟨d2, q2, v2, u2, m2, xs2, rfl, hm2, hx2, he2, b⟩
              have RM2 := hide hm2
              have RX2 := hide hx2
              have E2 := hide he2
              clear hm2 hx2 he2
              replace T := hide (T.out.below b)
              replace HM := hide (HM.out.below b)
              replace B := hide (B.out.trans (b.mono B.out.size))
              clear b
              obtain ⟨g1, hg1⟩ : ∃ x, x = (decR d2 q2 m2 xs2).1 := ⟨_, rfl⟩
              obtain ⟨g2, hg2⟩ : ∃ x, x = (decR d2 q2 m2 xs2).2 := ⟨_, rfl⟩
              have N1 := hide hg1
              have N2 := hide hg2
              clear hg1 hg2
              go_wp2_with fail
              refine (decodePieces_calls d2 q2 _ _ m2 xs2 _ T.out RM2.out RX2.out E2.out).mono ?_
              rw [← N1.out, ← N2.out]
              rintro e wn ⟨a1, rfl, o1, b⟩
              have RA1 := hide o1.rd
              clear o1
              replace T := hide (T.out.below b)
              replace HM := hide (HM.out.below b)
              replace RM2 := hide (RM2.out.below b)
              replace RX2 := hide (RX2.out.below b)
              replace B := hide (B.out.trans (b.mono B.out.size))
              clear b
              go_wp2_with fail
              refine (sDecodePieces_calls d2 q2 _ _ m2 xs2 _ RM2.out RX2.out).mono ?_
              rw [← N1.out, ← N2.out]
              rintro e wn ⟨a2, rfl, o2, b⟩
              have RA2 := hide o2.rd
              clear o2
              replace T := hide (T.out.below b)
              replace HM := hide (HM.out.below b)
              replace RM2 := hide (RM2.out.below b)
              replace RX2 := hide (RX2.out.below b)
              replace RA1 := hide (RA1.out.below b)
              replace B := hide (B.out.trans (b.mono B.out.size))
              clear b
              clear RM2 RX2 N1 N2 E2
              go_wp2_with fail
              refine (drawCodeMatrix_calls _ _ HM.out).mono ?_
              rintro e wn ⟨c3, p3, rfl, b⟩
              replace T := hide (T.out.below b)
              replace HM := hide (HM.out.below b)
              replace RA1 := hide (RA1.out.below b)
              replace RA2 := hide (RA2.out.below b)
              replace B := hide (B.out.trans (b.mono B.out.size))
              clear b
              obtain ⟨h1, hh1⟩ : ∃ x, x = (codeR c3 p3).1 := ⟨_, rfl⟩
              obtain ⟨h2, hh2⟩ : ∃ x, x = (codeR c3 p3).2 := ⟨_, rfl⟩
              have N1 := hide hh1
              have N2 := hide hh2
              clear hh1 hh2
              go_wp2_with fail
              refine (codeMatrix_calls c3 p3 _ T.out).mono ?_
              rw [← N1.out, ← N2.out]
              rintro e wn ⟨b1, rfl, o1, b⟩
              have RB1 := hide o1.rd
              clear o1
              replace T := hide (T.out.below b)
              replace HM := hide (HM.out.below b)
              replace RA1 := hide (RA1.out.below b)
              replace RA2 := hide (RA2.out.below b)
              replace B := hide (B.out.trans (b.mono B.out.size))
              clear b
              go_wp2_with fail
              refine (sCodeMatrix_calls c3 p3 _).mono ?_
              rw [← N1.out, ← N2.out]
              rintro e wn ⟨b2, rfl, o2, b⟩
              have RB2 := hide o2.rd
              clear o2
              replace T := hide (T.out.below b)
              replace HM := hide (HM.out.below b)
              replace RA1 := hide (RA1.out.below b)
              replace RA2 := hide (RA2.out.below b)
              replace RB1 := hide (RB1.out.below b)
              replace B := hide (B.out.trans (b.mono B.out.size))
              clear b
              have t1 : (g2 == g2) = true := by simp
              have t2 : (h2 == h2) = true := by simp
              go_wp2_with fail
              refine (sameLists_same _ _ g1 _ RA1.out RA2.out).mono ?_
              rintro e wn ⟨rfl, b⟩
              replace T := hide (T.out.below b)
              replace HM := hide (HM.out.below b)
              replace RA1 := hide (RA1.out.below b)
              replace RA2 := hide (RA2.out.below b)
              replace RB1 := hide (RB1.out.below b)
              replace RB2 := hide (RB2.out.below b)
              replace B := hide (B.out.trans (b.mono B.out.size))
              clear b
              go_wp2_with fail
              refine (sameLists_same _ _ h1 _ RB1.out RB2.out).mono ?_
              rintro e wn ⟨rfl, b⟩
              replace T := hide (T.out.below b)
              replace HM := hide (HM.out.below b)
              replace RA1 := hide (RA1.out.below b)
              replace RA2 := hide (RA2.out.below b)
              replace RB1 := hide (RB1.out.below b)
              replace RB2 := hide (RB2.out.below b)
              replace B := hide (B.out.trans (b.mono B.out.size))
              clear b
              go_wp2
              go_ret
              exact ⟨rfl, B.out⟩
end Go.Proofs.YtcmohfckhikejaaDoor

namespace Go.Proofs.YtcmohfckhikejaaDoor
open Go.RowKit

theorem IsRow.rdbErasure {w : World} {a : Option Addr} {len cap : Nat} {zs : List Int} (h : Frame.IsRow .u8 w a len cap zs) (hb : len ≤ 140737488351232) : RdB w (.slice a len cap) := by
  rcases h with ⟨rfl, rfl, rfl, rfl⟩ | ⟨⟨b, off, sp⟩, rfl, hl, hm, hz, hc, hwf⟩
  · exact ⟨none, 0, [], rfl, by simp, fun i => by simp, .inl rfl⟩
  · have bd : ∀ n ∈ zs, 0 ≤ n ∧ n ≤ 255 := by
      intro n hn
      have := hwf n hn
      simp [Lit.wf, IntKind.min, IntKind.max, IntKind.signed, IntKind.bits] at this
      omega
    have el : ((zs.take len).map Int.toNat).length = len := by rw [List.length_map, List.length_take]; omega
    refine ⟨_, cap, (zs.take len).map Int.toNat, by rw [el], by rw [el]; omega, ?_, ?_⟩
    · intro i
      simp only [List.getD_eq_getElem?_getD, List.getElem?_map, List.getElem?_take]
      split
      · cases hx : zs[i]? with
        | none => simp
        | some n => have := bd n (List.mem_of_getElem? hx); simp; omega
      · simp
    · by_cases h0 : len = 0
      · left
        subst h0
        simp
      · right
        have h00 := hc 0 (by omega)
        obtain rfl : sp = none := by simpa [Addr.add] using World.cell?_spot h00
        refine ⟨b, off, rfl, ?_, ?_⟩
        · have : w.cell? ⟨b, off, none⟩ = some (.int .u8 (zs.getD 0 0)) := by simpa [Addr.add] using h00
          unfold World.cell? at this
          cases hh : w.heap[b]? with
          | none => simp [hh] at this
          | some o => exact (Array.getElem?_eq_some_iff.1 hh).1
        · intro i hi
          rw [el] at hi
          have := hc i (by omega)
          have hadd : (⟨b, off, none⟩ : Addr).add i = ⟨b, off + i, none⟩ := by unfold Addr.add; split <;> simp_all
          rw [hadd] at this
          rw [this]
          have hiz : i < zs.length := by omega
          have hn := bd zs[i] (List.getElem_mem hiz)
          simp only [List.getD_eq_getElem?_getD, List.getElem?_map, List.getElem?_take, if_pos hi, List.getElem?_eq_getElem hiz, Option.map_some, Option.getD_some]
          congr 2
          omega

set_option maxRecDepth 100000 in
set_option maxHeartbeats 800000 in
theorem fnErasure_walk (a : Option Addr) (len cap : Nat) (zs : List Int) (a' : Option Addr) (len' cap' : Nat) (zs' : List Int) (w : World) (hT : Gf.Tab w) (h0 : Frame.IsRow .u8 w a len cap zs) (h1 : Frame.IsRow .u8 w a' len' cap' zs') (b0 : len ≤ 140737488351232) (b1 : len' ≤ 140737488351232) :
    Calls Tryd.prog 3 #[.slice a len cap, .slice a' len' cap'] w fun e w' => e = .returned (.bool true) ∧ Below w.heap.size w w' := by
  by_cases h : (len : Int) + (len' : Int) ≤ 1048576
  · refine fnErasure_core _ _ w hT (IsRow.rdbErasure h0 b0) (IsRow.rdbErasure h1 b1) ?_
    intro _ n _ _ n' _ e e'
    simp only [Value.slice.injEq] at e e'
    omega
  · have h' : (1048576 : Int) < (len : Int) + (len' : Int) := by omega
    clear h hT h0 h1
    go_enter Tryd.func3, Tryd.ntmps3
    go_wp2
    go_ret
    exact ⟨rfl, Below.refl _ _⟩
end Go.Proofs.YtcmohfckhikejaaDoor

/-
  The shortest rule of syndromes: the model's l4Locator and LocatorOf, call by call. No condition.
-/
import Derived.Test.YtogopakmebiomaaDoorSLoc
namespace Go.Proofs.YtogopakmebiomaaDoor
open Go.RowKit
namespace Gf

set_option maxRecDepth 100000 in
set_option maxHeartbeats 6400000 in
theorem l4Locator_calls (v : Value) (s : List Nat) (w : World) (h : Rd w v (ci s)) (hs : AllLt s) (hn : s.length ≤ 6) :
    Calls Tryd.prog 82 #[v] w fun e w' => ∃ v', e = .returned v' ∧ Own w' w.heap.size v' (ci (locN s)) ∧ Below w.heap.size w w' := by
  have R := hide h
  obtain ⟨a, cap, rfl, _, _, _⟩ := h
  simp only [ci_length]
  obtain ⟨L, hL⟩ : ∃ L, L = locN s := ⟨_, rfl⟩
  rw [← hL]
  have HL : Hid (cutNl (smTo s s.length).c = L) := by rw [hL]; exact loc_same hs
  have SL := hide hs
  clear hs hL
  go_enter Tryd.func82, Tryd.ntmps82
  go_wp2
  go_loopw [3, 4, 5, 6, 7, 16] (fun vc vb vg vm vl vk wr => ∃ (k : Nat) (q : Bm), k ≤ s.length ∧ q = smTo s k ∧ vk = .int .i64 k ∧ vl = .int .i64 (q.last : Nat) ∧ vm = .int .i64 (q.m : Nat) ∧ vg = .int .i64 (q.long : Nat) ∧ Rd wr vc (ci q.c) ∧ Rd wr vb (ci q.b) ∧ Below w.heap.size w wr) (fun _ _ _ _ _ vk _ => s.length - (intOf vk).toNat)
  case atStart =>
    refine ⟨0, smTo s 0, Nat.zero_le _, rfl, rfl, rfl, rfl, rfl, ?_, ?_, ((Below.refl _ _).alloc (Nat.le_refl _) _).alloc (by simp) _⟩
    · exact Rd.below rd_single4 ((Below.refl _ _).alloc (Nat.le_refl _) _)
    · have := rd_single4 (w := w.alloc (.cells #[.int .i64 1] 3)) (z := 1)
      have e : (w.alloc (.cells #[.int .i64 1] 3)).heap.size = w.heap.size + 1 := by simp
      rw [e] at this
      exact this
  case round =>
    obtain ⟨k, q, hk, hq, rfl, rfl, rfl, rfl, hrc, hrb, hb⟩ := hrel
    have RC := hide hrc
    have RB := hide hrb
    have B := hide hb
    have Q := hide hq
    have IV : Hid (SmI k q) := by rw [hq]; exact sm_inv s k
    clear hrb hb hq
    by_cases hlt : k < s.length
    · have hlt' : (k : Int) < (s.length : Int) := by omega
      obtain ⟨ca, cc, rfl, _, _, _⟩ := hrc
      have RC2 : Hid (Rd wr (.slice ca q.c.length cc) (ci q.c)) := by have := RC.out; rwa [ci_length] at this
      simp only [ci_length]
      have hlk := IV.out.lk
      have hlc := IV.out.lc
      have hlc2 := IV.out.lc2
      have hlb := IV.out.lb
      have hm1 := IV.out.m1
      obtain ⟨J, hJ⟩ : ∃ J, J = min (q.long + 1) q.c.length := ⟨_, rfl⟩
      have hJ1 : J ≤ q.long + 1 := by omega
      have hJ2 : J ≤ q.c.length := by omega
      have hJ3 : ∀ i, ¬ i < J → i ≤ J → q.long < i ∨ q.c.length ≤ i := by omega
      have HJ3 := hide hJ3
      have HJ := hide hJ
      have CL := hide IV.out.cl
      obtain ⟨WR, rfl⟩ : ∃ W, W = wr := ⟨_, rfl⟩
      clear RC hJ hJ3
      go_wp2
      go_loopw [9, 10] (fun vd vi wx => ∃ i : Nat, i ≤ J ∧ vi = .int .i64 i ∧ vd = .int .i64 (dsc (fn q.c) (fn s) k i : Nat) ∧ Below WR.heap.size WR wx) (fun _ vi _ => J - (intOf vi).toNat)
      case atStart => exact ⟨0, Nat.zero_le _, rfl, rfl, Below.refl _ _⟩
      case round =>
        obtain ⟨i, hi, rfl, rfl, hbx⟩ := hrel
        have BX := hide hbx
        clear hbx
        by_cases hil : i < J
        · have g1 : (i : Int) ≤ (q.long : Int) := by omega
          have g2 : (i : Int) < (q.c.length : Int) := by omega
          have e1 : ((k : Int) - (i : Int)).toNat = k - i := by omega
          have h01 : (0 : Int) ≤ (k : Int) - (i : Int) := by omega
          have h02 : (k : Int) - (i : Int) < (s.length : Int) := by omega
          have i4 : IntKind.i64.wrap ((k : Int) - (i : Int)) = (k : Int) - (i : Int) := by rw [wrap_i64]; omega
          obtain ⟨b1, o1, rfl, hc1⟩ := Rd.rowN (RC2.out.below BX.out) i (by omega)
          obtain ⟨b2, o2, rfl, hc2⟩ := Rd.rowN ((R.out.below B.out).below BX.out) (k - i) (by omega)
          obtain ⟨x, hx⟩ : ∃ x, x = q.c.getD i 0 := ⟨_, rfl⟩
          obtain ⟨y, hy⟩ : ∃ y, y = s.getD (k - i) 0 := ⟨_, rfl⟩
          have hx256 : x < 256 := by rw [hx]; exact CL.out i
          have hy256 : y < 256 := by rw [hy]; exact SL.out _
          obtain ⟨d, hd⟩ : ∃ d, d = dsc (fn q.c) (fn s) k i := ⟨_, rfl⟩
          have hd256 : d < 256 := by rw [hd]; exact dsc_lt CL.out i
          have D : Hid (dsc (fn q.c) (fn s) k (i + 1) = d ^^^ mul x y) := by rw [hd, hx, hy]; rfl
          rw [← hx] at hc1
          rw [← hy] at hc2
          rw [← hd]
          have hm256 := mul_lt (a := x) (b := y) hx256
          have MU : Hid (∀ m, Calls Tryd.prog 128 #[.int .i64 (x : Nat), .int .i64 (y : Nat)] (wr.drewN m) fun e w' => e = .returned (.int .i64 (mul x y : Nat)) ∧ wr.drewN m = w') := fun m => by
            have := l1Mul_calls (x : Nat) (y : Nat) (wr.drewN m) (by omega) (by omega) (by omega) (by omega)
            simp only [Int.toNat_natCast] at this
            exact this
          clear hx hy hd
          go_wp2
          go_quiet ((go_at_call 128; exact quiet_same (MU.out _)))
          clear i4 e1 h01 h02
          go_wp2
          go_roundw
          case rel => exact ⟨i + 1, by omega, by go_num, by rw [D.out, i64_xor _ _ (by omega) (by omega)], below_drewN BX.out _⟩
          case measure => simp [intOf]; omega
        · obtain rfl : i = J := by omega
          obtain ⟨d, hd⟩ : ∃ d, d = smD s k q := ⟨_, rfl⟩
          have hd2 : dsc (fn q.c) (fn s) k i = d := by rw [hd, HJ.out]; rfl
          rw [hd2]
          have hd256 : d < 256 := by rw [hd]; exact smD_lt CL.out
          have DD := hide hd
          have B2 := hide (B.out.trans (BX.out.mono B.out.size))
          have RC3 := hide (RC2.out.below BX.out)
          have RB3 := hide (RB.out.below BX.out)
          have TEST : Hid (((i : Int) ≤ (q.long : Int) ∧ ¬ (i : Int) < (q.c.length : Int)) ∨ ¬ (i : Int) ≤ (q.long : Int)) := by
            show _ ∨ _
            rcases HJ3.out i (Nat.lt_irrefl _) (Nat.le_refl _) with h | h <;> omega
          clear hd hd2 RC2 RB B HJ3 hil hi hJ1 hJ2
          have hll := IV.out.ll
          by_cases hd0 : d = 0
          · have td : (((d : Nat) : Int) == 0) = true := by simp [hd0]
            have NX : Hid (smTo s (k + 1) = ⟨q.c, q.b, q.last, q.m + 1, q.long⟩) := by
              rw [smTo, ← Q.out]
              unfold smStep
              rw [← DD.out, if_pos hd0]
              exact hide rfl
            clear hd0
            rcases TEST.out with ⟨g1, g2⟩ | g1
            all_goals
              go_wp2
              go_roundw
              case rel =>
                refine ⟨k + 1, smTo s (k + 1), by omega, rfl, by go_num, ?_, ?_, ?_, ?_, ?_, B2.out⟩
                · rw [NX.out]
                · rw [NX.out]; go_num
                · rw [NX.out]
                · rw [NX.out]; exact RC3.out
                · rw [NX.out]; exact RB3.out
              case measure => simp [intOf]; omega
          · have td : (((d : Nat) : Int) == 0) = false := by simp [hd0]
            have HD0 := hide hd0
            have hi := inv_lt q.last
            obtain ⟨F, hF⟩ : ∃ F, F = mul d (inv q.last) := ⟨_, rfl⟩
            have hF256 : F < 256 := by rw [hF]; exact mul_lt hd256
            obtain ⟨C, hC⟩ : ∃ C, C = smAdd q.c q.b F q.m := ⟨_, rfl⟩
            have HF := hide hF
            have HC := hide hC
            have DV : Hid (∀ w2, Calls Tryd.prog 127 #[.int .i64 (d : Nat), .int .i64 (q.last : Nat)] w2 fun e w' => e = .returned (.int .i64 (F : Nat)) ∧ w2 = w') := fun w2 => by
              have := l1Div_calls (d : Nat) (q.last : Nat) w2 (by omega) (by omega) (by omega) (by omega)
              simp only [Int.toNat_natCast] at this
              rw [hF]
              exact this
            have BLt := hide IV.out.bl
            have hcn : q.c.length ≤ 64 := by omega
            have hbn : q.b.length ≤ 64 := by omega
            have hmn : q.m ≤ 64 := by omega
            clear hd0 hF hC hi
            have AD : Hid (Calls Tryd.prog 131 #[.slice ca q.c.length cc, u4, .int .i64 (F : Nat), .int .i64 (q.m : Nat)] wr fun e w' => ∃ v', e = .returned v' ∧ Own w' wr.heap.size v' (ci C) ∧ Below wr.heap.size wr w') := by
              rw [HC.out]
              exact l4Add_calls _ _ q.c q.b F q.m wr RC3.out RB3.out CL.out BLt.out hF256 hcn hbn hmn hm1
            by_cases h2 : 2 * q.long ≤ k
            · have h2' : 2 * (q.long : Int) ≤ (k : Int) := by omega
              have NX : Hid (smTo s (k + 1) = ⟨C, q.c, d, 1, k + 1 - q.long⟩) := by
                rw [smTo, ← Q.out]
                unfold smStep
                rw [← DD.out, if_neg HD0.out, if_pos h2, HC.out, HF.out]
                exact hide rfl
              rcases TEST.out with ⟨g1, g2⟩ | g1
              all_goals
                go_wp2_with (first
                  | (go_at_call 127; refine (DV.out _).mono ?_; rintro e w' ⟨rfl, rfl⟩)
                  | (go_at_call 131; refine AD.out.mono ?_; rintro e w3 ⟨v3, rfl, o3, b3⟩))
                have O3 := hide o3.rd
                have B3 := hide (B2.out.trans (b3.mono B2.out.size))
                have RC4 := hide (RC3.out.below b3)
                clear o3 b3
                go_roundw
                case rel =>
                  refine ⟨k + 1, smTo s (k + 1), by omega, rfl, by go_num, ?_, ?_, ?_, ?_, ?_, B3.out⟩
                  · rw [NX.out]
                  · rw [NX.out]; rfl
                  · rw [NX.out]; show _ = Value.int .i64 ((k + 1 - q.long : Nat) : Int); congr 1; omega
                  · rw [NX.out]; exact O3.out
                  · rw [NX.out]; exact RC4.out
                case measure => simp [intOf]; omega
            · have h2' : ¬ 2 * (q.long : Int) ≤ (k : Int) := by omega
              have NX : Hid (smTo s (k + 1) = ⟨C, q.b, q.last, q.m + 1, q.long⟩) := by
                rw [smTo, ← Q.out]
                unfold smStep
                rw [← DD.out, if_neg HD0.out, if_neg h2, HC.out, HF.out]
                exact hide rfl
              rcases TEST.out with ⟨g1, g2⟩ | g1
              all_goals
                go_wp2_with (first
                  | (go_at_call 127; refine (DV.out _).mono ?_; rintro e w' ⟨rfl, rfl⟩)
                  | (go_at_call 131; refine AD.out.mono ?_; rintro e w3 ⟨v3, rfl, o3, b3⟩))
                have O3 := hide o3.rd
                have B3 := hide (B2.out.trans (b3.mono B2.out.size))
                have RB4 := hide (RB3.out.below b3)
                clear o3 b3
                go_roundw
                case rel =>
                  refine ⟨k + 1, smTo s (k + 1), by omega, rfl, by go_num, ?_, ?_, ?_, ?_, ?_, B3.out⟩
                  · rw [NX.out]
                  · rw [NX.out]; go_num
                  · rw [NX.out]
                  · rw [NX.out]; exact O3.out
                  · rw [NX.out]; exact RB4.out
                case measure => simp [intOf]; omega
    · obtain rfl : k = s.length := by omega
      go_wp2_with fail
      refine (l1Cut_calls _ (ci q.c) _ RC.out (by rw [ci_length]; have := IV.out.lc2; omega)).mono ?_
      rintro e w2 ⟨v2, rfl, ho2, hb2⟩
      have O2 : Hid (Own w2 w.heap.size v2 (ci L)) := by
        have := ho2.mono (base' := w.heap.size) B.out.size
        rw [cutL_nl, Q.out, HL.out] at this
        exact this
      have B2 := hide (B.out.trans (hb2.mono B.out.size))
      clear ho2 hb2
      go_wp2
      go_ret
      exact ⟨_, rfl, O2.out, B2.out⟩
set_option maxRecDepth 100000 in
set_option maxHeartbeats 1600000 in
theorem sLocatorOf_calls (v : Value) (xs : List Int) (w : World) (h : Rd w v xs) :
    Calls Tryd.prog 25 #[v] w fun e w' => ∃ v', e = .returned (.tuple #[v', .bool (locR xs).2]) ∧ Own w' w.heap.size v' (locR xs).1 ∧ Below w.heap.size w w' := by
  have R := hide h
  obtain ⟨a, cap, rfl, g1, g2, _⟩ := h
  have hm : xs.length ≤ maxLen := by omega
  unfold maxLen at hm
  clear g1 g2
  by_cases h1 : (2 : Int) ≤ (xs.length : Int) ∧ (xs.length : Int) ≤ 6
  case neg =>
    rw [locR_no (locOk_no (by omega))]
    have D := hide (decide_eq_false h1)
    clear h1
    go_enter Tryd.func25, Tryd.ntmps25
    go_wp2_with fail
    refine (l1In_calls _ _ _ _).mono ?_
    rw [D.out]
    rintro e w' ⟨rfl, rfl⟩
    go_wp2
    go_ret2
    exact ⟨_, rfl, own_nil _ _, Below.refl _ _⟩
  have D := hide (decide_eq_true h1)
  have hand := i64_and1 xs.length (by omega)
  by_cases h2 : xs.length % 2 = 0
  case neg =>
    rw [locR_no (locOk_no (by omega))]
    have t2 : (bits .and .i64 (xs.length : Int) 1 == 1) = true := by rw [hand]; simp; omega
    clear h1 h2 hand
    go_enter Tryd.func25, Tryd.ntmps25
    go_wp2_with fail
    refine (l1In_calls _ _ _ _).mono ?_
    rw [D.out]
    rintro e w' ⟨rfl, rfl⟩
    go_wp2
    go_ret2
    exact ⟨_, rfl, own_nil _ _, Below.refl _ _⟩
  have t2 : (bits .and .i64 (xs.length : Int) 1 == 1) = false := by rw [hand, h2]; rfl
  cases h4 : xs.all elOk with
  | false =>
    rw [locR_no (locOk_no (by rw [h4]; simp))]
    have E := hide h4
    clear h1 h2 hand h4
    go_enter Tryd.func25, Tryd.ntmps25
    go_wp2_with fail
    refine (l1In_calls _ _ _ _).mono ?_
    rw [D.out]
    rintro e w' ⟨rfl, rfl⟩
    go_wp2_with fail
    refine (l1All_calls _ xs _ R.out).mono ?_
    rw [E.out]
    rintro e w' ⟨rfl, rfl⟩
    go_wp2
    go_ret2
    exact ⟨_, rfl, own_nil _ _, Below.refl _ _⟩
  | true =>
    have hok : locOk xs = true := by
      simp only [locOk, h4, Bool.and_true, decide_eq_true_eq]
      omega
    rw [locR_yes hok]
    have E := hide h4
    have hcn := ci_natp (fun c hc => elOk_iff.1 (List.all_eq_true.1 h4 c hc))
    have RN : Hid (Rd w (.slice a xs.length cap) (ci (nat xs))) := by rw [hcn]; exact R.out
    have NL := hide (nat_ltp (fun c hc => elOk_iff.1 (List.all_eq_true.1 h4 c hc)))
    have N6 : Hid ((nat xs).length ≤ 6) := by show (nat xs).length ≤ 6; rw [nat_length]; omega
    clear h1 h2 hand h4 hok hcn
    go_enter Tryd.func25, Tryd.ntmps25
    go_wp2_with fail
    refine (l1In_calls _ _ _ _).mono ?_
    rw [D.out]
    rintro e w' ⟨rfl, rfl⟩
    go_wp2_with fail
    refine (l1All_calls _ xs _ R.out).mono ?_
    rw [E.out]
    rintro e w' ⟨rfl, rfl⟩
    go_wp2_with fail
    refine (l4Locator_calls _ (nat xs) _ RN.out NL.out N6.out).mono ?_
    rintro e w1 ⟨v1, rfl, ho1, hb1⟩
    have O1 := hide ho1
    have B1 := hide hb1
    clear ho1 hb1
    go_wp2
    go_ret2
    exact ⟨_, rfl, O1.out, B1.out⟩
end Gf
end Go.Proofs.YtogopakmebiomaaDoor

/-
  The shortest rule of syndromes: the model's l4Locator and LocatorOf, call by call. No condition. The places that a rule tells: the program's rootPlaces and its model's l4Places, call by call. The program's table of rests must hold its seven numbers where the program's own function is called. The places that a rule tells, by division: the program's rootPlaces, call by call. The program's table of rests must hold its seven numbers. A word put right: the program's DecodeWord and its model's, call by call. The program's table of rests must hold its seven numbers where the program's own function is called. A word of which so many bytes are wrong, or fewer, is put right: plain mathematics over the functions' answers. No condition. The model's drawing of numbers out of bytes, call by call: each draw returns a number within its bounds, moves its own cursor on and touches nothing else that was there. Each contract says what it asks. What draws of matrices and lists begin with: a cursor made new, what it leaves alone. Each contract says what it asks.
-/
import Derived.Test.YtogopakmebiomaaDoorWordsB12
import Derived.Test.YtogopakmebiomaaDoorWordsB4
import Derived.Test.YtogopakmebiomaaDoorWordsB9
import Derived.Deep.LoopGhost
import Derived.WalkMore
import Derived.Test.YtogopakmebiomaaDoorWordsB10
import Derived.Test.YtogopakmebiomaaDoorWordsB8
import Derived.Test.YtogopakmebiomaaDoorWordsB2
import Derived.Test.YtogopakmebiomaaDoorWordsB11
namespace Go.Proofs.YtogopakmebiomaaDoor
open Go.RowKit
namespace Gf

set_option maxRecDepth 100000 in
set_option maxHeartbeats 6400000 in
theorem l4Locator_calls (v : Value) (s : List Nat) (w : World) (h : Rd w v (ci s)) (hs : AllLt s) (hn : s.length ≤ 6) :
    Calls Tryd.prog 82 #[v] w fun e w' => ∃ v', e = .returned v' ∧ Own w' w.heap.size v' (ci (locN s)) ∧ Below w.heap.size w w' := by
  have R := hide h
  obtain ⟨a, cap, rfl, _, _, _⟩ := h
  simp only [ci_length]
  obtain ⟨L, hL⟩ : ∃ L, L = locN s := ⟨_, rfl⟩
  rw [← hL]
  have HL : Hid (cutNl (smTo s s.length).c = L) := by rw [hL]; exact loc_same hs
  have SL := hide hs
  clear hs hL
  go_enter Tryd.func82, Tryd.ntmps82
  go_wp2
  go_loopw [3, 4, 5, 6, 7, 16] (fun vc vb vg vm vl vk wr => ∃ (k : Nat) (q : Bm), k ≤ s.length ∧ q = smTo s k ∧ vk = .int .i64 k ∧ vl = .int .i64 (q.last : Nat) ∧ vm = .int .i64 (q.m : Nat) ∧ vg = .int .i64 (q.long : Nat) ∧ Rd wr vc (ci q.c) ∧ Rd wr vb (ci q.b) ∧ Below w.heap.size w wr) (fun _ _ _ _ _ vk _ => s.length - (intOf vk).toNat)
  case atStart =>
    refine ⟨0, smTo s 0, Nat.zero_le _, rfl, rfl, rfl, rfl, rfl, ?_, ?_, ((Below.refl _ _).alloc (Nat.le_refl _) _).alloc (by simp) _⟩
    · exact Rd.below rd_single4 ((Below.refl _ _).alloc (Nat.le_refl _) _)
    · have := rd_single4 (w := w.alloc (.cells #[.int .i64 1] 3)) (z := 1)
      have e : (w.alloc (.cells #[.int .i64 1] 3)).heap.size = w.heap.size + 1 := by simp
      rw [e] at this
      exact this
  case round =>
    obtain ⟨k, q, hk, hq, rfl, rfl, rfl, rfl, hrc, hrb, hb⟩ := hrel
    have RC := hide hrc
    have RB := hide hrb
    have B := hide hb
    have Q := hide hq
    have IV : Hid (SmI k q) := by rw [hq]; exact sm_inv s k
    clear hrb hb hq
    by_cases hlt : k < s.length
    · have hlt' : (k : Int) < (s.length : Int) := by omega
      obtain ⟨ca, cc, rfl, _, _, _⟩ := hrc
      have RC2 : Hid (Rd wr (.slice ca q.c.length cc) (ci q.c)) := by have := RC.out; rwa [ci_length] at this
      simp only [ci_length]
      have hlk := IV.out.lk
      have hlc := IV.out.lc
      have hlc2 := IV.out.lc2
      have hlb := IV.out.lb
      have hm1 := IV.out.m1
      obtain ⟨J, hJ⟩ : ∃ J, J = min (q.long + 1) q.c.length := ⟨_, rfl⟩
      have hJ1 : J ≤ q.long + 1 := by omega
      have hJ2 : J ≤ q.c.length := by omega
      have hJ3 : ∀ i, ¬ i < J → i ≤ J → q.long < i ∨ q.c.length ≤ i := by omega
      have HJ3 := hide hJ3
      have HJ := hide hJ
      have CL := hide IV.out.cl
      obtain ⟨WR, rfl⟩ : ∃ W, W = wr := ⟨_, rfl⟩
      clear RC hJ hJ3
      go_wp2
      go_loopw [9, 10] (fun vd vi wx => ∃ i : Nat, i ≤ J ∧ vi = .int .i64 i ∧ vd = .int .i64 (dsc (fn q.c) (fn s) k i : Nat) ∧ Below WR.heap.size WR wx) (fun _ vi _ => J - (intOf vi).toNat)
      case atStart => exact ⟨0, Nat.zero_le _, rfl, rfl, Below.refl _ _⟩
      case round =>
        obtain ⟨i, hi, rfl, rfl, hbx⟩ := hrel
        have BX := hide hbx
        clear hbx
        by_cases hil : i < J
        · have g1 : (i : Int) ≤ (q.long : Int) := by omega
          have g2 : (i : Int) < (q.c.length : Int) := by omega
          have e1 : ((k : Int) - (i : Int)).toNat = k - i := by omega
          have h01 : (0 : Int) ≤ (k : Int) - (i : Int) := by omega
          have h02 : (k : Int) - (i : Int) < (s.length : Int) := by omega
          have i4 : IntKind.i64.wrap ((k : Int) - (i : Int)) = (k : Int) - (i : Int) := by rw [wrap_i64]; omega
          obtain ⟨b1, o1, rfl, hc1⟩ := Rd.rowN (RC2.out.below BX.out) i (by omega)
          obtain ⟨b2, o2, rfl, hc2⟩ := Rd.rowN ((R.out.below B.out).below BX.out) (k - i) (by omega)
          obtain ⟨x, hx⟩ : ∃ x, x = q.c.getD i 0 := ⟨_, rfl⟩
          obtain ⟨y, hy⟩ : ∃ y, y = s.getD (k - i) 0 := ⟨_, rfl⟩
          have hx256 : x < 256 := by rw [hx]; exact CL.out i
          have hy256 : y < 256 := by rw [hy]; exact SL.out _
          obtain ⟨d, hd⟩ : ∃ d, d = dsc (fn q.c) (fn s) k i := ⟨_, rfl⟩
          have hd256 : d < 256 := by rw [hd]; exact dsc_lt CL.out i
          have D : Hid (dsc (fn q.c) (fn s) k (i + 1) = d ^^^ mul x y) := by rw [hd, hx, hy]; rfl
          rw [← hx] at hc1
          rw [← hy] at hc2
          rw [← hd]
          have hm256 := mul_lt (a := x) (b := y) hx256
          have MU : Hid (∀ m, Calls Tryd.prog 128 #[.int .i64 (x : Nat), .int .i64 (y : Nat)] (wr.drewN m) fun e w' => e = .returned (.int .i64 (mul x y : Nat)) ∧ wr.drewN m = w') := fun m => by
            have := l1Mul_calls (x : Nat) (y : Nat) (wr.drewN m) (by omega) (by omega) (by omega) (by omega)
            simp only [Int.toNat_natCast] at this
            exact this
          clear hx hy hd
          go_wp2
          go_quiet ((go_at_call 128; exact quiet_same (MU.out _)))
          clear i4 e1 h01 h02
          go_wp2
          go_roundw
          case rel => exact ⟨i + 1, by omega, by go_num, by rw [D.out, i64_xor _ _ (by omega) (by omega)], below_drewN BX.out _⟩
          case measure => simp [intOf]; omega
        · obtain rfl : i = J := by omega
          obtain ⟨d, hd⟩ : ∃ d, d = smD s k q := ⟨_, rfl⟩
          have hd2 : dsc (fn q.c) (fn s) k i = d := by rw [hd, HJ.out]; rfl
          rw [hd2]
          have hd256 : d < 256 := by rw [hd]; exact smD_lt CL.out
          have DD := hide hd
          have B2 := hide (B.out.trans (BX.out.mono B.out.size))
          have RC3 := hide (RC2.out.below BX.out)
          have RB3 := hide (RB.out.below BX.out)
          have TEST : Hid (((i : Int) ≤ (q.long : Int) ∧ ¬ (i : Int) < (q.c.length : Int)) ∨ ¬ (i : Int) ≤ (q.long : Int)) := by
            show _ ∨ _
            rcases HJ3.out i (Nat.lt_irrefl _) (Nat.le_refl _) with h | h <;> omega
          clear hd hd2 RC2 RB B HJ3 hil hi hJ1 hJ2
          have hll := IV.out.ll
          by_cases hd0 : d = 0
          · have td : (((d : Nat) : Int) == 0) = true := by simp [hd0]
            have NX : Hid (smTo s (k + 1) = ⟨q.c, q.b, q.last, q.m + 1, q.long⟩) := by
              rw [smTo, ← Q.out]
              unfold smStep
              rw [← DD.out, if_pos hd0]
              exact hide rfl
            clear hd0
            rcases TEST.out with ⟨g1, g2⟩ | g1
            all_goals
              go_wp2
              go_roundw
              case rel =>
                refine ⟨k + 1, smTo s (k + 1), by omega, rfl, by go_num, ?_, ?_, ?_, ?_, ?_, B2.out⟩
                · rw [NX.out]
                · rw [NX.out]; go_num
                · rw [NX.out]
                · rw [NX.out]; exact RC3.out
                · rw [NX.out]; exact RB3.out
              case measure => simp [intOf]; omega
          · have td : (((d : Nat) : Int) == 0) = false := by simp [hd0]
            have HD0 := hide hd0
            have hi := inv_lt q.last
            obtain ⟨F, hF⟩ : ∃ F, F = mul d (inv q.last) := ⟨_, rfl⟩
            have hF256 : F < 256 := by rw [hF]; exact mul_lt hd256
            obtain ⟨C, hC⟩ : ∃ C, C = smAdd q.c q.b F q.m := ⟨_, rfl⟩
            have HF := hide hF
            have HC := hide hC
            have DV : Hid (∀ w2, Calls Tryd.prog 127 #[.int .i64 (d : Nat), .int .i64 (q.last : Nat)] w2 fun e w' => e = .returned (.int .i64 (F : Nat)) ∧ w2 = w') := fun w2 => by
              have := l1Div_calls (d : Nat) (q.last : Nat) w2 (by omega) (by omega) (by omega) (by omega)
              simp only [Int.toNat_natCast] at this
              rw [hF]
              exact this
            have BLt := hide IV.out.bl
            have hcn : q.c.length ≤ 64 := by omega
            have hbn : q.b.length ≤ 64 := by omega
            have hmn : q.m ≤ 64 := by omega
            clear hd0 hF hC hi
            have AD : Hid (Calls Tryd.prog 131 #[.slice ca q.c.length cc, u4, .int .i64 (F : Nat), .int .i64 (q.m : Nat)] wr fun e w' => ∃ v', e = .returned v' ∧ Own w' wr.heap.size v' (ci C) ∧ Below wr.heap.size wr w') := by
              rw [HC.out]
              exact l4Add_calls _ _ q.c q.b F q.m wr RC3.out RB3.out CL.out BLt.out hF256 hcn hbn hmn hm1
            by_cases h2 : 2 * q.long ≤ k
            · have h2' : 2 * (q.long : Int) ≤ (k : Int) := by omega
              have NX : Hid (smTo s (k + 1) = ⟨C, q.c, d, 1, k + 1 - q.long⟩) := by
                rw [smTo, ← Q.out]
                unfold smStep
                rw [← DD.out, if_neg HD0.out, if_pos h2, HC.out, HF.out]
                exact hide rfl
              rcases TEST.out with ⟨g1, g2⟩ | g1
              all_goals
                go_wp2_with (first
                  | (go_at_call 127; refine (DV.out _).mono ?_; rintro e w' ⟨rfl, rfl⟩)
                  | (go_at_call 131; refine AD.out.mono ?_; rintro e w3 ⟨v3, rfl, o3, b3⟩))
                have O3 := hide o3.rd
                have B3 := hide (B2.out.trans (b3.mono B2.out.size))
                have RC4 := hide (RC3.out.below b3)
                clear o3 b3
                go_roundw
                case rel =>
                  refine ⟨k + 1, smTo s (k + 1), by omega, rfl, by go_num, ?_, ?_, ?_, ?_, ?_, B3.out⟩
                  · rw [NX.out]
                  · rw [NX.out]; rfl
                  · rw [NX.out]; show _ = Value.int .i64 ((k + 1 - q.long : Nat) : Int); congr 1; omega
                  · rw [NX.out]; exact O3.out
                  · rw [NX.out]; exact RC4.out
                case measure => simp [intOf]; omega
            · have h2' : ¬ 2 * (q.long : Int) ≤ (k : Int) := by omega
              have NX : Hid (smTo s (k + 1) = ⟨C, q.b, q.last, q.m + 1, q.long⟩) := by
                rw [smTo, ← Q.out]
                unfold smStep
                rw [← DD.out, if_neg HD0.out, if_neg h2, HC.out, HF.out]
                exact hide rfl
              rcases TEST.out with ⟨g1, g2⟩ | g1
              all_goals
                go_wp2_with (first
                  | (go_at_call 127; refine (DV.out _).mono ?_; rintro e w' ⟨rfl, rfl⟩)
                  | (go_at_call 131; refine AD.out.mono ?_; rintro e w3 ⟨v3, rfl, o3, b3⟩))
                have O3 := hide o3.rd
                have B3 := hide (B2.out.trans (b3.mono B2.out.size))
                have RB4 := hide (RB3.out.below b3)
                clear o3 b3
                go_roundw
                case rel =>
                  refine ⟨k + 1, smTo s (k + 1), by omega, rfl, by go_num, ?_, ?_, ?_, ?_, ?_, B3.out⟩
                  · rw [NX.out]
                  · rw [NX.out]; go_num
                  · rw [NX.out]
                  · rw [NX.out]; exact O3.out
                  · rw [NX.out]; exact RB4.out
                case measure => simp [intOf]; omega
    · obtain rfl : k = s.length := by omega
      go_wp2_with fail
      refine (l1Cut_calls _ (ci q.c) _ RC.out (by rw [ci_length]; have := IV.out.lc2; omega)).mono ?_
      rintro e w2 ⟨v2, rfl, ho2, hb2⟩
      have O2 : Hid (Own w2 w.heap.size v2 (ci L)) := by
        have := ho2.mono (base' := w.heap.size) B.out.size
        rw [cutL_nl, Q.out, HL.out] at this
        exact this
      have B2 := hide (B.out.trans (hb2.mono B.out.size))
      clear ho2 hb2
      go_wp2
      go_ret
      exact ⟨_, rfl, O2.out, B2.out⟩
set_option maxRecDepth 100000 in
set_option maxHeartbeats 1600000 in
theorem sLocatorOf_calls (v : Value) (xs : List Int) (w : World) (h : Rd w v xs) :
    Calls Tryd.prog 25 #[v] w fun e w' => ∃ v', e = .returned (.tuple #[v', .bool (locR xs).2]) ∧ Own w' w.heap.size v' (locR xs).1 ∧ Below w.heap.size w w' := by
  have R := hide h
  obtain ⟨a, cap, rfl, g1, g2, _⟩ := h
  have hm : xs.length ≤ maxLen := by omega
  unfold maxLen at hm
  clear g1 g2
  by_cases h1 : (2 : Int) ≤ (xs.length : Int) ∧ (xs.length : Int) ≤ 6
  case neg =>
    rw [locR_no (locOk_no (by omega))]
    have D := hide (decide_eq_false h1)
    clear h1
    go_enter Tryd.func25, Tryd.ntmps25
    go_wp2_with fail
    refine (l1In_calls _ _ _ _).mono ?_
    rw [D.out]
    rintro e w' ⟨rfl, rfl⟩
    go_wp2
    go_ret2
    exact ⟨_, rfl, own_nil _ _, Below.refl _ _⟩
  have D := hide (decide_eq_true h1)
  have hand := i64_and1 xs.length (by omega)
  by_cases h2 : xs.length % 2 = 0
  case neg =>
    rw [locR_no (locOk_no (by omega))]
    have t2 : (bits .and .i64 (xs.length : Int) 1 == 1) = true := by rw [hand]; simp; omega
    clear h1 h2 hand
    go_enter Tryd.func25, Tryd.ntmps25
    go_wp2_with fail
    refine (l1In_calls _ _ _ _).mono ?_
    rw [D.out]
    rintro e w' ⟨rfl, rfl⟩
    go_wp2
    go_ret2
    exact ⟨_, rfl, own_nil _ _, Below.refl _ _⟩
  have t2 : (bits .and .i64 (xs.length : Int) 1 == 1) = false := by rw [hand, h2]; rfl
  cases h4 : xs.all elOk with
  | false =>
    rw [locR_no (locOk_no (by rw [h4]; simp))]
    have E := hide h4
    clear h1 h2 hand h4
    go_enter Tryd.func25, Tryd.ntmps25
    go_wp2_with fail
    refine (l1In_calls _ _ _ _).mono ?_
    rw [D.out]
    rintro e w' ⟨rfl, rfl⟩
    go_wp2_with fail
    refine (l1All_calls _ xs _ R.out).mono ?_
    rw [E.out]
    rintro e w' ⟨rfl, rfl⟩
    go_wp2
    go_ret2
    exact ⟨_, rfl, own_nil _ _, Below.refl _ _⟩
  | true =>
    have hok : locOk xs = true := by
      simp only [locOk, h4, Bool.and_true, decide_eq_true_eq]
      omega
    rw [locR_yes hok]
    have E := hide h4
    have hcn := ci_natp (fun c hc => elOk_iff.1 (List.all_eq_true.1 h4 c hc))
    have RN : Hid (Rd w (.slice a xs.length cap) (ci (nat xs))) := by rw [hcn]; exact R.out
    have NL := hide (nat_ltp (fun c hc => elOk_iff.1 (List.all_eq_true.1 h4 c hc)))
    have N6 : Hid ((nat xs).length ≤ 6) := by show (nat xs).length ≤ 6; rw [nat_length]; omega
    clear h1 h2 hand h4 hok hcn
    go_enter Tryd.func25, Tryd.ntmps25
    go_wp2_with fail
    refine (l1In_calls _ _ _ _).mono ?_
    rw [D.out]
    rintro e w' ⟨rfl, rfl⟩
    go_wp2_with fail
    refine (l1All_calls _ xs _ R.out).mono ?_
    rw [E.out]
    rintro e w' ⟨rfl, rfl⟩
    go_wp2_with fail
    refine (l4Locator_calls _ (nat xs) _ RN.out NL.out N6.out).mono ?_
    rintro e w1 ⟨v1, rfl, ho1, hb1⟩
    have O1 := hide ho1
    have B1 := hide hb1
    clear ho1 hb1
    go_wp2
    go_ret2
    exact ⟨_, rfl, O1.out, B1.out⟩
end Gf
end Go.Proofs.YtogopakmebiomaaDoor

namespace Go.Proofs.YtogopakmebiomaaDoor
open Go.RowKit
namespace Gf

set_option maxRecDepth 100000 in
set_option maxHeartbeats 3200000 in
theorem l4Places_calls (v : Value) (c : List Int) (L : Nat) (w : World) (h : Rd w v c) (he : ∀ i, i < c.length → 0 ≤ c.getD i 0 ∧ c.getD i 0 ≤ 255) (hL : L ≤ 24) :
    Calls Tryd.prog 87 #[v, .int .i64 L] w fun e w' => ∃ v', e = .returned v' ∧ Own w' w.heap.size v' (plcN c L) ∧ Below w.heap.size w w' := by
  have R := hide h
  have E := hide he
  clear h he
  go_enter Tryd.func87, Tryd.ntmps87
  go_wp2
  go_loopw [5, 6] (fun vo vk wr => ∃ k : Nat, k ≤ L ∧ vk = .int .i64 k ∧ Own wr w.heap.size vo (plcN c k) ∧ Below w.heap.size w wr) (fun _ vk _ => L - (intOf vk).toNat)
  case atStart => exact ⟨0, Nat.zero_le _, rfl, World.ownsRow_nil _ _ _ _, Below.refl _ _⟩
  case round =>
    obtain ⟨k, hk, rfl, ho, hb⟩ := hrel
    have O := hide ho
    have B := hide hb
    clear ho hb
    by_cases hlt : k < L
    · have hlt' : (k : Int) < (L : Int) := by omega
      go_wp2_with fail
      refine (l1Pow_calls 2 k _ (by omega) (by omega) (by omega) (by omega)).mono ?_
      rintro e w' ⟨rfl, rfl⟩
      rw [Int.toNat_natCast]
      obtain ⟨x, hx⟩ : ∃ x, x = pow 2 k := ⟨_, rfl⟩
      rw [show pow (Int.toNat 2) k = x from hx.symm]
      have hx256 : x < 256 := by rw [hx]; exact pow_lt _ _
      obtain ⟨y, hy⟩ : ∃ y, y = ip k := ⟨_, rfl⟩
      have hy256 : y < 256 := by rw [hy]; exact ip_lt k
      have Y : Hid (mul (Int.toNat 1) (inv x) = y) := by
        show mul 1 (inv x) = y
        rw [one_mul _ (inv_lt _), hy, hx]; rfl
      have HY := hide hy
      clear hx hy
      go_wp2_with fail
      refine (l1Div_calls _ _ _ (by omega) (by omega) (by omega) (by omega)).mono ?_
      rintro e w' ⟨rfl, rfl⟩
      rw [Int.toNat_natCast, Y.out]
      go_wp2_with fail
      refine (l1Eval_calls _ c y _ (R.out.below B.out) (by omega) (by omega) E.out).mono ?_
      rw [Int.toNat_natCast]
      rintro e w2 ⟨rfl, hb2⟩
      obtain ⟨z, hz⟩ : ∃ z, z = ev y c := ⟨_, rfl⟩
      rw [← hz]
      have HZ := hide hz
      have B2 := hide (B.out.trans (hb2.mono B.out.size))
      have O2 := hide (O.out.below hb2)
      clear hb2 O B hz
      by_cases hz0 : z = 0
      · have tz : (((z : Nat) : Int) == 0) = true := by simp [hz0]
        have e : plcN c (k + 1) = plcN c k ++ [(k : Int)] := plcN_yes (by rw [← HY.out, ← HZ.out]; exact hz0)
        have hun := plcN_le c k
        obtain ⟨l, hl⟩ : ∃ l, l = plcN c k := ⟨_, rfl⟩
        rw [← hl] at e O2 hun
        have E2 := hide e
        clear e hl hz0
        go_wp2_with (at_builtin; refine wpList_append_rd rfl (.tmp 18) (.tmp 20) rfl w.heap.size _ l.length l [((k : Nat) : Int)] rfl (O2.out.alloc _) _ rfl rd_single2 (by simp; omega) (by have := B2.out.size; simp; omega) ?_)
        intro v' w3 ho3 hg3
        have hb3 : Below w.heap.size w w3 := (B2.out.alloc B2.out.size _).grown hg3 (by have := B2.out.size; simp; omega) (fun i hi => (O2.out.lt i hi).1)
        rw [← E2.out] at ho3
        have O3 := hide ho3
        have B3 := hide hb3
        clear ho3 hg3 hb3
        go_wp2
        go_roundw
        case rel => exact ⟨k + 1, by omega, by go_num, O3.out, B3.out⟩
        case measure => simp [intOf]; omega
      · have tz : (((z : Nat) : Int) == 0) = false := by simp [hz0]
        have e : plcN c (k + 1) = plcN c k := plcN_no (by rw [← HY.out, ← HZ.out]; exact hz0)
        have E2 := hide e
        clear e hz0
        go_wp2
        go_roundw
        case rel => exact ⟨k + 1, by omega, by go_num, by rw [E2.out]; exact O2.out, B2.out⟩
        case measure => simp [intOf]; omega
    · obtain rfl : k = L := by omega
      go_wp2
      go_ret
      exact ⟨_, rfl, O.out, B.out⟩
end Gf
end Go.Proofs.YtogopakmebiomaaDoor

namespace Go.Proofs.YtogopakmebiomaaDoor
open Go.RowKit
namespace Gf

theorem Lft.div {c r : List Int} {p : Nat} (h : Lft c r p) (hp : p < 24) (h2 : 2 ≤ r.length) : ∃ Q S, divR r (dvP p) = (Q, S, true) ∧ Q.length = r.length - 1 ∧
    (S.length = 0 → Lft c Q (p + 1) ∧ plcN c (p + 1) = plcN c p ++ [(p : Int)]) ∧ (S.length ≠ 0 → Lft c r (p + 1) ∧ plcN c (p + 1) = plcN c p) := by
  obtain ⟨d1, d2, d3, d4, d5⟩ := div_root h.good h2 hp
  refine ⟨(divR r (dvP p)).1, (divR r (dvP p)).2.1, ?_, d2, fun h0 => h.take hp h2 h0, fun h0 => h.skip hp (fun e => h0 (d4.2 e))⟩
  rw [← d1]
set_option maxRecDepth 100000 in
set_option maxHeartbeats 6400000 in
theorem rootPlaces_calls (v : Value) (c : List Int) (L : Nat) (w : World) (hT : Tab w) (h : Rd w v c) (hg : goodP c = true) (h1 : 1 ≤ c.length) (hL : L ≤ 24) :
    Calls Tryd.prog 91 #[v, .int .i64 L] w fun e w' => ∃ v', e = .returned (.tuple #[v', .bool (rtR c L).2]) ∧ Own w' w.heap.size v' (rtR c L).1 ∧ Below w.heap.size w w' := by
  have T := hide hT
  have R := hide h
  have ST := hide (Lft.start hg h1)
  have hlc := goodP_len hg
  clear hT h hg
  go_enter Tryd.func91, Tryd.ntmps91
  go_wp2
  go_step3
  go_wp2
  go_step3
  go_wp2
  go_loopg [0, 6, 7] c.length (fun g vr vo vn wr => ∃ (r : List Int) (p : Nat), r.length ≤ g + 1 ∧ p ≤ L ∧ vn = .int .i64 p ∧ Lft c r p ∧ Rd wr vr r ∧ Own wr w.heap.size vo (plcN c p) ∧ Below w.heap.size w wr)
  case atStart =>
    refine ⟨c, 0, by omega, Nat.zero_le _, rfl, ST.out, R.out.below ((Below.refl _ _).alloc (Nat.le_refl _) _), ?_, (Below.refl _ _).alloc (Nat.le_refl _) _⟩
    exact World.ownsRow_lit w #[] 0 (Nat.le_refl _) (by decide) (by rfl)
  case round =>
    obtain ⟨r, p, hgk, hp, rfl, hlf, hr, ho, hb⟩ := hrel
    have LF := hide hlf
    have RR := hide hr
    have O := hide ho
    have B := hide hb
    obtain ⟨ra, rc, rfl, _, _, _⟩ := hr
    have hpos := hlf.pos
    have hsum := hlf.sum
    have hrl : r.length ≤ 40 := by omega
    clear hlf ho hb hsum
    by_cases h2 : 2 ≤ r.length
    · have h2' : (1 : Int) < (r.length : Int) := by omega
      obtain ⟨W1, rfl⟩ : ∃ W1, W1 = wr := ⟨_, rfl⟩
      obtain ⟨g, hgs⟩ : ∃ g, gk = g + 1 := ⟨gk - 1, by omega⟩
      subst hgs
      go_wp2
      obtain ⟨VO, hVO⟩ : ∃ V, V = u6 := ⟨_, rfl⟩
      subst hVO
      go_loopg [0, 6, 7, 8] L (fun g2 vr2 vo2 vn2 vp wr => ∃ q : Nat, vr2 = .slice ra r.length rc ∧ vo2 = VO ∧ vn2 = .int .i64 p ∧ L ≤ q + g2 ∧ p ≤ q ∧ q ≤ L ∧ vp = .int .i64 q ∧ Lft c r q ∧ plcN c q = plcN c p ∧ Below W1.heap.size W1 wr)
      case atStart => exact ⟨p, rfl, rfl, rfl, by omega, Nat.le_refl _, hp, rfl, LF.out, rfl, Below.refl _ _⟩
      case round =>
        obtain ⟨q, rfl, hvo2, rfl, hg2, hpq, hqL, rfl, hlf, hpl, hb⟩ := hrel
        subst hvo2
        have LQ := hide hlf
        have PL := hide hpl
        have BQ := hide hb
        clear hlf hpl hb
        by_cases hlt : q < L
        · have hlt' : (q : Int) < (L : Int) := by omega
          have BW := hide (B.out.trans (BQ.out.mono B.out.size))
          go_wp2_with fail
          refine (powE_calls 2 q _ (T.out.below BW.out) (by omega) (by omega) (by omega) (by omega)).mono ?_
          rintro e w' ⟨rfl, rfl⟩
          rw [Int.toNat_natCast]
          obtain ⟨x, hx⟩ : ∃ x, x = pow 2 q := ⟨_, rfl⟩
          rw [show pow (Int.toNat 2) q = x from hx.symm]
          have HRD : Hid (∀ w2 : World, Rd (w2.alloc (.cells #[.int .i64 1, .int .i64 (x : Int)] 3)) (.slice (some ⟨w2.heap.size, 0, none⟩) 2 2) (dvP q)) := fun w2 => by
            have := rd_two (w := w2) (y := 1) (z := (x : Int))
            rw [hx] at this ⊢
            exact this
          obtain ⟨Q, S, hQS, hQl, hyes, hno⟩ := LQ.out.div (show q < 24 by omega) h2
          have HQS := hide hQS
          have HQL := hide hQl
          have YES := hide hyes
          have NO := hide hno
          clear hx hQS hyes hno hQl
          have DC : Hid (Calls Tryd.prog 74 #[.slice ra r.length rc, .slice (some ⟨wr.heap.size, 0, none⟩) 2 2] (wr.alloc (.cells #[.int .i64 1, .int .i64 (x : Int)] 3)) fun e w' => ∃ v1 v2, e = .returned (.tuple #[v1, v2, .bool true]) ∧ Two (wr.alloc (.cells #[.int .i64 1, .int .i64 (x : Int)] 3)) w' v1 v2 Q S) := by
            have := divPoly_calls _ _ r (dvP q) _ ((T.out.below BW.out).below ((Below.refl _ _).alloc (Nat.le_refl _) _)) ((RR.out.below BQ.out).below ((Below.refl _ _).alloc (Nat.le_refl _) (.cells #[.int .i64 1, .int .i64 (x : Int)] 3))) (HRD.out wr)
            rw [HQS.out] at this
            exact this
          go_wp2_with fail
          refine DC.out.mono ?_
          rintro e w3 ⟨v1, v2, rfl, ho1, ho2, _, hb3⟩
          have B3 : Hid (Below W1.heap.size W1 w3) := (BQ.out.alloc BQ.out.size _).trans (hb3.mono (by have := BQ.out.size; simp; omega))
          have OQ := hide ho1
          have hsW := BQ.out.size
          obtain ⟨a2, c2, hv2, _, _, _⟩ := ho2.rd
          subst hv2
          obtain ⟨a1, c1, hv1, _, _, _⟩ := ho1.rd
          subst hv1
          clear ho1 ho2 hb3
          by_cases h0 : S.length = 0
          · have t0 : ((S.length : Int) == 0) = true := by simp [h0]
            obtain ⟨l1, l2⟩ := YES.out h0
            rw [PL.out] at l2
            have L1 := hide l1
            have hun := plcN_le c p
            obtain ⟨l, hl⟩ : ∃ l, l = plcN c p := ⟨_, rfl⟩
            have O3 := hide (O.out.below B3.out)
            rw [← hl] at l2 O3 hun
            have L2 := hide l2
            have B4 := hide (B.out.trans (B3.out.mono B.out.size))
            clear l1 l2 hl h0
            go_wp2_with (at_builtin; refine wpList_append_rd rfl (.tmp 34) (.tmp 36) rfl w.heap.size _ l.length l [((q : Nat) : Int)] rfl (O3.out.alloc _) _ rfl rd_single2 (by simp; omega) (by have := B4.out.size; simp; omega) ?_)
            intro v' w4 ho4 hg4
            have hb4 : Below w.heap.size w w4 := (B4.out.alloc B4.out.size _).grown hg4 (by have := B4.out.size; simp; omega) (fun i hi => (O3.out.lt i hi).1)
            rw [← L2.out] at ho4
            have O4 := hide ho4
            have B5 := hide hb4
            have R4 : Hid (Rd w4 (.slice a1 Q.length c1) Q) := by
              refine Own.rd (base := (wr.alloc (.cells #[.int .i64 1, .int .i64 (x : Int)] 3)).heap.size) (World.ownsRow.kept (OQ.out.alloc _) hg4 ?_)
              cases hv : (Value.slice a1 Q.length c1).ownBlock with
              | none => exact .inl rfl
              | some j =>
                right
                intro e
                have g1 := (OQ.out.lt j hv).1
                have g2 := (O.out.lt j e.symm).2
                simp at g1
                omega
            clear ho4 hg4 hb4
            have hQl : Q.length ≤ g + 1 := by have := HQL.out; omega
            go_wp2
            go_roundg g
            case measure => omega
            case rel => exact ⟨Q, q + 1, hQl, by omega, by go_num, L1.out, R4.out, O4.out, B5.out⟩
          · have t0 : ((S.length : Int) == 0) = false := by simp; intro e; simp [e] at h0
            obtain ⟨l1, l2⟩ := NO.out h0
            rw [PL.out] at l2
            have L1 := hide l1
            have L2 := hide l2
            clear l1 l2
            go_wp2
            go_roundg (L - (q + 1))
            case measure => omega
            case rel => exact ⟨q + 1, rfl, rfl, rfl, by omega, by omega, by omega, by go_num, L1.out, L2.out, B3.out⟩
        · obtain rfl : q = L := by omega
          have FN := hide (LQ.out.fail h2)
          have B4 := hide (B.out.trans (BQ.out.mono B.out.size))
          go_wp2
          try rw [Exit.noGoto_ret]
          go_ret2
          rw [FN.out]
          exact ⟨_, rfl, own_nil _ _, B4.out⟩
    · have h2' : ¬ (1 : Int) < (r.length : Int) := by omega
      have FN := hide (LF.out.done (L := L) (by omega) hp hL)
      go_wp2
      try rw [Exit.noGoto_ret]
      go_ret2
      rw [FN.out]
      exact ⟨_, rfl, O.out, B.out⟩
end Gf
end Go.Proofs.YtogopakmebiomaaDoor

namespace Go.Proofs.YtogopakmebiomaaDoor
open Go.RowKit
open Gf (ci nat AllLt synI locN plcN isB wdOk wOk rtR nought)

def locC (xs : List Int) (t : Int) : List Int := ci (locN (nat (synI xs (2 * t.toNat))))
def plcW (xs : List Int) (t : Int) : List Int := plcN (locC xs t) xs.length
def outW (xs : List Int) (t : Int) : List Int := fixW xs (plcW xs t) (synI xs (2 * t.toNat))
def plOkW (xs : List Int) (t : Int) : Bool := decide ((plcW xs t).length = (locC xs t).length - 1 ∧ 1 ≤ (plcW xs t).length ∧ ((plcW xs t).length : Int) ≤ t)
def decW (xs : List Int) (t : Int) : List Int × Int × Bool :=
  if wdOk xs t = true then
    if isB xs t = true then (xs, 0, true)
    else if plOkW xs t = true then
      if isB (outW xs t) t = true then (outW xs t, ((unpN xs (outW xs t) xs.length).length : Int), true) else ([], 0, false)
    else ([], 0, false)
  else ([], 0, false)
theorem decW_bad {xs : List Int} {t : Int} (h : wdOk xs t = false) : decW xs t = ([], 0, false) := by unfold decW; rw [h]; rfl
theorem decW_is {xs : List Int} {t : Int} (h : wdOk xs t = true) (h2 : isB xs t = true) : decW xs t = (xs, 0, true) := by unfold decW; rw [if_pos h, if_pos h2]
theorem decW_no {xs : List Int} {t : Int} (h : wdOk xs t = true) (h2 : isB xs t = false) (h3 : plOkW xs t = false) : decW xs t = ([], 0, false) := by unfold decW; rw [if_pos h, if_neg (by rw [h2]; decide), if_neg (by rw [h3]; decide)]
theorem decW_not {xs : List Int} {t : Int} (h : wdOk xs t = true) (h2 : isB xs t = false) (h3 : plOkW xs t = true) (h4 : isB (outW xs t) t = false) : decW xs t = ([], 0, false) := by unfold decW; rw [if_pos h, if_neg (by rw [h2]; decide), if_pos h3, if_neg (by rw [h4]; decide)]
theorem decW_yes {xs : List Int} {t : Int} (h : wdOk xs t = true) (h2 : isB xs t = false) (h3 : plOkW xs t = true) (h4 : isB (outW xs t) t = true) : decW xs t = (outW xs t, ((unpN xs (outW xs t) xs.length).length : Int), true) := by unfold decW; rw [if_pos h, if_neg (by rw [h2]; decide), if_pos h3, if_pos h4]
theorem unpN_comm (xs ys : List Int) (k : Nat) : unpN xs ys k = unpN ys xs k := by
  induction k with
  | zero => rfl
  | succ k ih =>
    rw [unpN, unpN, ih]
    by_cases h : xs.getD k 0 = ys.getD k 0
    · rw [if_pos h, if_pos h.symm]
    · rw [if_neg h, if_neg (fun e => h e.symm)]
theorem synI_all {xs : List Int} (h : xs.all Gf.elOk = true) (n : Nat) : (synI xs n).all Gf.elOk = true := by
  rw [List.all_eq_true]
  intro x hx
  obtain ⟨k, _, rfl⟩ := List.mem_map.1 hx
  have : Gf.ev (Gf.pow 2 k) xs < 256 := Gf.ev_lt (Gf.all_mem h)
  exact Gf.elOk_iff.2 (by omega)
/-- What the parts of a word that is taken are. -/
structure WdF (xs : List Int) (t : Int) (n : Nat) : Prop where
  nt : t = (n : Int)
  n1 : 1 ≤ n
  n3 : n ≤ 3
  len : xs.length ≤ 24
  el : xs.all Gf.elOk = true
  sl : (synI xs (2 * n)).length = 2 * n
  sel : (synI xs (2 * n)).all Gf.elOk = true
  loc : Gf.locR (synI xs (2 * n)) = (locC xs n, true)
  cg : Gf.goodP (locC xs n) = true
  c1 : 1 ≤ (locC xs n).length
  c7 : (locC xs n).length ≤ 7
  sn : AllLt (nat (synI xs (2 * n)))
  scn : ci (nat (synI xs (2 * n))) = synI xs (2 * n)
theorem wd_facts {xs : List Int} {t : Int} (h : wdOk xs t = true) : ∃ n : Nat, WdF xs t n := by
  obtain ⟨h1, h2, h3, h4⟩ := Gf.wdOk_yes h
  obtain ⟨q1, q3⟩ := Gf.wOk_iff.1 h1
  obtain ⟨n, rfl⟩ := Int.eq_ofNat_of_zero_le (a := t) (by omega)
  have hsl := Gf.synI_length xs (2 * n)
  have hse := synI_all h4 (2 * n)
  have hsn := Gf.nat_lt hse
  have hlen : (locN (nat (synI xs (2 * n)))).length ≤ 2 * n + 1 := by
    have := Gf.locN_le hsn
    rwa [Gf.nat_length, hsl] at this
  have hcut : locC xs n = cutL (ci (Gf.bmTo (nat (synI xs (2 * n))) (nat (synI xs (2 * n))).length).c) := by
    show ci (locN (nat (synI xs (2 * (n : Int).toNat)))) = _
    rw [Int.toNat_natCast, Gf.cutL_nl]
    rfl
  have hinv := Gf.bm_inv hsn (nat (synI xs (2 * n))).length (Nat.le_refl _)
  have hcl : (locC xs n).length = (locN (nat (synI xs (2 * n)))).length := by
    show (ci (locN (nat (synI xs (2 * (n : Int).toNat))))).length = _
    rw [Gf.ci_length, Int.toNat_natCast]
  refine ⟨n, rfl, by omega, by omega, h3, h4, hsl, hse, ?_, ?_, ?_, by omega, hsn, Gf.ci_nat hse⟩
  · rw [Gf.locR_yes (by simp only [Gf.locOk, hse, Bool.and_true, decide_eq_true_eq]; omega)]
    show (ci (locN (nat (synI xs (2 * n)))), true) = (ci (locN (nat (synI xs (2 * (n : Int).toNat)))), true)
    rw [Int.toNat_natCast]
  · rw [hcut]
    exact Gf.goodP_cut hinv.cl (by rw [hinv.len, Gf.nat_length, hsl]; omega)
  · rw [hcl]
    by_cases h0 : (locN (nat (synI xs (2 * n)))).length = 0
    · exfalso
      have e : Gf.fn (locN (nat (synI xs (2 * n)))) 0 = 0 := Gf.fn_far (by omega)
      unfold Gf.locN at e
      rw [Gf.cutNl_fn, hinv.one] at e
      cases e
    · omega
theorem outW_len (xs : List Int) (t : Int) : (outW xs t).length = xs.length := by
  unfold outW fixW
  rw [Gf.ci_length, fixN_length, Gf.nat_length]
theorem ci_all {l : List Nat} (h : AllLt l) : (ci l).all Gf.elOk = true := by
  rw [Gf.all_of_getD]
  intro i _
  have := h i
  rw [Gf.ci_getD]
  exact Gf.elOk_iff.2 (by omega)
theorem outW_el {xs : List Int} {n : Nat} (f : WdF xs n n) (hp : plOkW xs n = true) : (outW xs n).all Gf.elOk = true := by
  unfold plOkW at hp
  simp only [decide_eq_true_eq] at hp
  have hok := plcN_ok (locC xs n) xs.length f.len
  have hn3 := f.n3
  have hsok : (slvR (vanM (plcW xs n)) ((synI xs (2 * n)).take (plcW xs n).length)).2 = true := by
    refine van_ok hok.1 hp.2.1 (by omega) (by rw [List.length_take, f.sl]; omega) ?_
    rw [List.all_eq_true]
    intro x hx
    exact List.all_eq_true.1 f.sel x (List.mem_of_mem_take hx)
  obtain ⟨S, hS1, hS2, _, _, hS3, _⟩ := slv_facts hsok
  unfold outW fixW
  rw [Int.toNat_natCast, hS1, nat_ci]
  exact ci_all (fixN_lt (Gf.nat_lt f.el) hS3 _)
theorem decW_len (xs : List Int) (t : Int) : (decW xs t).1.length ≤ 1048576 := by
  cases h : wdOk xs t with
  | false => rw [decW_bad h]; show 0 ≤ _; omega
  | true =>
    have hl := (Gf.wdOk_yes h).2.2.1
    have ho := outW_len xs t
    unfold decW
    rw [if_pos h]
    split
    · show xs.length ≤ _; omega
    · split
      · split
        · show (outW xs t).length ≤ _; omega
        · show 0 ≤ _; omega
      · show 0 ≤ _; omega
end Go.Proofs.YtogopakmebiomaaDoor

namespace Go.Proofs.YtogopakmebiomaaDoor
open Go.RowKit
open Gf (ci nat AllLt p2 vs px sp fn ev evn pow wdOk isB synI locN plcN ip dotTo)

theorem unpN_has (e x : List Int) : ∀ L p, p < L → e.getD p 0 ≠ x.getD p 0 → ∃ j, j < (unpN e x L).length ∧ (unpN e x L).getD j 0 = (p : Int)
  | 0, p, h, _ => by omega
  | L + 1, p, h, hne => by
    by_cases hL : e.getD L 0 = x.getD L 0
    · rw [unpN_same rfl rfl hL]
      have hpL : p ≠ L := fun hp => by subst hp; exact hne hL
      exact unpN_has e x L p (by omega) hne
    · rw [unpN_other rfl rfl hL]
      by_cases hp : p = L
      · subst hp
        refine ⟨(unpN e x p).length, by simp, ?_⟩
        rw [List.getD_eq_getElem?_getD, List.getElem?_append_right (Nat.le_refl _), Nat.sub_self]; rfl
      · obtain ⟨j, h1, h2⟩ := unpN_has e x L p (by omega) hne
        refine ⟨j, by rw [List.length_append]; omega, ?_⟩
        rw [List.getD_eq_getElem?_getD, List.getElem?_append_left h1, ← List.getD_eq_getElem?_getD]
        exact h2
theorem unp_low {xs ys : List Int} {i : Nat} {z : Int} : ∀ L, L ≤ i → unpN xs (ys.set i z) L = unpN xs ys L
  | 0, _ => rfl
  | L + 1, h => by
    have e : (ys.set i z).getD L 0 = ys.getD L 0 := by rw [List.getD_eq_getElem?_getD, List.getElem?_set_ne (by omega), List.getD_eq_getElem?_getD]
    rw [unpN, unpN, e, unp_low L (by omega)]
theorem unp_set {xs ys : List Int} {i : Nat} {z : Int} : ∀ L, (unpN xs (ys.set i z) L).length ≤ (unpN xs ys L).length + 1
  | 0 => by simp [unpN]
  | L + 1 => by
    have ih := unp_set (xs := xs) (ys := ys) (i := i) (z := z) L
    by_cases h : L = i
    · subst h
      have e := unp_low (xs := xs) (ys := ys) (z := z) L (Nat.le_refl _)
      rw [unpN, unpN, e]
      split <;> split <;> simp <;> omega
    · have e : (ys.set i z).getD L 0 = ys.getD L 0 := by rw [List.getD_eq_getElem?_getD, List.getElem?_set_ne (by omega), List.getD_eq_getElem?_getD]
      rw [unpN, unpN, e]
      split
      · exact ih
      · simp; omega
theorem unp_self (xs : List Int) : ∀ L, unpN xs xs L = []
  | 0 => rfl
  | L + 1 => by rw [unpN_same rfl rfl rfl, unp_self xs L]
theorem unp_fix (xs : List Int) (S : List Nat) (ps : List Int) (hx : ci (nat xs) = xs) (L : Nat) : ∀ i, (unpN xs (ci (fixN (nat xs) S ps i)) L).length ≤ i
  | 0 => by rw [fixN, hx, unp_self]; exact Nat.le_refl _
  | i + 1 => by
    have ih := unp_fix xs S ps hx L i
    rw [fixN, Gf.xorAt, ← Gf.ci_set]
    have := unp_set (xs := xs) (ys := ci (fixN (nat xs) S ps i)) (i := (ps.getD i 0).toNat) (z := (((fixN (nat xs) S ps i).getD (ps.getD i 0).toNat 0 ^^^ S.getD i 0 : Nat) : Int)) L
    omega
/-- Roots are not more than the degree. -/
theorem lft_all {c : List Int} (hg : Gf.goodP c = true) (h1 : 1 ≤ c.length) : ∀ p, p ≤ 24 → ∃ r, Gf.Lft c r p
  | 0, _ => ⟨c, Gf.Lft.start hg h1⟩
  | p + 1, hp => by
    obtain ⟨r, h⟩ := lft_all hg h1 p (by omega)
    by_cases h2 : 2 ≤ r.length
    · obtain ⟨Q, S, _, _, hy, hn⟩ := Gf.Lft.div h (show p < 24 by omega) h2
      by_cases h0 : S.length = 0
      · exact ⟨Q, (hy h0).1⟩
      · exact ⟨r, (hn h0).1⟩
    · have hr : ¬ ev (ip p) r = 0 := by
        have hgr := h.good
        have hpos := h.pos
        match r, hgr, hpos, h2 with
        | [v], hgr, _, _ =>
          have h0 : v ≠ 0 := Gf.goodP_last hgr (by simp)
          have hv : 0 ≤ v ∧ v ≤ 255 := Gf.goodP_all hgr 0 (by simp)
          show ¬ Gf.mul 0 (ip p) ^^^ v.toNat = 0
          rw [Gf.zero_mul (Gf.ip_lt p), Nat.zero_xor]
          omega
        | _ :: _ :: _, _, _, h2 => exact absurd (show 2 ≤ _ by simp) h2
      exact ⟨r, (h.skip (show p < 24 by omega) hr).1⟩
/-- Two lists of places, the one within the other. -/
theorem plc_cmp {c xs wd : List Int} : ∀ L, (∀ p, p < L → xs.getD p 0 ≠ wd.getD p 0 → ev (ip p) c = 0) →
    (unpN xs wd L).length ≤ (plcN c L).length ∧ ((unpN xs wd L).length = (plcN c L).length → unpN xs wd L = plcN c L)
  | 0, _ => ⟨Nat.le_refl _, fun _ => rfl⟩
  | L + 1, h => by
    obtain ⟨h1, h2⟩ := plc_cmp (c := c) (xs := xs) (wd := wd) L (fun p hp => h p (by omega))
    by_cases hL : xs.getD L 0 = wd.getD L 0
    · rw [unpN_same rfl rfl hL]
      by_cases hr : ev (ip L) c = 0
      · rw [Gf.plcN_yes hr, List.length_append]
        exact ⟨by omega, fun e => by simp at e; omega⟩
      · rw [Gf.plcN_no hr]
        exact ⟨h1, h2⟩
    · rw [unpN_other rfl rfl hL, Gf.plcN_yes (h L (by omega) hL), List.length_append, List.length_append]
      refine ⟨by simp; omega, fun e => ?_⟩
      rw [h2 (by simp at e; omega)]
theorem van_dot {ps : List Int} (hp : PlOk ps) (h3 : ps.length ≤ 3) {z : List Nat} (hz : AllLt z) {i : Nat} (hi : i < ps.length) :
    dotTo (nat (vanRow ps i)) z ps.length = vs (fun j => z.getD j 0) (fun j => p2 (ps.getD j 0).toNat) i ps.length := by
  have key : ∀ m, m ≤ ps.length → dotTo (nat (vanRow ps i)) z m = vs (fun j => z.getD j 0) (fun j => p2 (ps.getD j 0).toNat) i m := by
    intro m
    induction m with
    | zero => intro _; rfl
    | succ m ih =>
      intro hm
      rw [Gf.dotTo, Gf.vs, ih (by omega)]
      have e : (nat (vanRow ps i)).getD m 0 = px (p2 (ps.getD m 0).toNat) i := by
        have h1 : (nat (vanRow ps i)).getD m 0 = ((vanRow ps i).getD m 0).toNat := by
          unfold Gf.nat
          simp [List.getD_eq_getElem?_getD, show m < (vanRow ps i).length by rw [vanRow_length]; omega]
        rw [h1, vanRow_get _ _ _ (by omega), Int.toNat_natCast]
        obtain ⟨a, b, _⟩ := hp m (by omega)
        exact Gf.pow_px (by omega) (by omega)
      rw [e, Gf.mul_comm _ _ (Gf.px_lt _ _) (hz m)]
  exact key _ (Nat.le_refl _)
theorem dec_good {xs : List Int} {t : Nat} (hw : wdOk xs t = true) (h : (decW xs t).2.2 = true) :
    wdOk (decW xs t).1 t = true ∧ isB (decW xs t).1 t = true ∧ (decW xs t).2.1 ≤ (t : Int) := by
  obtain ⟨n, f⟩ := wd_facts hw
  have hnt : (n : Int) = t := f.nt.symm
  have hnt' : n = t := by omega
  subst hnt'
  cases hi : isB xs n with
  | true =>
    rw [decW_is hw hi]
    exact ⟨hw, hi, by show (0 : Int) ≤ _; omega⟩
  | false =>
    cases hp : plOkW xs n with
    | false => rw [decW_no hw hi hp] at h; cases h
    | true =>
      cases ho : isB (outW xs n) n with
      | false => rw [decW_not hw hi hp ho] at h; cases h
      | true =>
        rw [decW_yes hw hi hp ho]
        obtain ⟨q1, q2, q3, q4⟩ := Gf.wdOk_yes hw
        have hl := outW_len xs n
        refine ⟨Gf.wdOk_mk q1 (by show 2 * (n : Int) < ((outW xs n).length : Int); rw [hl]; exact q2) (by show (outW xs n).length ≤ 24; rw [hl]; exact q3) (outW_el f hp), ho, ?_⟩
        show ((unpN xs (outW xs n) xs.length).length : Int) ≤ _
        unfold plOkW at hp
        simp only [decide_eq_true_eq] at hp
        have := unp_fix xs (nat (slvR (vanM (plcW xs n)) ((synI xs (2 * (n : Int).toNat)).take (plcW xs n).length)).1) (plcW xs n) (Gf.ci_nat q4) xs.length (plcW xs n).length
        have e : outW xs n = ci (fixN (nat xs) (nat (slvR (vanM (plcW xs n)) ((synI xs (2 * (n : Int).toNat)).take (plcW xs n).length)).1) (plcW xs n) (plcW xs n).length) := rfl
        rw [← e] at this
        omega
/-- A list changed at its places by what it is unlike there is the other. -/
theorem fix_right {xs wd P : List Int} {S : List Nat} (hP : P = unpN xs wd xs.length) (hx : xs.all Gf.elOk = true) (hw : wd.all Gf.elOk = true) (hl : xs.length = wd.length)
    (hS : ∀ j, j < P.length → S.getD j 0 = dif xs wd (P.getD j 0).toNat) : ci (fixN (nat xs) S P P.length) = wd := by
  have hok := unpN_ok xs wd xs.length
  rw [← hP] at hok
  have key : ∀ i, i ≤ P.length → ∀ p : Nat, ((∀ j, j < i → P.getD j 0 ≠ (p : Int)) → (fixN (nat xs) S P i).getD p 0 = at_ xs p) ∧ ((∃ j, j < i ∧ P.getD j 0 = (p : Int)) → (fixN (nat xs) S P i).getD p 0 = at_ wd p) := by
    intro i
    induction i with
    | zero => intro _ p; exact ⟨fun _ => rfl, fun ⟨j, h, _⟩ => by omega⟩
    | succ i ih =>
      intro hi p
      obtain ⟨q, hq1, hq2, _, hq4⟩ := hok i (by omega)
      have ih' := ih (by omega)
      rw [fixN, hq1, Int.toNat_natCast, Gf.xorAt]
      have hlen : q < (fixN (nat xs) S P i).length := by rw [fixN_length, Gf.nat_length]; exact hq2
      have hold : (fixN (nat xs) S P i).getD q 0 = at_ xs q := (ih' q).1 (fun j hj e => by have := hq4 j hj; omega)
      by_cases hpq : p = q
      · subst hpq
        have e : ((fixN (nat xs) S P i).set p ((fixN (nat xs) S P i).getD p 0 ^^^ S.getD i 0)).getD p 0 = at_ wd p := by
          rw [List.getD_eq_getElem?_getD, List.getElem?_set_self hlen, Option.getD_some, hold, hS i (by omega), hq1, Int.toNat_natCast]
          unfold dif
          rw [← Nat.xor_assoc, Nat.xor_self, Nat.zero_xor]
        exact ⟨fun h => absurd hq1 (h i (by omega)), fun _ => e⟩
      · have e : ((fixN (nat xs) S P i).set q ((fixN (nat xs) S P i).getD q 0 ^^^ S.getD i 0)).getD p 0 = (fixN (nat xs) S P i).getD p 0 := by
          rw [List.getD_eq_getElem?_getD, List.getElem?_set_ne (fun e => hpq e.symm), ← List.getD_eq_getElem?_getD]
        rw [e]
        refine ⟨fun h => (ih' p).1 (fun j hj => h j (by omega)), fun ⟨j, hj, hjp⟩ => ?_⟩
        by_cases hji : j = i
        · subst hji; rw [hq1] at hjp; omega
        · exact (ih' p).2 ⟨j, by omega, hjp⟩
  have hn : fixN (nat xs) S P P.length = nat wd := by
    refine Gf.ext_getD 0 (by rw [fixN_length, Gf.nat_length, Gf.nat_length, hl]) (fun p hp => ?_)
    rw [fixN_length, Gf.nat_length] at hp
    have hk := key P.length (Nat.le_refl _) p
    show _ = at_ wd p
    by_cases h : xs.getD p 0 = wd.getD p 0
    · have hat : at_ xs p = at_ wd p := (at_inj hx hw hp (by omega)).2 h
      by_cases hm : ∃ j, j < P.length ∧ P.getD j 0 = (p : Int)
      · exact hk.2 hm
      · rw [hk.1 (fun j hj e => hm ⟨j, hj, e⟩)]
        exact hat
    · obtain ⟨j, h1, h2⟩ := unpN_has xs wd xs.length p hp h
      rw [← hP] at h1 h2
      exact hk.2 ⟨j, h1, h2⟩
  rw [hn]
  exact Gf.ci_nat hw
theorem decode_right {xs wd : List Int} {t : Nat} (hx : wdOk xs t = true) (hw : wdOk wd t = true) (hl : xs.length = wd.length) (hb : isB wd t = true) (hfew : (unpN xs wd xs.length).length ≤ t) :
    decW xs t = (wd, ((unpN xs wd xs.length).length : Int), true) := by
  obtain ⟨n, f⟩ := wd_facts hx
  have hnt' : n = t := by have := f.nt; omega
  subst hnt'
  obtain ⟨_, _, x3, x4⟩ := Gf.wdOk_yes hx
  obtain ⟨_, _, w3, w4⟩ := Gf.wdOk_yes hw
  have n1 := f.n1
  have n3 := f.n3
  obtain ⟨P, hP⟩ : ∃ P, P = unpN xs wd xs.length := ⟨_, rfl⟩
  have hok := unpN_ok xs wd xs.length
  rw [← hP] at hfew hok ⊢
  by_cases h0 : P.length = 0
  · have hxe : xs = wd := by
      refine Gf.ext_getD 0 hl (fun p hp => ?_)
      by_cases h : xs.getD p 0 = wd.getD p 0
      · exact h
      · have := unpN_mem xs wd xs.length p hp h
        rw [← hP] at this
        omega
    rw [decW_is hx (by rw [hxe]; exact hb), h0, hxe]
    rfl
  have hPl : PlOk P := fun i hi => by
    obtain ⟨p, a, b, _, d⟩ := hok i hi
    rw [a]
    exact ⟨by omega, by omega, d⟩
  have hi : isB xs n = false := by
    cases hh : isB xs n with
    | false => rfl
    | true =>
      exfalso
      have := far_apart x4 w4 hl x3 (m := 2 * n) (by omega) (fun k hk => by rw [isB_at hh hk, isB_at hb hk]) (by rw [← hP]; omega)
      rw [← hP] at this
      omega
  obtain ⟨e, he⟩ : ∃ e : Nat → Nat, e = fun j => dif xs wd (P.getD j 0).toNat := ⟨_, rfl⟩
  obtain ⟨X, hX⟩ : ∃ X : Nat → Nat, X = fun j => p2 (P.getD j 0).toNat := ⟨_, rfl⟩
  have he256 : ∀ i, e i < 256 := fun i => by rw [he]; exact dif_lt x4 w4 _
  have hX256 : ∀ i, X i < 256 := fun i => by rw [hX]; exact Gf.p2_lt _
  have hu : ∀ i j, i < P.length → j < P.length → i ≠ j → X i ≠ X j := by
    intro i j hi hj hne hh
    obtain ⟨p, a, b, _, d⟩ := hok i hi
    obtain ⟨q, a2, b2, _, d2⟩ := hok j hj
    rw [hX] at hh
    have hh' : p2 (P.getD i 0).toNat = p2 (P.getD j 0).toNat := hh
    rw [a, a2, Int.toNat_natCast, Int.toNat_natCast] at hh'
    have := Gf.p2_inj (by omega) (by omega) hh'
    subst this
    rcases Nat.lt_or_gt_of_ne hne with h | h
    · have := d2 i h; omega
    · have := d j h; omega
  have hne0 : ∀ i, i < P.length → e i ≠ 0 := by
    intro i hi h
    obtain ⟨p, a, b, c, _⟩ := hok i hi
    rw [he] at h
    have h' : dif xs wd (P.getD i 0).toNat = 0 := h
    rw [a, Int.toNat_natCast] at h'
    exact c ((at_inj x4 w4 b (by omega)).1 (Gf.xor_zero_eq h'))
  obtain ⟨S, hS⟩ : ∃ S, S = nat (synI xs (2 * n)) := ⟨_, rfl⟩
  have hSl : S.length = 2 * n := by rw [hS, Gf.nat_length]; exact f.sl
  have hSlt : AllLt S := by rw [hS]; exact f.sn
  have hSk : ∀ k, k < 2 * n → fn S k = ev (pow 2 k) xs := fun k hk => by
    have h1 := at_eq (synI xs (2 * n)) k
    rw [Gf.synI_get _ _ _ hk, Int.toNat_natCast] at h1
    rw [← h1, hS]
    rfl
  have hev : ∀ k, k < 2 * n → ev (pow 2 k) xs = vs e X k P.length := fun k hk => by
    have h1 := dif_vs x4 w4 hl (k := k) (by omega) xs.length (Nat.le_refl _) x3
    rw [← hP] at h1
    have h2 : sp (dif xs wd) (pow 2 k) xs.length = sp (at_ xs) (pow 2 k) xs.length ^^^ sp (at_ wd) (pow 2 k) xs.length := Gf.sp_xor (at_lt x4) (at_lt w4) _
    rw [← ev_at x4 (Gf.pow_lt _ _) _ (Nat.le_refl _), ← ev_at w4 (Gf.pow_lt _ _) _ (by omega), isB_at hb hk, Nat.xor_zero] at h2
    rw [← h2, h1, he, hX]
  have hsv : ∀ k, k < S.length → fn S k = vs e X k P.length := fun k hk => by rw [hSk k (by omega)]; exact hev k (by omega)
  obtain ⟨hlong, hroot⟩ := Gf.bm_roots hSlt he256 hX256 hu hsv (by omega) hne0
  have hinv := Gf.bm_inv hSlt S.length (Nat.le_refl _)
  have hcl : (locN S).length ≤ (Gf.bmTo S S.length).long + 1 := by
    unfold Gf.locN
    rw [Gf.cutNl_length]
    exact Gf.cutN_bound _ (fun i hi _ => by
      rw [Gf.ci_getD]
      have := hinv.top i (by omega)
      unfold Gf.fn at this
      rw [this]; rfl)
  obtain ⟨c, hc⟩ : ∃ c, c = locC xs n := ⟨_, rfl⟩
  have hcN : c = ci (locN S) := by
    rw [hc, hS]
    show ci (locN (nat (synI xs (2 * (n : Int).toNat)))) = _
    rw [Int.toNat_natCast]
  have hclen : c.length = (locN S).length := by rw [hcN, Gf.ci_length]
  have hrt : ∀ p, p < xs.length → xs.getD p 0 ≠ wd.getD p 0 → ev (ip p) c = 0 := by
    intro p hp hne
    obtain ⟨j, h1, h2⟩ := unpN_has xs wd xs.length p hp hne
    rw [← hP] at h1 h2
    have hr := hroot j h1
    rw [hX] at hr
    have hr' : Gf.rv (fn (Gf.bmTo S S.length).c) (p2 (P.getD j 0).toNat) (Gf.bmTo S S.length).long ((Gf.bmTo S S.length).long + 1) = 0 := hr
    rw [h2, Int.toNat_natCast] at hr'
    have h3 := Gf.rv_sp (l := (Gf.bmTo S S.length).long) hinv.cl (Gf.p2_lt p) (Gf.ip_lt p) (Gf.p2_ip (by omega)) ((Gf.bmTo S S.length).long + 1) (Nat.le_refl _)
    have h3' : Gf.mul (px (ip p) (Gf.bmTo S S.length).long) (Gf.rv (fn (Gf.bmTo S S.length).c) (p2 p) (Gf.bmTo S S.length).long ((Gf.bmTo S S.length).long + 1)) = sp (fn (Gf.bmTo S S.length).c) (ip p) ((Gf.bmTo S S.length).long + 1) := h3
    rw [hr', Gf.mul_zero] at h3'
    rw [hcN, Gf.ev_ci]
    have hlt : AllLt (locN S) := Gf.cutNl_lt hinv.cl
    rw [Gf.evn_fun (Gf.ip_lt p) hlt _ hcl]
    have h5 : sp (fn (locN S)) (ip p) ((Gf.bmTo S S.length).long + 1) = sp (fn (Gf.bmTo S S.length).c) (ip p) ((Gf.bmTo S S.length).long + 1) := Gf.sp_congr _ (fun i _ => Gf.cutNl_fn (Gf.bmTo S S.length).c i)
    exact h5.trans h3'.symm
  have hcmp := plc_cmp (c := c) xs.length hrt
  rw [← hP] at hcmp
  obtain ⟨r, hlf⟩ := lft_all (c := c) (by rw [hc]; exact f.cg) (by rw [hc]; exact f.c1) xs.length x3
  have hsum := hlf.sum
  have hpos := hlf.pos
  have hPe : P = plcN c xs.length := hcmp.2 (by omega)
  have hplc : plcW xs n = P := by rw [hPe, hc]; rfl
  have hp : plOkW xs n = true := by
    unfold plOkW
    rw [hplc, ← hc]
    refine decide_eq_true ⟨?_, by omega, by omega⟩
    have := hcmp.1
    omega
  have hsok : (slvR (vanM P) ((synI xs (2 * n)).take P.length)).2 = true := by
    refine van_ok hPl (by omega) (by omega) (by rw [List.length_take, f.sl]; omega) ?_
    rw [List.all_eq_true]
    intro x hx
    exact List.all_eq_true.1 f.sel x (List.mem_of_mem_take hx)
  obtain ⟨Z, hZ1, hZ2, _, _, hZ3, _, _, hZ4⟩ := slv_facts hsok
  rw [vanM_length] at hZ2 hZ4
  have hZe : ∀ j, j < P.length → Z.getD j 0 = e j := by
    have hz := Gf.vand_zero P.length (fun j => Z.getD j 0 ^^^ e j) X (fun j => Gf.xor_lt (hZ3 j) (he256 j)) hX256 hu (fun k hk => by
      rw [Gf.vs_add hZ3 he256]
      have h1 := hZ4 k hk
      rw [vanM_get _ _ hk, van_dot hPl (by omega) hZ3 hk] at h1
      have h2 : ((synI xs (2 * n)).take P.length).getD k 0 = ((ev (pow 2 k) xs : Nat) : Int) := by
        rw [List.getD_eq_getElem?_getD, List.getElem?_take, if_pos hk, ← List.getD_eq_getElem?_getD, Gf.synI_get _ _ _ (by omega)]
      rw [h2, Int.toNat_natCast, hev k (by omega)] at h1
      have h1' : vs (fun j => Z.getD j 0) X k P.length = vs e X k P.length := by rw [hX]; rw [hX] at h1; exact h1
      rw [h1', Nat.xor_self])
    intro j hj
    exact Gf.xor_zero_eq (hz j hj)
  have hout : outW xs n = wd := by
    unfold outW fixW
    rw [hplc, Int.toNat_natCast, hZ1, nat_ci]
    exact fix_right hP x4 w4 hl (fun j hj => by rw [hZe j hj, he])
  have := decW_yes hx hi hp (by rw [hout]; exact hb)
  rw [hout] at this
  rw [this, hP]
end Go.Proofs.YtogopakmebiomaaDoor

namespace Go.Proofs.YtogopakmebiomaaDoor
open Go.RowKit

/-- The value v is a slice of bytes that can be read, in this world. -/
def RdB (w : World) (v : Value) : Prop :=
  ∃ a cap, ∃ zs : List Nat, v = .slice a zs.length cap ∧ zs.length ≤ 281474976710656 ∧ Gf.AllLt zs ∧
    (zs = [] ∨ ∃ b off, a = some ⟨b, off, none⟩ ∧ b < w.heap.size ∧ ∀ i, i < zs.length → w.cell? ⟨b, off + i, none⟩ = some (.int .u8 (zs.getD i 0 : Nat)))
theorem RdB.below {w w' : World} {v : Value} (h : RdB w v) (hb : Below w.heap.size w w') : RdB w' v := by
  obtain ⟨a, cap, zs, rfl, h1, h2, h3⟩ := h
  refine ⟨a, cap, zs, rfl, h1, h2, ?_⟩
  rcases h3 with h3 | ⟨b, off, rfl, hlt, hc⟩
  · exact .inl h3
  · exact .inr ⟨b, off, rfl, Nat.lt_of_lt_of_le hlt hb.size, fun i hi => (hb.cell (p := ⟨b, off + i, none⟩) hlt).trans (hc i hi)⟩
/-- The cursor in block g: over the bytes cv, not further than k. -/
structure CurS (w : World) (g : Nat) (cv : Value) (k : Nat) : Prop where
  at_ : ∃ (n : Nat) (s : Int), n ≤ k ∧ w.heap[g]? = some (.cells #[cv, .int .i64 n, .int .u64 s] 89 (0, 0))
  code : ∀ w', w.grownBy w' (some g) → RdB w' cv
theorem grown_trans {w w' w'' : World} {row : Option Nat} (h : w.grownBy w' row) (k : w'.grownBy w'' row) : w.grownBy w'' row := Gf.grownBy_trans h k
theorem CurS.mono {w : World} {g k k' : Nat} {cv : Value} (h : CurS w g cv k) (hk : k ≤ k') : CurS w g cv k' := by
  obtain ⟨n, s, hn, hh⟩ := h.at_
  exact ⟨⟨n, s, by omega, hh⟩, h.code⟩
theorem CurS.alloc {w : World} {g k : Nat} {cv : Value} (h : CurS w g cv k) (o : Obj) : CurS (w.alloc o) g cv k := by
  obtain ⟨n, s, hn, hh⟩ := h.at_
  have hlt : g < w.heap.size := (Array.getElem?_eq_some_iff.1 hh).1
  exact ⟨⟨n, s, hn, (Below.heap_alloc w o g hlt).trans hh⟩, fun w' hg => h.code w' (grown_trans (World.grownBy_alloc w o _) hg)⟩
theorem i64_small {x : Int} (h0 : 0 ≤ x) (h : x < 256) : IntKind.i64.wrap x = x := by rw [Gf.wrap_i64]; omega
theorem u64_and255 (x : Int) (h0 : 0 ≤ x) (h : x < 18446744073709551616) : bits .and .u64 x 255 = x % 256 := by
  obtain ⟨X, rfl⟩ := Int.eq_ofNat_of_zero_le h0
  show IntKind.u64.wrap ((BitVec.ofInt 64 (X : Int) &&& BitVec.ofInt 64 ((255 : Nat) : Int)).toNat : Int) = _
  have e : X &&& 255 = X % 256 := Nat.and_two_pow_sub_one_eq_mod X 8
  rw [BitVec.toNat_and, Gf.ofInt_i64, Gf.ofInt_i64, Nat.mod_eq_of_lt (by omega), Nat.mod_eq_of_lt (by omega), e, IntKind.wrap_u64]
  omega

theorem cur_moved {w : World} {g n k m m' : Nat} {cv : Value} {s s' : Int} (hh : w.heap[g]? = some (.cells #[cv, .int .i64 n, .int .u64 s] 89 (0, 0))) (hn : n ≤ k) (code : ∀ w', w.grownBy w' (some g) → RdB w' cv) :
    CurS ((((w.drewN m).setCell ⟨g, 1, none⟩ (.int .i64 ((n : Int) + 1))).setCell ⟨g, 2, none⟩ (.int .u64 s')).drewN m') g cv (k + 1) ∧
      w.grownBy ((((w.drewN m).setCell ⟨g, 1, none⟩ (.int .i64 ((n : Int) + 1))).setCell ⟨g, 2, none⟩ (.int .u64 s')).drewN m') (some g) := by
  have h1 : ((w.drewN m).setCell ⟨g, 1, none⟩ (.int .i64 ((n : Int) + 1))).heap[g]? = some (.cells #[cv, .int .i64 ((n : Int) + 1), .int .u64 s] 89 (0, 0)) :=
    heap_setCell_same (w.drewN m) g 1 _ _ _ hh
  have h2 : (((w.drewN m).setCell ⟨g, 1, none⟩ (.int .i64 ((n : Int) + 1))).setCell ⟨g, 2, none⟩ (.int .u64 s')).heap[g]? = some (.cells #[cv, .int .i64 ((n : Int) + 1), .int .u64 s'] 89 (0, 0)) :=
    heap_setCell_same _ g 2 _ _ _ h1
  have hg : w.grownBy ((((w.drewN m).setCell ⟨g, 1, none⟩ (.int .i64 ((n : Int) + 1))).setCell ⟨g, 2, none⟩ (.int .u64 s')).drewN m') (some g) := by
    refine ⟨rfl, rfl, rfl, by simp [World.drewN], fun j _ hj => ?_⟩
    have hne : j ≠ g := fun e => hj (by rw [e])
    exact (Below.heap_setCell _ ⟨g, 2, none⟩ _ j hne).trans (Below.heap_setCell (w.drewN m) ⟨g, 1, none⟩ _ j hne)
  exact ⟨⟨⟨n + 1, s', by omega, by simpa using h2⟩, fun w' hw => code w' (grown_trans hg hw)⟩, hg⟩
theorem seed_bd (x : Int) : ∃ r : Nat, r < 256 ∧ wrap64 (bits .and .u64 (IntKind.u64.wrap x / 1099511627776) 255) = (r : Int) := by
  have h0 : 0 ≤ IntKind.u64.wrap x := wrap_u64_nonneg x
  have h1 : IntKind.u64.wrap x < 18446744073709551616 := by rw [IntKind.wrap_u64]; omega
  rw [u64_and255 _ (by omega) (by omega)]
  refine ⟨(IntKind.u64.wrap x / 1099511627776 % 256).toNat, by omega, ?_⟩
  unfold wrap64
  omega

set_option maxRecDepth 100000 in
set_option maxHeartbeats 1600000 in
theorem next_calls (g : Nat) (cv : Value) (k : Nat) (w : World) (h : CurS w g cv k) (hk : k ≤ 1073741824) :
    Calls Tryd.prog 135 #[.pointer (some ⟨g, 0, none⟩)] w fun e w' => ∃ r : Nat, r < 256 ∧ e = .returned (.int .i64 r) ∧ CurS w' g cv (k + 1) ∧ w.grownBy w' (some g) := by
  obtain ⟨n, s, hn, hh⟩ := h.at_
  have C := hide h.code
  have hR := h.code w (World.grownBy.refl _ _)
  obtain ⟨a, cap, zs, rfl, hz1, hz2, h3⟩ := hR
  have hc0 : w.cell? ⟨g, 0, none⟩ = some (.slice a zs.length cap) := by rw [cell_of_row w g 0 _ _ _ hh]; rfl
  have hc1 : w.cell? ⟨g, 1, none⟩ = some (.int .i64 n) := by rw [cell_of_row w g 1 _ _ _ hh]; rfl
  have hc2 : w.cell? ⟨g, 2, none⟩ = some (.int .u64 s) := by rw [cell_of_row w g 2 _ _ _ hh]; rfl
  have hf1 : w.frozen? ⟨g, 1, none⟩ = false := frozen_of_row w g 1 _ _ hh
  have hf2 : w.frozen? ⟨g, 2, none⟩ = false := frozen_of_row w g 2 _ _ hh
  have HH := hide hh
  clear hh h
  by_cases hlt : n < zs.length
  · rcases h3 with h3 | ⟨b, off, rfl, hbs, hcz⟩
    · subst h3; simp at hlt
    have hz := hcz n hlt
    clear hcz
    obtain ⟨z, hzz⟩ : ∃ z, z = zs.getD n 0 := ⟨_, rfl⟩
    have hz256 : z < 256 := by rw [hzz]; exact hz2 n
    rw [← hzz] at hz
    clear hzz
    have t1 : (n : Int) < (zs.length : Int) := by omega
    have t2 : (n : Int) + 1 ≤ (zs.length : Int) := by omega
    go_enter Tryd.func135, Tryd.ntmps135
    go_wp2
    go_quiet (fail)
    go_wp2
    go_quiet (fail)
    go_wp2
    go_quiet (fail)
    go_wp2
    go_ret
    exact ⟨z, hz256, rfl, cur_moved HH.out hn C.out⟩
  · clear h3
    have t1 : ¬ (n : Int) < (zs.length : Int) := by omega
    have t2 : ¬ (n : Int) + 1 ≤ (zs.length : Int) := by omega
    go_enter Tryd.func135, Tryd.ntmps135
    go_wp2
    go_quiet (fail)
    go_wp2
    go_quiet (fail)
    go_wp2
    go_ret
    obtain ⟨r, hr, e⟩ := seed_bd (IntKind.u64.wrap (IntKind.u64.wrap (s * 6364136223846793005)) + 1442695040888963407)
    exact ⟨r, hr, Gf.ret_int e, cur_moved HH.out hn C.out⟩

set_option maxRecDepth 100000 in
set_option maxHeartbeats 800000 in
theorem pick_calls (g : Nat) (cv : Value) (k n : Nat) (w : World) (h : CurS w g cv k) (hk : k ≤ 1000000000) (hn0 : 1 ≤ n) (hn : n ≤ 65536) :
    Calls Tryd.prog 93 #[.pointer (some ⟨g, 0, none⟩), .int .i64 n] w fun e w' => ∃ r : Nat, r < n ∧ e = .returned (.int .i64 r) ∧ CurS w' g cv (k + 2) ∧ w.grownBy w' (some g) := by
  have H := hide h
  clear h
  by_cases h1 : n ≤ 1
  · have t : (n : Int) ≤ 1 := by omega
    go_enter Tryd.func93, Tryd.ntmps93
    go_wp2
    go_ret
    exact ⟨0, by omega, rfl, H.out.mono (by omega), World.grownBy.refl _ _⟩
  · have t : ¬ (n : Int) ≤ 1 := by omega
    by_cases h2 : 200 < n
    · have t2 : (200 : Int) < (n : Int) := by omega
      go_enter Tryd.func93, Tryd.ntmps93
      go_wp2_with fail
      refine (next_calls g cv k _ H.out (by omega)).mono ?_
      rintro e w1 ⟨r1, hr1, rfl, hc1, hg1⟩
      have C1 := hide hc1
      have G1 := hide hg1
      clear hc1 hg1 H
      go_wp2_with fail
      refine (next_calls g cv (k + 1) _ C1.out (by omega)).mono ?_
      rintro e w2 ⟨r2, hr2, rfl, hc2, hg2⟩
      have C2 := hide hc2
      have G2 := hide (grown_trans G1.out hg2)
      clear hc2 hg2
      have hnz : ((n : Int) == 0) = false := by simp; omega
      have hnz' : (n : Int) ≠ 0 := by omega
      go_wp2
      go_ret
      exact ⟨(r1 * 256 + r2) % n, Nat.mod_lt _ (by omega), Gf.ret_int (by simp), C2.out, G2.out⟩
    · have t2 : ¬ (200 : Int) < (n : Int) := by omega
      go_enter Tryd.func93, Tryd.ntmps93
      go_wp2_with fail
      refine (next_calls g cv k _ H.out (by omega)).mono ?_
      rintro e w1 ⟨r1, hr1, rfl, hc1, hg1⟩
      have C1 := hide hc1
      have G1 := hide hg1
      clear hc1 hg1 H
      have hnz : ((n : Int) == 0) = false := by simp; omega
      have hnz' : (n : Int) ≠ 0 := by omega
      go_wp2
      go_ret
      exact ⟨r1 % n, Nat.mod_lt _ (by omega), Gf.ret_int (by simp), C1.out.mono (by omega), G1.out⟩

set_option maxRecDepth 100000 in
theorem one_calls (g : Nat) (cv : Value) (k n : Nat) (w : World) (h : CurS w g cv k) (hk : k ≤ 1000000000) (hn0 : 1 ≤ n) (hn : n ≤ 65536) :
    Calls Tryd.prog 94 #[.pointer (some ⟨g, 0, none⟩), .int .i64 n] w fun e w' => ∃ b : Bool, e = .returned (.bool b) ∧ CurS w' g cv (k + 2) ∧ w.grownBy w' (some g) := by
  have H := hide h
  clear h
  go_enter Tryd.func94, Tryd.ntmps94
  go_wp2_with fail
  refine (pick_calls g cv k n _ H.out hk hn0 hn).mono ?_
  rintro e w1 ⟨r1, hr1, rfl, hc1, hg1⟩
  have C1 := hide hc1
  have G1 := hide hg1
  clear hc1 hg1 H
  go_wp2
  go_ret
  exact ⟨_, rfl, C1.out, G1.out⟩

set_option maxRecDepth 100000 in
set_option maxHeartbeats 800000 in
theorem among_calls (g : Nat) (cv v : Value) (xs : List Int) (k : Nat) (w : World) (h : CurS w g cv k) (hk : k ≤ 1000000000) (hr : ∀ w', w.grownBy w' (some g) → Rd w' v xs) (h0 : 1 ≤ xs.length) (hl : xs.length ≤ 200) :
    Calls Tryd.prog 136 #[.pointer (some ⟨g, 0, none⟩), v] w fun e w' => ∃ z : Int, e = .returned (.int .i64 z) ∧ CurS w' g cv (k + 2) ∧ w.grownBy w' (some g) := by
  have H := hide h
  have R := hide hr
  have hr0 := hr w (World.grownBy.refl _ _)
  obtain ⟨a, cap, rfl, _, _, _⟩ := hr0
  clear h hr
  go_enter Tryd.func136, Tryd.ntmps136
  go_wp2_with fail
  refine (pick_calls g cv k xs.length _ H.out hk h0 (by omega)).mono ?_
  rintro e w1 ⟨r1, hr1, rfl, hc1, hg1⟩
  have C1 := hide hc1
  have G1 := hide hg1
  obtain ⟨a', cap', hv, _, _, h3⟩ := R.out w1 hg1
  have hv2 : a' = a := by simp at hv; exact hv.1.symm
  subst hv2
  clear hv hc1 hg1 H
  rcases h3 with h3 | ⟨b, off, rfl, hbs, hc⟩
  · subst h3; simp at h0
  have hcell := hc r1 hr1
  obtain ⟨z, hz⟩ : ∃ z, z = xs.getD r1 0 := ⟨_, rfl⟩
  rw [← hz] at hcell
  clear hz hc
  have t : (r1 : Int) < (xs.length : Int) := by omega
  go_wp2
  go_ret
  exact ⟨z, rfl, C1.out, G1.out⟩

theorem rd_build {w : World} {l : List Int} {g : Nat} (hg : g < w.heap.size) (hm : l.length ≤ maxLen) : ∀ w', (w.alloc (.cells (l.map (Value.int .i64)).toArray 3)).grownBy w' (some g) → Rd w' (.slice (some ⟨w.heap.size, 0, none⟩) l.length l.length) l := by
  intro w' hg'
  have hO : Own (w.alloc (.cells (l.map (Value.int .i64)).toArray 3)) w.heap.size (.slice (some ⟨w.heap.size, 0, none⟩) l.length l.length) l := by
    have := World.ownsRow_lit (base := w.heap.size) (e := 3) (size := 1) w (l.map (Value.int .i64)).toArray l.length (Nat.le_refl _) hm (by simp)
    simpa using this
  exact Own.rd (World.ownsRow.kept hO hg' (.inr (by simp [Value.ownBlock]; omega)))

end Go.Proofs.YtogopakmebiomaaDoor

namespace Go.Proofs.YtogopakmebiomaaDoor
open Go.RowKit

theorem cur_new {w : World} {cv : Value} (h : RdB w cv) : CurS (w.alloc (.cells #[cv, .int .i64 0, .int .u64 0] 89)) w.heap.size cv 0 := by
  refine ⟨⟨0, 0, Nat.le_refl _, heap_alloc_new w _⟩, fun w' hg => ?_⟩
  have hb : Below w.heap.size w w' := ((Below.refl _ _).alloc (Nat.le_refl _) _).grown hg (by simp) (fun k hk => by simp at hk; omega)
  exact h.below hb

theorem cur_below {w w' : World} {cv : Value} (hg : (w.alloc (.cells #[cv, .int .i64 0, .int .u64 0] 89)).grownBy w' (some w.heap.size)) : Below w.heap.size w w' :=
  ((Below.refl _ _).alloc (Nat.le_refl _) _).grown hg (by simp) (fun k hk => by simp at hk; omega)


set_option maxRecDepth 100000 in
set_option maxHeartbeats 800000 in
theorem numberOf_calls (cv : Value) (w : World) (h : RdB w cv) :
    Calls Tryd.prog 31 #[cv] w fun e w' => ∃ n : Nat, n < 1000003 ∧ e = .returned (.int .i64 n) ∧ w = w' := by
  obtain ⟨a, cap, zs, rfl, h1, h2, h3⟩ := h
  have H := hide h3
  clear h3
  go_enter Tryd.func31, Tryd.ntmps31
  go_wp2
  go_loop [3, 8] (fun vn vi => ∃ k n : Nat, k ≤ zs.length ∧ vi = .int .i64 k ∧ vn = .int .i64 n ∧ n < 1000003) (fun _ vi => zs.length - (intOf vi).toNat)
  case atStart => exact ⟨0, 0, Nat.zero_le _, rfl, rfl, by omega⟩
  case round =>
    obtain ⟨k, n, hk, rfl, rfl, hn⟩ := hrel
    by_cases hlt : k < zs.length
    · rcases H.out with h3 | ⟨b, off, rfl, hbs, hc⟩
      · subst h3; simp at hlt
      have hc1 := hc k hlt
      clear hc
      obtain ⟨z, hz⟩ : ∃ z, z = zs.getD k 0 := ⟨_, rfl⟩
      have hz256 : z < 256 := by rw [hz]; exact h2 k
      rw [← hz] at hc1
      clear hz
      go_wp2
      go_round
      case rel => exact ⟨k + 1, (31 * n + z) % 1000003, by omega, by go_num, Gf.int_eq (by simp), by omega⟩
      case measure => simp [intOf]; omega
    · obtain rfl : k = zs.length := by omega
      go_wp2
      go_ret
      exact ⟨n, hn, rfl, rfl⟩

theorem curS_lt {w : World} {g k : Nat} {cv : Value} (h : CurS w g cv k) : g < w.heap.size := by
  obtain ⟨n, s, _, hh⟩ := h.at_
  exact (Array.getElem?_eq_some_iff.1 hh).1

theorem own_keep {w w' : World} {base g : Nat} {v : Value} {xs : List Int} (h : Own w base v xs) (hg : w.grownBy w' (some g)) (hb : g < base) : Own w' base v xs := by
  refine World.ownsRow.kept h hg ?_
  cases hv : v.ownBlock with
  | none => exact .inl rfl
  | some j =>
    right
    intro e
    have := (h.lt j hv).1
    simp at e
    omega

/-- A cursor stays behind a step that touches none but new blocks and one row of ours. -/
theorem CurS.far {w w' : World} {g k : Nat} {cv : Value} {row : Option Nat} (h : CurS w g cv k) (hg : w.grownBy w' row) (hr : ∀ j, row = some j → j ≠ g) (hrb : ∀ w2, w'.grownBy w2 (some g) → RdB w2 cv) : CurS w' g cv k := by
  obtain ⟨n, s, hn, hh⟩ := h.at_
  refine ⟨⟨n, s, hn, ?_⟩, hrb⟩
  rw [hg.block g (curS_lt h) (fun e => hr g e.symm rfl)]
  exact hh


theorem grown_far {w w2 w3 : World} {g : Nat} {row : Option Nat} (h : w.grownBy w2 (some g)) (k : w2.grownBy w3 row) (hr : ∀ j, row = some j → w.heap.size ≤ j) : w.grownBy w3 (some g) :=
  ⟨k.os.trans h.os, k.tape.trans h.tape, k.output.trans h.output, Nat.le_trans h.size k.size, fun j hj hne => (k.block j (Nat.lt_of_lt_of_le hj h.size) (fun e => by have := hr j e.symm; omega)).trans (h.block j hj hne)⟩

theorem grown_low {w w' : World} {g : Nat} (h : w.grownBy w' (some g)) (hg : g < w.heap.size) : Below g w w' :=
  ⟨h.os, h.tape, h.output, h.size, fun k hk => h.block k (by omega) (by simp; omega)⟩


theorem draw_low {w : World} {cv : Value} (h : RdB w cv) : ∀ w', Below w.heap.size (w.alloc (.cells #[cv, .int .i64 0, .int .u64 0] 89)) w' → RdB w' cv := fun _ hb =>
  h.below (((Below.refl _ _).alloc (Nat.le_refl _) _).trans hb)


end Go.Proofs.YtogopakmebiomaaDoor

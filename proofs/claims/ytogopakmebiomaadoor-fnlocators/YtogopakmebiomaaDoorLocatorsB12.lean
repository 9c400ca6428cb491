/-
  A multiple added to a list that is made longer where it must be, and the shortest rule of syndromes: the model's functions, call by call. No condition. The shortest rule of syndromes: the model's l4Locator and LocatorOf, call by call. No condition. Facts for the law of locators: another message makes a word that is unlike at more places than twice so many; a locator begins with 1. No condition. The law's own comparing of lists: two that are alike. Each contract says what it asks.
-/
import Derived.Test.YtogopakmebiomaaDoorLocatorsB11
import Derived.Test.YtogopakmebiomaaDoorLocatorsB10
namespace Go.Proofs.YtogopakmebiomaaDoor
open Go.RowKit
namespace Gf

theorem rd_single4 {w : World} {z : Int} : Rd (w.alloc (.cells #[.int .i64 z] 3)) (.slice (some ⟨w.heap.size, 0, none⟩) 1 1) [z] := by
  refine ⟨_, 1, rfl, Nat.le_refl _, ⟨by unfold maxLen; omega, fun h => by cases h⟩, .inr ⟨_, 0, rfl, by simp, fun i hi => ?_⟩⟩
  simp at hi
  subst hi
  exact World.cell?_alloc_at _ _ _ _ (by simp)
theorem ci_app (a b : List Nat) : ci (a ++ b) = ci a ++ ci b := by simp [ci]
def padJ (p : List Nat) (j : Nat) : List Nat := p ++ List.replicate j 0
theorem padJ_step (p : List Nat) (j : Nat) : ci (padJ p j) ++ [0] = ci (padJ p (j + 1)) := by
  unfold padJ
  rw [List.replicate_succ', ← List.append_assoc, ci_app _ [0]]
  rfl
theorem padJ_length (p : List Nat) (j : Nat) : (padJ p j).length = p.length + j := by simp [padJ]

set_option maxRecDepth 100000 in
set_option maxHeartbeats 3200000 in
theorem l4Add_calls (pv qv : Value) (p q : List Nat) (F A : Nat) (w : World) (hp : Rd w pv (ci p)) (hq : Rd w qv (ci q)) (hpl : AllLt p) (hql : AllLt q) (hF : F < 256) (hpn : p.length ≤ 64) (hqn : q.length ≤ 64) (hA : A ≤ 64) (hA1 : 1 ≤ A) :
    Calls Tryd.prog 131 #[pv, qv, .int .i64 F, .int .i64 A] w fun e w' => ∃ v', e = .returned v' ∧ Own w' w.heap.size v' (ci (smAdd p q F A)) ∧ Below w.heap.size w w' := by
  have P := hide hp
  have Q := hide hq
  have PL := hide hpl
  have QL := hide hql
  obtain ⟨pa, pc, rfl, _, _, _⟩ := hp
  obtain ⟨qa, qc, rfl, _, _, _⟩ := hq
  simp only [ci_length]
  have P1 : Hid (Rd w (.slice pa p.length pc) (ci p)) := by have := P.out; rwa [ci_length] at this
  clear P
  obtain ⟨D, hD⟩ : ∃ D, D = q.length + A - p.length := ⟨_, rfl⟩
  have HR : Hid (smAdd p q F A = amTo (padJ p D) q F A q.length) := by rw [hD]; rfl
  obtain ⟨res, hres⟩ : ∃ r, r = smAdd p q F A := ⟨_, rfl⟩
  rw [← hres]
  have RES := hide hres
  have hDp : D ≤ 128 := by omega
  have hDq : q.length + A ≤ p.length + D := by omega
  have hDz : ∀ j, j < D → p.length + j < q.length + A := by omega
  have HDZ := hide hDz
  clear hpl hql hres hD hDz
  have OO : Hid ((w.alloc (.cells #[] 3)).ownsRow w.heap.size 3 1 (.slice (some ⟨w.heap.size, 0, none⟩) 0 0) 0 (([] : List Int).map (Value.int .i64))) := World.ownsRow_lit w #[] 0 (Nat.le_refl _) (by decide) (by rfl)
  have PP := hide (P1.out.below ((Below.refl w.heap.size w).alloc (Nat.le_refl _) (.cells #[] 3)))
  go_enter Tryd.func131, Tryd.ntmps131
  go_wp2_with (at_builtin; refine wpList_append_rd rfl (.tmp 12) (.tmp 13) rfl w.heap.size _ 0 [] (ci p) rfl OO.out _ rfl PP.out (by rw [ci_length]; omega) (by simp) ?_)
  intro v1 w1 ho1 hg1
  have hb1 : Below w.heap.size w w1 := ((Below.refl w.heap.size w).alloc (Nat.le_refl _) _).grown hg1 (by simp) (fun i hi => by cases hi; exact Nat.le_refl _)
  have O1 := hide ho1
  have B1 := hide hb1
  clear ho1 hg1 hb1
  go_wp2
  go_loopw [9] (fun vo wr => ∃ j : Nat, j ≤ D ∧ Own wr w.heap.size vo (ci (padJ p j)) ∧ Below w.heap.size w wr) (fun vo _ => p.length + D - lenOf vo)
  case atStart => exact ⟨0, Nat.zero_le _, by rw [show padJ p 0 = p from by simp [padJ]]; exact O1.out, B1.out⟩
  case round =>
    obtain ⟨j, hj, ho, hb⟩ := hrel
    have O := hide ho
    have B := hide hb
    obtain ⟨M, hM⟩ : ∃ M, M = p.length + j := ⟨_, rfl⟩
    have hl : (ci (padJ p j)).length = M := by rw [ci_length, padJ_length, hM]
    have HLL := hide hl
    have HM := hide hM
    obtain ⟨oa, oc, hov, _, _, _⟩ := ho.rd
    rw [hl] at hov
    subst hov
    clear ho hb hl
    by_cases hlt : j < D
    · have hlt' : (M : Int) < (q.length : Int) + (A : Int) := by have := HDZ.out j hlt; omega
      have hM64 : M ≤ 256 := by omega
      obtain ⟨M2, hM2⟩ : ∃ M2, M2 = p.length + (j + 1) := ⟨_, rfl⟩
      have hmeas : p.length + D - M2 < p.length + D - M := by omega
      have HM2 := hide hM2
      have OA : Hid (wr.ownsRow w.heap.size 3 1 (.slice oa M oc) M ((ci (padJ p j)).map (Value.int .i64))) := by
        have := O.out
        unfold Own at this
        rw [HLL.out] at this
        exact this
      clear hM hM2
      go_wp2_with (at_builtin; refine wpList_append_rd rfl (.tmp 22) (.tmp 23) rfl w.heap.size _ M (ci (padJ p j)) [0] rfl (OA.out.alloc _) _ rfl rd_single4 (by simp; omega) (by have := B.out.size; simp; omega) ?_)
      intro v2 w2 ho2 hg2
      have hb2 : Below w.heap.size w w2 := (B.out.alloc B.out.size _).grown hg2 (by have := B.out.size; simp; omega) (fun i hi => (O.out.lt i hi).1)
      rw [padJ_step] at ho2
      have O2 := hide ho2
      have B2 := hide hb2
      obtain ⟨oa2, oc2, hov2, _, _, _⟩ := ho2.rd
      rw [ci_length, padJ_length, ← HM2.out] at hov2
      subst hov2
      clear ho2 hg2 hb2
      go_wp2
      go_roundw
      case rel => exact ⟨j + 1, by omega, O2.out, B2.out⟩
      case measure => simp only [lenOf]; exact hmeas
    · obtain rfl : j = D := by omega
      have hlt' : ¬ (M : Int) < (q.length : Int) + (A : Int) := by omega
      obtain ⟨S, hS⟩ : ∃ S, S = padJ p j := ⟨_, rfl⟩
      have hMA : A + q.length ≤ M := by omega
      have hM128 : M ≤ 256 := by omega
      have SLn : S.length = M := by rw [hS, padJ_length, hM]
      have SLt : Hid (AllLt S) := by
        rw [hS]
        intro i
        have := padTo_fn p (p.length + j) i
        unfold padTo at this
        rw [Nat.add_sub_cancel_left] at this
        show fn (padJ p j) i < 256
        unfold padJ
        rw [this]
        exact PL.out i
      obtain ⟨g, hog⟩ : ∃ g, oa = some ⟨g, 0, none⟩ := by
        rcases O.out.2 with ⟨h', _⟩ | ⟨g, cap, cur, h', _⟩
        · exfalso
          simp at h'
          omega
        · simp at h'
          exact ⟨g, h'.1⟩
      subst hog
      have O2 : Hid (wr.ownsRow w.heap.size 3 1 (.slice (some ⟨g, 0, none⟩) M oc) M ((ci S).map (Value.int .i64))) := by
        have := O.out
        unfold Own at this
        rw [HLL.out, ← hS] at this
        exact this
      have RES2 : Hid (res = amTo S q F A q.length) := by rw [RES.out, HR.out, hS]; exact hide rfl
      have hg0 : w.heap.size ≤ g := (O2.out.lt g rfl).1
      have HS := hide SLn
      clear O hS SLn hlt hj hM
      go_wp2
      go_loopw [27] (fun vi wx => ∃ k : Nat, k ≤ q.length ∧ vi = .int .i64 k ∧ wx.ownsRow w.heap.size 3 1 (.slice (some ⟨g, 0, none⟩) M oc) M ((ci (amTo S q F A k)).map (Value.int .i64)) ∧ Below w.heap.size w wx) (fun vi _ => q.length - (intOf vi).toNat)
      case atStart => exact ⟨0, Nat.zero_le _, rfl, O2.out, B.out⟩
      case round =>
        obtain ⟨k, hk, rfl, hown, hb⟩ := hrel
        have O := hide hown
        have BB := hide hb
        clear hown hb
        by_cases hlt : k < q.length
        · obtain ⟨b, off, rfl, hc1⟩ := Rd.rowN (Q.out.below BB.out) k hlt
          have hc2 := O.out.frozenAt (A + k)
          have hc3 := O.out.cellAt (A + k) (by omega)
          obtain ⟨z, hz⟩ : ∃ z, z = q.getD k 0 := ⟨_, rfl⟩
          obtain ⟨y, hy⟩ : ∃ y, y = (amTo S q F A k).getD (A + k) 0 := ⟨_, rfl⟩
          rw [List.getElem?_map] at hc3
          have hll : A + k < (ci (amTo S q F A k)).length := by rw [ci_length, amTo_length, HS.out]; omega
          rw [List.getElem?_eq_getElem hll] at hc3
          have h9 := ci_getD (amTo S q F A k) (A + k)
          rw [List.getD_eq_getElem?_getD, List.getElem?_eq_getElem hll, Option.getD_some] at h9
          rw [h9, ← hy] at hc3
          rw [← hz] at hc1
          clear h9 hll
          have e1 : ((k : Int) + (A : Int)).toNat = A + k := by omega
          have i1 : (0 : Int) ≤ (k : Int) + (A : Int) := by omega
          have i2 : (k : Int) + (A : Int) < (M : Int) := by omega
          have i3 : (k : Int) < (q.length : Int) := by omega
          have i4 : IntKind.i64.wrap ((k : Int) + (A : Int)) = (k : Int) + (A : Int) := by rw [wrap_i64]; omega
          have hz256 : z < 256 := by rw [hz]; exact QL.out k
          have hy256 : y < 256 := by rw [hy]; exact amTo_lt SLt.out hF k _
          have Z := hide hz
          have Y := hide hy
          clear hz hy
          go_wp2
          go_region_with (go_at_call 128; refine (l1Mul_calls _ _ _ (by omega) (by omega) (by omega) (by omega)).mono ?_; rintro e w' ⟨rfl, rfl⟩)
          all_goals
            go_wp2
            go_roundw
            case rel =>
              refine ⟨k + 1, by omega, by go_num, ?_, ?_⟩
              · have := (O.out.stored (A + k) (.int .i64 (y ^^^ mul F z : Nat))).1
                rw [← List.map_set, ci_set, Y.out, Z.out] at this
                rw [i64_xor _ _ (by omega) (by have := mul_lt (a := F) (b := z) (by omega); omega), Y.out, Z.out]
                exact this.drew
              · exact (fun {B : Nat} {w w' : World} (h : Below B w w') => (⟨h.os, h.tape, h.output, h.size, h.block⟩ : Below B w w'.drew)) (BB.out.setCell hg0 _)
            case measure => simp [intOf]; omega
        · obtain rfl : k = q.length := by omega
          have O3 : Hid (Own wr w.heap.size (.slice (some ⟨g, 0, none⟩) M oc) (ci res)) := by
            show World.ownsRow _ _ _ _ _ (ci res).length _
            rw [ci_length, RES2.out, amTo_length, HS.out]
            exact O.out
          clear O
          go_wp2
          go_ret
          exact ⟨_, rfl, O3.out, BB.out⟩
end Gf
end Go.Proofs.YtogopakmebiomaaDoor

namespace Go.Proofs.YtogopakmebiomaaDoor
open Go.RowKit
namespace Gf

set_option maxRecDepth 100000 in
set_option maxHeartbeats 6400000 in
theorem l4Locator_calls (v : Value) (s : List Nat) (w : World) (h : Rd w v (ci s)) (hs : AllLt s) (hn : s.length ≤ 6) :
    Calls Tryd.prog 82 #[v] w fun e w' => ∃ v', e = .returned v' ∧ Own w' w.heap.size v' (ci (locN s)) ∧ Below w.heap.size w w' := by
  have R := hide h
  obtain ⟨a, cap, rfl, _, _, _⟩ := h
  simp only [ci_length]
  obtain ⟨L, hL⟩ : ∃ L, L = locN s := ⟨_, rfl⟩
  rw [← hL]
  have HL : Hid (cutNl (smTo s s.length).c = L) := by rw [hL]; exact loc_same hs
  have SL := hide hs
  clear hs hL
  go_enter Tryd.func82, Tryd.ntmps82
  go_wp2
  go_loopw [3, 4, 5, 6, 7, 16] (fun vc vb vg vm vl vk wr => ∃ (k : Nat) (q : Bm), k ≤ s.length ∧ q = smTo s k ∧ vk = .int .i64 k ∧ vl = .int .i64 (q.last : Nat) ∧ vm = .int .i64 (q.m : Nat) ∧ vg = .int .i64 (q.long : Nat) ∧ Rd wr vc (ci q.c) ∧ Rd wr vb (ci q.b) ∧ Below w.heap.size w wr) (fun _ _ _ _ _ vk _ => s.length - (intOf vk).toNat)
  case atStart =>
    refine ⟨0, smTo s 0, Nat.zero_le _, rfl, rfl, rfl, rfl, rfl, ?_, ?_, ((Below.refl _ _).alloc (Nat.le_refl _) _).alloc (by simp) _⟩
    · exact Rd.below rd_single4 ((Below.refl _ _).alloc (Nat.le_refl _) _)
    · have := rd_single4 (w := w.alloc (.cells #[.int .i64 1] 3)) (z := 1)
      have e : (w.alloc (.cells #[.int .i64 1] 3)).heap.size = w.heap.size + 1 := by simp
      rw [e] at this
      exact this
  case round =>
    obtain ⟨k, q, hk, hq, rfl, rfl, rfl, rfl, hrc, hrb, hb⟩ := hrel
    have RC := hide hrc
    have RB := hide hrb
    have B := hide hb
    have Q := hide hq
    have IV : Hid (SmI k q) := by rw [hq]; exact sm_inv s k
    clear hrb hb hq
    by_cases hlt : k < s.length
    · have hlt' : (k : Int) < (s.length : Int) := by omega
      obtain ⟨ca, cc, rfl, _, _, _⟩ := hrc
      have RC2 : Hid (Rd wr (.slice ca q.c.length cc) (ci q.c)) := by have := RC.out; rwa [ci_length] at this
      simp only [ci_length]
      have hlk := IV.out.lk
      have hlc := IV.out.lc
      have hlc2 := IV.out.lc2
      have hlb := IV.out.lb
      have hm1 := IV.out.m1
      obtain ⟨J, hJ⟩ : ∃ J, J = min (q.long + 1) q.c.length := ⟨_, rfl⟩
      have hJ1 : J ≤ q.long + 1 := by omega
      have hJ2 : J ≤ q.c.length := by omega
      have hJ3 : ∀ i, ¬ i < J → i ≤ J → q.long < i ∨ q.c.length ≤ i := by omega
      have HJ3 := hide hJ3
      have HJ := hide hJ
      have CL := hide IV.out.cl
      obtain ⟨WR, rfl⟩ : ∃ W, W = wr := ⟨_, rfl⟩
      clear RC hJ hJ3
      go_wp2
      go_loopw [9, 10] (fun vd vi wx => ∃ i : Nat, i ≤ J ∧ vi = .int .i64 i ∧ vd = .int .i64 (dsc (fn q.c) (fn s) k i : Nat) ∧ Below WR.heap.size WR wx) (fun _ vi _ => J - (intOf vi).toNat)
      case atStart => exact ⟨0, Nat.zero_le _, rfl, rfl, Below.refl _ _⟩
      case round =>
        obtain ⟨i, hi, rfl, rfl, hbx⟩ := hrel
        have BX := hide hbx
        clear hbx
        by_cases hil : i < J
        · have g1 : (i : Int) ≤ (q.long : Int) := by omega
          have g2 : (i : Int) < (q.c.length : Int) := by omega
          have e1 : ((k : Int) - (i : Int)).toNat = k - i := by omega
          have h01 : (0 : Int) ≤ (k : Int) - (i : Int) := by omega
          have h02 : (k : Int) - (i : Int) < (s.length : Int) := by omega
          have i4 : IntKind.i64.wrap ((k : Int) - (i : Int)) = (k : Int) - (i : Int) := by rw [wrap_i64]; omega
          obtain ⟨b1, o1, rfl, hc1⟩ := Rd.rowN (RC2.out.below BX.out) i (by omega)
          obtain ⟨b2, o2, rfl, hc2⟩ := Rd.rowN ((R.out.below B.out).below BX.out) (k - i) (by omega)
          obtain ⟨x, hx⟩ : ∃ x, x = q.c.getD i 0 := ⟨_, rfl⟩
          obtain ⟨y, hy⟩ : ∃ y, y = s.getD (k - i) 0 := ⟨_, rfl⟩
          have hx256 : x < 256 := by rw [hx]; exact CL.out i
          have hy256 : y < 256 := by rw [hy]; exact SL.out _
          obtain ⟨d, hd⟩ : ∃ d, d = dsc (fn q.c) (fn s) k i := ⟨_, rfl⟩
          have hd256 : d < 256 := by rw [hd]; exact dsc_lt CL.out i
          have D : Hid (dsc (fn q.c) (fn s) k (i + 1) = d ^^^ mul x y) := by rw [hd, hx, hy]; rfl
          rw [← hx] at hc1
          rw [← hy] at hc2
          rw [← hd]
          have hm256 := mul_lt (a := x) (b := y) hx256
          have MU : Hid (∀ m, Calls Tryd.prog 128 #[.int .i64 (x : Nat), .int .i64 (y : Nat)] (wr.drewN m) fun e w' => e = .returned (.int .i64 (mul x y : Nat)) ∧ wr.drewN m = w') := fun m => by
            have := l1Mul_calls (x : Nat) (y : Nat) (wr.drewN m) (by omega) (by omega) (by omega) (by omega)
            simp only [Int.toNat_natCast] at this
            exact this
          clear hx hy hd
          go_wp2
          go_quiet ((go_at_call 128; exact quiet_same (MU.out _)))
          clear i4 e1 h01 h02
          go_wp2
          go_roundw
          case rel => exact ⟨i + 1, by omega, by go_num, by rw [D.out, i64_xor _ _ (by omega) (by omega)], below_drewN BX.out _⟩
          case measure => simp [intOf]; omega
        · obtain rfl : i = J := by omega
          obtain ⟨d, hd⟩ : ∃ d, d = smD s k q := ⟨_, rfl⟩
          have hd2 : dsc (fn q.c) (fn s) k i = d := by rw [hd, HJ.out]; rfl
          rw [hd2]
          have hd256 : d < 256 := by rw [hd]; exact smD_lt CL.out
          have DD := hide hd
          have B2 := hide (B.out.trans (BX.out.mono B.out.size))
          have RC3 := hide (RC2.out.below BX.out)
          have RB3 := hide (RB.out.below BX.out)
          have TEST : Hid (((i : Int) ≤ (q.long : Int) ∧ ¬ (i : Int) < (q.c.length : Int)) ∨ ¬ (i : Int) ≤ (q.long : Int)) := by
            show _ ∨ _
            rcases HJ3.out i (Nat.lt_irrefl _) (Nat.le_refl _) with h | h <;> omega
          clear hd hd2 RC2 RB B HJ3 hil hi hJ1 hJ2
          have hll := IV.out.ll
          by_cases hd0 : d = 0
          · have td : (((d : Nat) : Int) == 0) = true := by simp [hd0]
            have NX : Hid (smTo s (k + 1) = ⟨q.c, q.b, q.last, q.m + 1, q.long⟩) := by
              rw [smTo, ← Q.out]
              unfold smStep
              rw [← DD.out, if_pos hd0]
              exact hide rfl
            clear hd0
            rcases TEST.out with ⟨g1, g2⟩ | g1
            all_goals
              go_wp2
              go_roundw
              case rel =>
                refine ⟨k + 1, smTo s (k + 1), by omega, rfl, by go_num, ?_, ?_, ?_, ?_, ?_, B2.out⟩
                · rw [NX.out]
                · rw [NX.out]; go_num
                · rw [NX.out]
                · rw [NX.out]; exact RC3.out
                · rw [NX.out]; exact RB3.out
              case measure => simp [intOf]; omega
          · have td : (((d : Nat) : Int) == 0) = false := by simp [hd0]
            have HD0 := hide hd0
            have hi := inv_lt q.last
            obtain ⟨F, hF⟩ : ∃ F, F = mul d (inv q.last) := ⟨_, rfl⟩
            have hF256 : F < 256 := by rw [hF]; exact mul_lt hd256
            obtain ⟨C, hC⟩ : ∃ C, C = smAdd q.c q.b F q.m := ⟨_, rfl⟩
            have HF := hide hF
            have HC := hide hC
            have DV : Hid (∀ w2, Calls Tryd.prog 127 #[.int .i64 (d : Nat), .int .i64 (q.last : Nat)] w2 fun e w' => e = .returned (.int .i64 (F : Nat)) ∧ w2 = w') := fun w2 => by
              have := l1Div_calls (d : Nat) (q.last : Nat) w2 (by omega) (by omega) (by omega) (by omega)
              simp only [Int.toNat_natCast] at this
              rw [hF]
              exact this
            have BLt := hide IV.out.bl
            have hcn : q.c.length ≤ 64 := by omega
            have hbn : q.b.length ≤ 64 := by omega
            have hmn : q.m ≤ 64 := by omega
            clear hd0 hF hC hi
            have AD : Hid (Calls Tryd.prog 131 #[.slice ca q.c.length cc, u4, .int .i64 (F : Nat), .int .i64 (q.m : Nat)] wr fun e w' => ∃ v', e = .returned v' ∧ Own w' wr.heap.size v' (ci C) ∧ Below wr.heap.size wr w') := by
              rw [HC.out]
              exact l4Add_calls _ _ q.c q.b F q.m wr RC3.out RB3.out CL.out BLt.out hF256 hcn hbn hmn hm1
            by_cases h2 : 2 * q.long ≤ k
            · have h2' : 2 * (q.long : Int) ≤ (k : Int) := by omega
              have NX : Hid (smTo s (k + 1) = ⟨C, q.c, d, 1, k + 1 - q.long⟩) := by
                rw [smTo, ← Q.out]
                unfold smStep
                rw [← DD.out, if_neg HD0.out, if_pos h2, HC.out, HF.out]
                exact hide rfl
              rcases TEST.out with ⟨g1, g2⟩ | g1
              all_goals
                go_wp2_with (first
                  | (go_at_call 127; refine (DV.out _).mono ?_; rintro e w' ⟨rfl, rfl⟩)
                  | (go_at_call 131; refine AD.out.mono ?_; rintro e w3 ⟨v3, rfl, o3, b3⟩))
                have O3 := hide o3.rd
                have B3 := hide (B2.out.trans (b3.mono B2.out.size))
                have RC4 := hide (RC3.out.below b3)
                clear o3 b3
                go_roundw
                case rel =>
                  refine ⟨k + 1, smTo s (k + 1), by omega, rfl, by go_num, ?_, ?_, ?_, ?_, ?_, B3.out⟩
                  · rw [NX.out]
                  · rw [NX.out]; rfl
                  · rw [NX.out]; show _ = Value.int .i64 ((k + 1 - q.long : Nat) : Int); congr 1; omega
                  · rw [NX.out]; exact O3.out
                  · rw [NX.out]; exact RC4.out
                case measure => simp [intOf]; omega
            · have h2' : ¬ 2 * (q.long : Int) ≤ (k : Int) := by omega
              have NX : Hid (smTo s (k + 1) = ⟨C, q.b, q.last, q.m + 1, q.long⟩) := by
                rw [smTo, ← Q.out]
                unfold smStep
                rw [← DD.out, if_neg HD0.out, if_neg h2, HC.out, HF.out]
                exact hide rfl
              rcases TEST.out with ⟨g1, g2⟩ | g1
              all_goals
                go_wp2_with (first
                  | (go_at_call 127; refine (DV.out _).mono ?_; rintro e w' ⟨rfl, rfl⟩)
                  | (go_at_call 131; refine AD.out.mono ?_; rintro e w3 ⟨v3, rfl, o3, b3⟩))
                have O3 := hide o3.rd
                have B3 := hide (B2.out.trans (b3.mono B2.out.size))
                have RB4 := hide (RB3.out.below b3)
                clear o3 b3
                go_roundw
                case rel =>
                  refine ⟨k + 1, smTo s (k + 1), by omega, rfl, by go_num, ?_, ?_, ?_, ?_, ?_, B3.out⟩
                  · rw [NX.out]
                  · rw [NX.out]; go_num
                  · rw [NX.out]
                  · rw [NX.out]; exact O3.out
                  · rw [NX.out]; exact RB4.out
                case measure => simp [intOf]; omega
    · obtain rfl : k = s.length := by omega
      go_wp2_with fail
      refine (l1Cut_calls _ (ci q.c) _ RC.out (by rw [ci_length]; have := IV.out.lc2; omega)).mono ?_
      rintro e w2 ⟨v2, rfl, ho2, hb2⟩
      have O2 : Hid (Own w2 w.heap.size v2 (ci L)) := by
        have := ho2.mono (base' := w.heap.size) B.out.size
        rw [cutL_nl, Q.out, HL.out] at this
        exact this
      have B2 := hide (B.out.trans (hb2.mono B.out.size))
      clear ho2 hb2
      go_wp2
      go_ret
      exact ⟨_, rfl, O2.out, B2.out⟩
set_option maxRecDepth 100000 in
set_option maxHeartbeats 1600000 in
theorem sLocatorOf_calls (v : Value) (xs : List Int) (w : World) (h : Rd w v xs) :
    Calls Tryd.prog 25 #[v] w fun e w' => ∃ v', e = .returned (.tuple #[v', .bool (locR xs).2]) ∧ Own w' w.heap.size v' (locR xs).1 ∧ Below w.heap.size w w' := by
  have R := hide h
  obtain ⟨a, cap, rfl, g1, g2, _⟩ := h
  have hm : xs.length ≤ maxLen := by omega
  unfold maxLen at hm
  clear g1 g2
  by_cases h1 : (2 : Int) ≤ (xs.length : Int) ∧ (xs.length : Int) ≤ 6
  case neg =>
    rw [locR_no (locOk_no (by omega))]
    have D := hide (decide_eq_false h1)
    clear h1
    go_enter Tryd.func25, Tryd.ntmps25
    go_wp2_with fail
    refine (l1In_calls _ _ _ _).mono ?_
    rw [D.out]
    rintro e w' ⟨rfl, rfl⟩
    go_wp2
    go_ret2
    exact ⟨_, rfl, own_nil _ _, Below.refl _ _⟩
  have D := hide (decide_eq_true h1)
  have hand := i64_and1 xs.length (by omega)
  by_cases h2 : xs.length % 2 = 0
  case neg =>
    rw [locR_no (locOk_no (by omega))]
    have t2 : (bits .and .i64 (xs.length : Int) 1 == 1) = true := by rw [hand]; simp; omega
    clear h1 h2 hand
    go_enter Tryd.func25, Tryd.ntmps25
    go_wp2_with fail
    refine (l1In_calls _ _ _ _).mono ?_
    rw [D.out]
    rintro e w' ⟨rfl, rfl⟩
    go_wp2
    go_ret2
    exact ⟨_, rfl, own_nil _ _, Below.refl _ _⟩
  have t2 : (bits .and .i64 (xs.length : Int) 1 == 1) = false := by rw [hand, h2]; rfl
  cases h4 : xs.all elOk with
  | false =>
    rw [locR_no (locOk_no (by rw [h4]; simp))]
    have E := hide h4
    clear h1 h2 hand h4
    go_enter Tryd.func25, Tryd.ntmps25
    go_wp2_with fail
    refine (l1In_calls _ _ _ _).mono ?_
    rw [D.out]
    rintro e w' ⟨rfl, rfl⟩
    go_wp2_with fail
    refine (l1All_calls _ xs _ R.out).mono ?_
    rw [E.out]
    rintro e w' ⟨rfl, rfl⟩
    go_wp2
    go_ret2
    exact ⟨_, rfl, own_nil _ _, Below.refl _ _⟩
  | true =>
    have hok : locOk xs = true := by
      simp only [locOk, h4, Bool.and_true, decide_eq_true_eq]
      omega
    rw [locR_yes hok]
    have E := hide h4
    have hcn := ci_natp (fun c hc => elOk_iff.1 (List.all_eq_true.1 h4 c hc))
    have RN : Hid (Rd w (.slice a xs.length cap) (ci (nat xs))) := by rw [hcn]; exact R.out
    have NL := hide (nat_ltp (fun c hc => elOk_iff.1 (List.all_eq_true.1 h4 c hc)))
    have N6 : Hid ((nat xs).length ≤ 6) := by show (nat xs).length ≤ 6; rw [nat_length]; omega
    clear h1 h2 hand h4 hok hcn
    go_enter Tryd.func25, Tryd.ntmps25
    go_wp2_with fail
    refine (l1In_calls _ _ _ _).mono ?_
    rw [D.out]
    rintro e w' ⟨rfl, rfl⟩
    go_wp2_with fail
    refine (l1All_calls _ xs _ R.out).mono ?_
    rw [E.out]
    rintro e w' ⟨rfl, rfl⟩
    go_wp2_with fail
    refine (l4Locator_calls _ (nat xs) _ RN.out NL.out N6.out).mono ?_
    rintro e w1 ⟨v1, rfl, ho1, hb1⟩
    have O1 := hide ho1
    have B1 := hide hb1
    clear ho1 hb1
    go_wp2
    go_ret2
    exact ⟨_, rfl, O1.out, B1.out⟩
end Gf
end Go.Proofs.YtogopakmebiomaaDoor

namespace Go.Proofs.YtogopakmebiomaaDoor
open Go.RowKit
open Gf (ci nat AllLt p2 vs px sp fn ev evn pow wdOk isB)

theorem rd_dropL {w : World} {b off n cap : Nat} {xs : List Int} (h : Rd w (.slice (some ⟨b, off, none⟩) n cap) xs) (p : Nat) (hp : p < xs.length) : Rd w (.slice (some ⟨b, off + p, none⟩) (n - p) (cap - p)) (xs.drop p) := by
  obtain ⟨a', cap', hv, h1, h2, h3⟩ := h
  simp only [Value.slice.injEq] at hv
  obtain ⟨rfl, rfl, rfl⟩ := hv
  have hl : (xs.drop p).length = xs.length - p := List.length_drop
  refine ⟨_, cap - p, by rw [hl], by rw [hl]; omega, ⟨by have := h2.1; omega, fun h => by cases h⟩, ?_⟩
  rcases h3 with h3 | ⟨b', off', he, hlt, hc⟩
  · subst h3; simp at hp
  · simp only [Option.some.injEq, Addr.mk.injEq, and_true] at he
    obtain ⟨rfl, rfl⟩ := he
    refine .inr ⟨b, off + p, rfl, hlt, fun i hi => ?_⟩
    rw [hl] at hi
    have := hc (p + i) (by omega)
    rw [← Nat.add_assoc] at this
    rw [this]
    simp [List.getD_eq_getElem?_getD]
def msgL (xs : List Int) (t d : Nat) : List Int := (xs.drop (2 * t)).set 0 ((at_ xs (2 * t) ^^^ d : Nat) : Int)
theorem locs_far {xs : List Int} {t d : Nat} (hw : wdOk xs t = true) (hb : isB xs t = true) (hd1 : 1 ≤ d) (hd : d < 256) :
    Gf.encW (msgL xs t d) t = (Gf.wordW (msgL xs t d) t, true) ∧ (Gf.wordW (msgL xs t d) t).length = xs.length ∧ 2 * t < (unpN (Gf.wordW (msgL xs t d) t) xs (Gf.wordW (msgL xs t d) t).length).length := by
  obtain ⟨h1, h2, h3, h4⟩ := Gf.wdOk_yes hw
  obtain ⟨q1, q3⟩ := Gf.wOk_iff.1 h1
  have hml : (msgL xs t d).length = xs.length - 2 * t := by simp [msgL]
  have hX := at_lt h4 (2 * t)
  have hXd := Gf.xor_lt hX hd
  have hme : (msgL xs t d).all Gf.elOk = true := by
    unfold msgL
    refine all_setE ?_ hXd
    rw [List.all_eq_true]
    intro x hx
    exact List.all_eq_true.1 h4 x (List.mem_of_mem_drop hx)
  have hok : Gf.meOk (msgL xs t d) t = true := Gf.meOk_mk h1 (by omega) (by omega) hme
  have hwl := Gf.wordW_length (n := t) (by omega) hme (by omega)
  have hwl' : (Gf.wordW (msgL xs t d) t).length = xs.length := by omega
  have hwe := wordW_el (n := t) (by omega) hme (by omega)
  refine ⟨by have := Gf.encW_yes hok; rwa [Int.toNat_natCast] at this, hwl', ?_⟩
  by_cases hfew : (unpN (Gf.wordW (msgL xs t d) t) xs (Gf.wordW (msgL xs t d) t).length).length ≤ 2 * t
  · exfalso
    have h0 := far_apart hwe h4 hwl' (by omega) (m := 2 * t) (by omega) (fun k hk => by rw [word_syn (by omega) hme (by omega) hk hwe, isB_at hb hk]) hfew
    have hne : (Gf.wordW (msgL xs t d) t).getD (2 * t) 0 ≠ xs.getD (2 * t) 0 := by
      have e1 : (Gf.wordW (msgL xs t d) t).getD (2 * t) 0 = ((at_ xs (2 * t) ^^^ d : Nat) : Int) := by
        unfold Gf.wordW
        have := Gf.rest_len (n := t) (by omega) hme (by omega)
        rw [getD_spl, if_neg (by omega)]
        unfold Gf.rawW
        rw [List.getD_eq_getElem?_getD, List.getElem?_append_right (by rw [List.length_replicate]; omega), List.length_replicate, Nat.sub_self]
        unfold msgL
        rw [List.getElem?_set_self (by rw [List.length_drop]; omega)]
        rfl
      rw [e1]
      intro e
      have e2 := at_eq xs (2 * t)
      rw [← e, Int.toNat_natCast] at e2
      have e3 : at_ xs (2 * t) ^^^ (at_ xs (2 * t) ^^^ d) = 0 := by rw [← e2, Nat.xor_self]
      rw [← Nat.xor_assoc, Nat.xor_self, Nat.zero_xor] at e3
      omega
    have := unpN_mem (Gf.wordW (msgL xs t d) t) xs (Gf.wordW (msgL xs t d) t).length (2 * t) (by omega) hne
    omega
  · omega
theorem loc_head {xs : List Int} (h : (Gf.locR xs).2 = true) : 1 ≤ (Gf.locR xs).1.length ∧ (Gf.locR xs).1.getD 0 0 = 1 := by
  cases hok : Gf.locOk xs with
  | false => rw [Gf.locR_no hok] at h; cases h
  | true =>
    rw [Gf.locR_yes hok]
    obtain ⟨h1, h2⟩ := Gf.locOk_yes hok
    have hsn := Gf.nat_lt h2
    have hinv := Gf.bm_inv hsn (nat xs).length (Nat.le_refl _)
    have e : Gf.fn (Gf.locN (nat xs)) 0 = 1 := by
      unfold Gf.locN
      rw [Gf.cutNl_fn, hinv.one]
    constructor
    · show 1 ≤ (ci (Gf.locN (nat xs))).length
      rw [Gf.ci_length]
      by_cases h0 : (Gf.locN (nat xs)).length = 0
      · rw [Gf.fn_far (by omega)] at e; cases e
      · omega
    · show (ci (Gf.locN (nat xs))).getD 0 0 = 1
      rw [Gf.ci_getD]
      unfold Gf.fn at e
      rw [e]
      rfl
end Go.Proofs.YtogopakmebiomaaDoor

namespace Go.Proofs.YtogopakmebiomaaDoor
open Go.RowKit

set_option maxRecDepth 100000 in
set_option maxHeartbeats 800000 in
theorem sameInts_quiet (v1 v2 : Value) (xs : List Int) (w : World) (h1 : Rd w v1 xs) (h2 : Rd w v2 xs) :
    Calls Tryd.prog 30 #[v1, v2] w fun e w' => e = .returned (.bool true) ∧ ∃ n, w' = w.drewN n := by
  obtain ⟨a1, c1, rfl, _, m1, k1⟩ := h1
  obtain ⟨a2, c2, rfl, _, _, k2⟩ := h2
  have hm : xs.length ≤ maxLen := by omega
  unfold maxLen at hm
  have K := hide k1
  have L := hide k2
  clear k1 k2 m1
  go_enter Tryd.func30, Tryd.ntmps30
  go_wp2
  go_loopw [13] (fun vi wr => ∃ k n : Nat, k ≤ xs.length ∧ vi = .int .i64 k ∧ wr = w.drewN n) (fun vi _ => xs.length - (intOf vi).toNat)
  case atStart => exact ⟨0, 0, Nat.zero_le _, rfl, rfl⟩
  case round =>
    obtain ⟨k, n, hk, rfl, rfl⟩ := hrel
    by_cases hlt : k < xs.length
    · rcases K.out with h3 | ⟨b, off, rfl, hbs, hc⟩
      · subst h3; simp at hlt
      rcases L.out with h3 | ⟨b', off', rfl, hbs', hc'⟩
      · subst h3; simp at hlt
      have e1 : w.cell? ⟨b, off + k, none⟩ = some (.int .i64 (xs.getD k 0)) := hc k hlt
      have e2 : w.cell? ⟨b', off' + k, none⟩ = some (.int .i64 (xs.getD k 0)) := hc' k hlt
      have hlt' : (k : Int) < (xs.length : Int) := by omega
      clear hc hc'
      go_wp2
      go_quiet (fail)
      go_wp2
      go_roundw
      case rel => exact ⟨k + 1, _, by omega, by go_num, rfl⟩
      case measure => simp [intOf]; omega
    · obtain rfl : k = xs.length := by omega
      go_wp2
      go_ret
      exact ⟨rfl, _, rfl⟩
theorem sameInts_same (v1 v2 : Value) (xs : List Int) (w : World) (h1 : Rd w v1 xs) (h2 : Rd w v2 xs) :
    Calls Tryd.prog 30 #[v1, v2] w fun e w' => e = .returned (.bool true) ∧ Below w.heap.size w w' :=
  (sameInts_quiet v1 v2 xs w h1 h2).mono (fun _ _ ⟨h, n, hn⟩ => ⟨h, hn ▸ below_drewN' n⟩)

set_option maxRecDepth 100000 in
set_option maxHeartbeats 800000 in
theorem sameLists_same (v1 v2 : Value) (m : List (List Int)) (w : World) (h1 : RdM w v1 m) (h2 : RdM w v2 m) :
    Calls Tryd.prog 42 #[v1, v2] w fun e w' => e = .returned (.bool true) ∧ Below w.heap.size w w' := by
  have K := hide h1
  have L := hide h2
  obtain ⟨a1, c1, rfl, _, m1, k1⟩ := h1
  obtain ⟨a2, c2, rfl, _, _, k2⟩ := h2
  have hm : m.length ≤ maxLen := by omega
  unfold maxLen at hm
  clear k1 k2 m1
  go_enter Tryd.func42, Tryd.ntmps42
  go_wp2
  go_loopw [13] (fun vi wr => ∃ k : Nat, k ≤ m.length ∧ vi = .int .i64 k ∧ Below w.heap.size w wr) (fun vi _ => m.length - (intOf vi).toNat)
  case atStart => exact ⟨0, Nat.zero_le _, rfl, Below.refl _ _⟩
  case round =>
    obtain ⟨k, hk, rfl, hb⟩ := hrel
    by_cases hlt : k < m.length
    · obtain ⟨b, off, u, rfl, hc1, hu⟩ := (K.out.below hb).row k hlt
      obtain ⟨b', off', u', rfl, hc2, hu'⟩ := (L.out.below hb).row k hlt
      have U := hide hu
      have U' := hide hu'
      have hlt' : (k : Int) < (m.length : Int) := by omega
      have B := hide hb
      clear hu hu' hb
      go_wp2
      go_quiet ((go_at_call 30; exact quiet_more (sameInts_quiet _ _ _ _ (Rd.drewN U.out _) (Rd.drewN U'.out _))))
      go_wp2
      go_roundw
      case rel => exact ⟨k + 1, by omega, by go_num, below_drewN B.out _⟩
      case measure => simp [intOf]; omega
    · obtain rfl : k = m.length := by omega
      go_wp2
      go_ret
      exact ⟨rfl, hb⟩

end Go.Proofs.YtogopakmebiomaaDoor

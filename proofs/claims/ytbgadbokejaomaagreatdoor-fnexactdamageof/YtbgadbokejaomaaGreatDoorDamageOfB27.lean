/-
  A column cleared: the program's function and its model's, call by call. Each contract says what it asks. The model's clearing of a column in a matrix and in another beside it, in one call. The contract says what it asks.
-/
import Derived.Test.YtbgadbokejaomaaGreatDoorDamageOfB26
namespace Go.Proofs.YtbgadbokejaomaaGreatDoor
open Go.RowKit
open Gf (ci ciM swapM pf piv Sh AllLt clearM addRow headM opM hOf fOf clr sc inv mul amTo)

set_option maxRecDepth 100000 in
set_option maxHeartbeats 1600000 in
theorem clearColumn_calls (v : Value) (M : List (List Nat)) (n c by_ col lo hi : Nat) (w : World) (hT : Gf.Tab w) (h : Mat w lo hi v (ciM M)) (hs : Sh M n c) (ha : by_ < n) (hc : col < c) (hn : n ≤ 1048576) (hcn : c ≤ 1048576) (hlo : 1 < lo) :
    Calls Tryz.prog 249 #[v, .int .i64 by_, .int .i64 col] w fun e w' => e = .returned (.tuple #[]) ∧ Mat w' lo hi v (ciM (clearM M by_ (fun i => (M.getD i []).getD col 0) n)) ∧ Chg lo hi w w' := by
  obtain ⟨vs, h⟩ := h
  have hlen := hs.len
  obtain ⟨g, cap, hv, _, _, _, _⟩ := h.open (by rw [Gf.ciM_length, hlen]; omega)
  rw [Gf.ciM_length, hlen] at hv
  subst hv
  obtain ⟨fs, hfs⟩ : ∃ fs : Nat → Nat, fs = fun i => (M.getD i []).getD col 0 := ⟨_, rfl⟩
  rw [← hfs]
  have hf256 : ∀ i, fs i < 256 := fun i => by rw [hfs]; exact hs.elt i col
  have F256 := hide hf256
  have FS := hide hfs
  have H := hide h
  have S := hide hs
  have HL := hide hlen
  have T := hide hT
  have hc' : (col : Int) < (c : Int) := by omega
  have ha' : (by_ : Int) < (n : Int) := by omega
  clear h hs hlen hT hfs hf256
  go_enter Tryz.func249, Tryz.ntmps249
  go_wp2
  go_loopw [10] (fun vi wr => ∃ k : Nat, k ≤ n ∧ vi = .int .i64 k ∧ MatV wr lo hi (.slice (some ⟨g, 0, none⟩) n cap) vs (ciM (clearM M by_ fs k)) ∧ Chg lo hi w wr) (fun vi _ => n - (intOf vi).toNat)
  case atStart => exact ⟨0, Nat.zero_le _, rfl, by rw [Gf.clearM_zero]; exact H.out, Chg.refl _ _ _⟩
  case round =>
    obtain ⟨k, hk, rfl, hM, hC⟩ := hrel
    have SC := hide (S.out.clear ha F256.out k)
    have MH := hide hM
    have C := hide hC
    clear hC
    by_cases hlt : k < n
    · have hlt' : (k : Int) < (n : Int) := by omega
      have hkl : k < (ciM (clearM M by_ fs k)).length := by rw [Gf.ciM_length, SC.out.len]; exact hlt
      have hbl : by_ < (ciM (clearM M by_ fs k)).length := by rw [Gf.ciM_length, SC.out.len]; exact ha
      have hck := hM.cell k hkl
      have hro := hM.row k hkl
      rw [Gf.ciM_get] at hro
      obtain ⟨g2, cap2, hu, _, _, _, _⟩ := hro.open1 (by rw [Gf.ci_length, SC.out.row k hlt]; omega)
      rw [Gf.ci_length, SC.out.row k hlt] at hu
      have HU := hide hu
      by_cases heq : k = by_
      · subst heq
        rw [hu] at hck
        have e1 : ((k : Int) == (k : Int)) = true := by simp
        clear hM hro hu
        go_wp2
        go_roundw
        case rel =>
          refine ⟨k + 1, by omega, by go_num, ?_, C.out⟩
          rw [← Gf.clearM_skip]
          exact MH.out
        case measure => simp [intOf]; omega
      · have e1 : ((k : Int) == (by_ : Int)) = false := by simp; omega
        have hcb := hM.cell by_ hbl
        have hgk : (clearM M by_ fs k).getD k [] = M.getD k [] := by rw [Gf.clearM_get _ _ _ _ _ (by rw [HL.out]; exact hlt), if_neg (fun h' => by omega)]
        have hgb : (clearM M by_ fs k).getD by_ [] = M.getD by_ [] := by rw [Gf.clearM_get _ _ _ _ _ (by rw [HL.out]; exact ha), if_neg (fun h' => h'.2 rfl)]
        obtain ⟨s, hss⟩ : ∃ s, s = M.getD k [] := ⟨_, rfl⟩
        obtain ⟨q, hqq⟩ : ∃ q, q = M.getD by_ [] := ⟨_, rfl⟩
        rw [hgk, ← hss] at hro
        have hsl : s.length = c := by rw [hss]; exact S.out.row k hlt
        have hql : q.length = c := by rw [hqq]; exact S.out.row by_ ha
        have hslt : AllLt s := by rw [hss]; exact S.out.lt k hlt
        have hqlt : AllLt q := by rw [hqq]; exact S.out.lt by_ ha
        obtain ⟨u, huu⟩ : ∃ u, u = vs.getD k nilRow := ⟨_, rfl⟩
        obtain ⟨bu, hbu⟩ : ∃ bu, bu = vs.getD by_ nilRow := ⟨_, rfl⟩
        rw [← hbu] at hcb
        have hO := hro
        rw [hu] at hck hro
        obtain ⟨_, hce⟩ := hro.at col (by rw [Gf.ci_length, hsl]; exact hc)
        rw [Gf.ci_getD] at hce
        obtain ⟨x, hx⟩ : ∃ x, x = s.getD col 0 := ⟨_, rfl⟩
        rw [← hx] at hce
        have hxf : fs k = x := by rw [FS.out, hx, hss]
        have hx256 : x < 256 := by rw [← hxf]; exact F256.out k
        have hnx : addRow (M.getD k []) (M.getD by_ []) (fs k) = amTo s q x 0 q.length := by rw [← hss, ← hqq, hxf, Gf.amTo_add s q x (by rw [hql, hsl])]
        have NX := hide hnx
        have O := hide hro
        have QL := hide hql
        have SL := hide hsl
        have QLT := hide hqlt
        have SLT := hide hslt
        have BU := hide hbu
        have KL := hide hkl
        have TT := hide (Gf.tab_chg T.out C.out hlo)
        have TG : Hid (∀ w', wr.grownBy w' (some g2) → Gf.Tab w') := fun w' hg => Gf.tab_grown TT.out hg (fun k hk => by have := (World.ownsRow.lt O.out k hk).1; omega)
        have QG : Hid (∀ w', wr.grownBy w' (some g2) → Rd w' bu (ci q)) := fun w' hg => by
          have := MH.out.other k by_ KL.out hbl (fun h => heq h.symm) (by rw [HU.out]; exact hg)
          rw [Gf.ciM_get, hgb, ← hqq, ← BU.out] at this
          exact this.rd
        have i0 : (0 : Int) ≤ (k : Int) := by omega
        have i1 : (0 : Int) ≤ (by_ : Int) := by omega
        have i2 : (0 : Int) ≤ (col : Int) := by omega
        clear hM hO hro hu hgk hgb hss hqq hsl hql hslt hqlt huu hbu hx hxf hnx hkl hbl
        go_wp2
        go_region_with (go_at_call 241; refine (Gf.addMultiple_calls (.slice (some ⟨g2, 0, none⟩) c cap2) bu s q x 0 lo wr.drew (fun w' hg => TG.out w' ⟨hg.os, hg.tape, hg.output, hg.size, hg.block⟩) (by exact O.out.drew) (fun w' hg => QG.out w' ⟨hg.os, hg.tape, hg.output, hg.size, hg.block⟩) (by omega) (by omega) (by omega) (by rw [QL.out, SL.out]; omega) (by rw [SL.out]; omega) SLT.out QLT.out (by rw [SL.out]; omega)).mono ?_; rintro e w' ⟨rfl, ho, hg⟩)
        all_goals
          have ho2 : Own w' lo (vs.getD k nilRow) (ci (addRow (M.getD k []) (M.getD by_ []) (fs k))) := by
            rw [NX.out, HU.out]
            simpa using ho
          have hg2' : wr.grownBy w' (vs.getD k nilRow).ownBlock := by
            rw [HU.out]
            exact ⟨hg.os, hg.tape, hg.output, hg.size, hg.block⟩
          have W2 := hide (MH.out.write k KL.out _ ho2 hg2')
          have C3 := hide (C.out.trans (MH.out.writeChg k KL.out hg2'))
          clear ho hg ho2 hg2'
          go_wp2
          go_roundw
          case rel =>
            refine ⟨k + 1, by omega, by go_num, ?_, C3.out⟩
            have := W2.out
            rw [Gf.ciM_set, Gf.clearM_step _ _ _ _ heq] at this
            exact this
          case measure => simp [intOf]; omega
    · obtain rfl : k = n := by omega
      clear hM
      go_wp2
      go_end0
      exact ⟨rfl, ⟨_, MH.out⟩, C.out⟩

/-- What the program's reduction does at a column that has something: rows swapped, made to begin with 1, the others cleared. -/
theorem clr_parts (M : List (List Nat)) (n c at_ col p : Nat) (hs : Sh M n c) (ha : at_ < n) (hp : p < n) :
    clearM (headM (swapM M at_ p) at_ (((swapM M at_ p).getD at_ []).getD col 0)) at_ (fun i => ((headM (swapM M at_ p) at_ (((swapM M at_ p).getD at_ []).getD col 0)).getD i []).getD col 0) n = clr M at_ col p := by
  have e1 : ((swapM M at_ p).getD at_ []).getD col 0 = hOf M col p := by
    rw [Gf.swapM_get _ _ _ _ (by rw [hs.len]; exact ha) (by rw [hs.len]; exact hp)]
    unfold hOf
    by_cases e : at_ = p
    · rw [if_pos e, e]
    · rw [if_neg e, if_pos rfl]
  unfold clr opM
  rw [e1, hs.len]
  unfold clearM
  apply List.map_congr_left
  intro i hi
  by_cases e : i < n ∧ i ≠ at_
  · rw [if_pos e, if_pos e]
    congr 1
    unfold fOf headM
    dsimp only
    rw [getD_set _ _ _ _ _ (by rw [Gf.swapM_length, hs.len]; exact ha), if_neg e.2]
  · rw [if_neg e, if_neg e]

set_option maxRecDepth 100000 in
set_option maxHeartbeats 1600000 in
theorem reduceRows_calls (v : Value) (M : List (List Nat)) (n c cols lo hi : Nat) (w : World) (hT : Gf.Tab w) (h : Mat w lo hi v (ciM M)) (hs : Sh M n c) (h1 : 1 ≤ n) (hc : cols ≤ c) (hn : n ≤ 1048576) (hcn : c ≤ 1048576) (hlo : 1 < lo) :
    Calls Tryz.prog 221 #[v, .int .i64 cols] w fun e w' => e = .returned (.int .i64 (Gf.redM M cols).1) ∧ Mat w' lo hi v (ciM (Gf.redM M cols).2) ∧ Chg lo hi w w' := by
  have S := hide hs
  have hlen := hs.len
  obtain ⟨va, vc, hv⟩ : ∃ a c, v = .slice a n c := by
    obtain ⟨vs, h⟩ := h
    obtain ⟨g, cap, hv, _⟩ := h.open (by rw [Gf.ciM_length, hlen]; omega)
    rw [Gf.ciM_length, hlen] at hv
    exact ⟨_, _, hv⟩
  subst hv
  have H := hide h
  have HL := hide hlen
  have T := hide hT
  obtain ⟨res, hres⟩ : ∃ r, r = Gf.redM M cols := ⟨_, rfl⟩
  rw [← hres]
  have RS := hide hres
  clear h hs hlen hT hres
  go_enter Tryz.func221, Tryz.ntmps221
  go_wp2
  go_loopw [5, 6] (fun vd vk wr => ∃ k d : Nat, ∃ A : List (List Nat), k ≤ cols ∧ d ≤ n ∧ Gf.redM M k = (d, A) ∧ vk = .int .i64 k ∧ vd = .int .i64 d ∧ Mat wr lo hi (.slice va n vc) (ciM A) ∧ Chg lo hi w wr) (fun _ vk _ => cols - (intOf vk).toNat)
  case atStart => exact ⟨0, 0, M, Nat.zero_le _, Nat.zero_le _, rfl, rfl, rfl, H.out, Chg.refl _ _ _⟩
  case round =>
    obtain ⟨k, d, A, hk, hd, hr, rfl, rfl, hM, hC⟩ := hrel
    have MH := hide hM
    have C := hide hC
    have HR := hide hr
    have hsa := (S.out.red k).1
    rw [hr] at hsa
    have SA := hide hsa
    clear hM hC hr hsa
    have done : (¬ k < cols ∨ ¬ d < n) → res = (d, A) := by
      intro hh
      rw [RS.out]
      rcases hh with hh | hh
      · obtain rfl : k = cols := by omega
        exact HR.out
      · obtain ⟨j, hj⟩ : ∃ j, cols = k + j := ⟨cols - k, by omega⟩
        rw [hj, Gf.redM_stop (by rw [HR.out, HL.out]; simp only []; omega), HR.out]
    have DN := hide done
    clear done
    by_cases hlt : k < cols
    · have hlt' : (k : Int) < (cols : Int) := by omega
      by_cases hdn : d < n
      · have hdn' : (d : Int) < (n : Int) := by omega
        go_wp2_with fail
        refine (swapUp_calls _ A n c d k lo hi _ MH.out SA.out hdn (by omega) hn hcn).mono ?_
        obtain ⟨pv, hpv⟩ : ∃ pv, pv = piv A d k := ⟨_, rfl⟩
        rw [← hpv]
        have PV := hide hpv
        rintro e w1 ⟨rfl, hm1, hc1⟩
        have M1 := hide hm1
        have C1 := hide (C.out.trans hc1)
        clear hm1 hc1
        cases pv with
        | none =>
          clear hpv
          go_wp2
          go_roundw
          case rel =>
            refine ⟨k + 1, d, A, by omega, hd, ?_, by go_num, rfl, M1.out, C1.out⟩
            rw [Gf.redM, HR.out, HL.out, if_pos hdn]
            simp only []
            rw [← PV.out]
          case measure => simp [intOf]; omega
        | some p =>
          have hp := Gf.piv_facts hpv.symm
          rw [SA.out.len] at hp
          clear hpv
          have hpn : p < n := hp.2.1
          clear hp
          have hsw := SA.out.swap d p hdn hpn
          obtain ⟨A1, hA1⟩ : ∃ A1, A1 = swapM A d p := ⟨_, rfl⟩
          have hm1 : Mat w1 lo hi (.slice va n vc) (ciM A1) := by rw [hA1]; exact M1.out
          rw [← hA1] at hsw
          obtain ⟨vs, hm1⟩ := hm1
          have hdl : d < (ciM A1).length := by rw [Gf.ciM_length, hsw.len]; exact hdn
          obtain ⟨g, cap, hv, _, _, _, _⟩ := hm1.open (by rw [Gf.ciM_length, hsw.len]; omega)
          rw [Gf.ciM_length, hsw.len] at hv
          simp only [Value.slice.injEq, true_and] at hv
          obtain ⟨rfl, rfl⟩ := hv
          have hcd := hm1.cell d hdl
          have hro := hm1.row d hdl
          rw [Gf.ciM_get] at hro
          have MV := hide hm1
          have SW := hide hsw
          have RO := hide hro
          have HA1 := hide hA1
          have DL := hide hdl
          obtain ⟨u, hu⟩ : ∃ u, u = vs.getD d nilRow := ⟨_, rfl⟩
          rw [← hu] at hcd
          have U := hide hu
          have T1 := hide (Gf.tab_chg T.out C1.out hlo)
          clear hm1 hsw hro hA1 hdl hu
          go_wp2_with fail
          refine (Gf.headOne_calls u (A1.getD d []) k lo _ T1.out (by rw [U.out]; exact RO.out) hlo (by rw [SW.out.row d hdn]; exact hcn) (SW.out.lt d hdn) (by rw [SW.out.row d hdn]; omega)).mono ?_
          rintro e w2 ⟨rfl, ho, hg⟩
          rw [U.out] at ho hg
          have hm2 := MV.out.write d DL.out _ ho hg
          have hc2 := MV.out.writeChg d DL.out hg
          rw [Gf.ciM_set] at hm2
          have M2 := hide hm2
          have C2 := hide (C1.out.trans hc2)
          have T2 := hide (Gf.tab_chg T.out C2.out hlo)
          have S2 := hide (SW.out.head d ((A1.getD d []).getD k 0) hdn)
          clear ho hg hm2 hc2
          go_wp2_with fail
          refine (clearColumn_calls _ (headM A1 d ((A1.getD d []).getD k 0)) n c d k lo hi _ T2.out ⟨_, M2.out⟩ S2.out hdn (by omega) hn hcn hlo).mono ?_
          rintro e w3 ⟨rfl, hm3, hc3⟩
          have M3 := hide hm3
          have C3 := hide (C2.out.trans hc3)
          clear hm3 hc3
          go_wp2
          go_roundw
          case rel =>
            refine ⟨k + 1, d + 1, clr A d k p, by omega, by omega, ?_, by go_num, by go_num, ?_, C3.out⟩
            · rw [Gf.redM, HR.out, HL.out, if_pos hdn]
              simp only []
              rw [← PV.out]
            · have := M3.out
              rw [HA1.out, clr_parts A n c d k p SA.out hdn hpn] at this
              exact this
          case measure => simp [intOf]; omega
      · go_wp2
        go_ret
        have := DN.out (.inr hdn)
        rw [this]
        exact ⟨rfl, MH.out, C.out⟩
    · go_wp2
      go_ret
      have := DN.out (.inl hlt)
      rw [this]
      exact ⟨rfl, MH.out, C.out⟩
end Go.Proofs.YtbgadbokejaomaaGreatDoor

namespace Go.Proofs.YtbgadbokejaomaaGreatDoor
open Go.RowKit
open Gf (ci ciM swapM pf piv Sh AllLt clearM addRow headM opM hOf fOf clr sc inv mul amTo)

def pvI : Option Nat → Int
  | some p => p
  | none => -1
def clrA (A : List (List Nat)) (at_ col : Nat) : Option Nat → List (List Nat)
  | some p => clr A at_ col p
  | none => A
def clrS (A S : List (List Nat)) (at_ col : Nat) : Option Nat → List (List Nat)
  | some p => opM S at_ p (hOf A col p) (fOf A at_ col p)
  | none => S

set_option maxRecDepth 100000 in
set_option maxHeartbeats 3200000 in
theorem l2Clear_calls (av sv : Value) (A S : List (List Nat)) (n c d at_ col lo1 hi1 lo2 hi2 : Nat) (w : World) (hA : Mat w lo1 hi1 av (ciM A)) (hS : Mat w lo2 hi2 sv (ciM S)) (sa : Sh A n c) (ss : Sh S n d) (ha : at_ < n) (hc : col < c) (hd1 : 1 ≤ d)
    (hn : n ≤ 1048576) (hcn : c ≤ 1048576) (hdn : d ≤ 1048576) (h12 : hi1 ≤ lo2) :
    Calls Tryz.prog 216 #[av, sv, .int .i64 at_, .int .i64 col] w fun e w' => e = .returned (.bool (piv A at_ col).isSome) ∧ Mat w' lo1 hi1 av (ciM (clrA A at_ col (piv A at_ col))) ∧ Mat w' lo2 hi2 sv (ciM (clrS A S at_ col (piv A at_ col))) ∧ Chg lo1 hi2 w w' := by
  have lenA := sa.len
  have lenS := ss.len
  obtain ⟨vsA, hA⟩ := hA
  obtain ⟨vsS, hS⟩ := hS
  obtain ⟨g, cap, hv, hl1, _, _, _⟩ := hA.open (by rw [Gf.ciM_length, lenA]; omega)
  rw [Gf.ciM_length, lenA] at hv
  subst hv
  obtain ⟨sg, scap, hsv, hl2, _, _, _⟩ := hS.open (by rw [Gf.ciM_length, lenS]; omega)
  rw [Gf.ciM_length, lenS] at hsv
  subst hsv
  have ht1 := hA.top g rfl
  have ht2 := hS.top sg rfl
  have hlohi : lo1 ≤ lo2 ∧ hi1 ≤ hi2 := by omega
  have LH := hide hlohi
  clear ht1 ht2 hlohi hl1 hl2
  obtain ⟨pv, hpv⟩ : ∃ pv, pv = piv A at_ col := ⟨_, rfl⟩
  rw [← hpv]
  have PV := hide hpv
  have HA := hide hA
  have HS := hide hS
  have SA := hide sa
  have SS := hide ss
  have LA := hide lenA
  have LS := hide lenS
  have hc' : (col : Int) < (c : Int) := by omega
  have i2 : (0 : Int) ≤ (col : Int) := by omega
  have i3 : (0 : Int) ≤ (at_ : Int) := by omega
  have ha' : (at_ : Int) < (n : Int) := by omega
  clear hpv hA hS sa ss lenA lenS
  go_enter Tryz.func216, Tryz.ntmps216
  go_wp2
  go_loop [9, 10] (fun vp vi => ∃ j : Nat, at_ ≤ j ∧ j ≤ n ∧ vi = .int .i64 ((j : Int) - 1) ∧ vp = .int .i64 (pvI (pf A col (n - j) j))) (fun _ vi => (intOf vi + 1).toNat)
  case atStart =>
    refine ⟨n, by omega, Nat.le_refl _, rfl, ?_⟩
    rw [Nat.sub_self]
    rfl
  case round =>
    obtain ⟨j, hj1, hj2, rfl, rfl⟩ := hrel
    by_cases hlt : at_ < j
    · obtain ⟨i, rfl⟩ : ∃ i, j = i + 1 := ⟨j - 1, by omega⟩
      have e0 : (((i + 1 : Nat) : Int) - 1) = (i : Int) := by omega
      have hin : i < n := by omega
      have hil : i < (ciM A).length := by rw [Gf.ciM_length, LA.out]; exact hin
      have hc1 := HA.out.cell i hil
      have hro := HA.out.row i hil
      rw [Gf.ciM_get] at hro
      obtain ⟨g2, cap2, hu, _, _, _, _⟩ := hro.open1 (by rw [Gf.ci_length, SA.out.row i hin]; omega)
      rw [Gf.ci_length, SA.out.row i hin] at hu
      rw [hu] at hro hc1
      obtain ⟨_, hce⟩ := hro.at col (by rw [Gf.ci_length, SA.out.row i hin]; exact hc)
      rw [Gf.ci_getD] at hce
      obtain ⟨x, hx⟩ : ∃ x, x = (A.getD i []).getD col 0 := ⟨_, rfl⟩
      rw [← hx] at hce
      obtain ⟨old, hold⟩ : ∃ o, o = pvI (pf A col (n - (i + 1)) (i + 1)) := ⟨_, rfl⟩
      rw [← hold]
      have hst := Gf.pf_step (M := A) (col := col) (j := i) (by rw [LA.out]; exact hin)
      rw [← hx, LA.out] at hst
      have ST := hide hst
      have OLD := hide hold
      have i0 : (0 : Int) ≤ (i : Int) := by omega
      have i1 : (i : Int) < (n : Int) := by omega
      have i4 : (at_ : Int) ≤ (i : Int) := by omega
      clear hro hu hx hold hst
      by_cases h0 : x = 0
      · subst h0
        go_wp2
        go_round
        case rel =>
          refine ⟨i, by omega, by omega, by go_num, ?_⟩
          rw [ST.out, if_neg (by simp), OLD.out]
        case measure => simp [intOf] <;> omega
      · have h0' : ((x : Int) == 0) = false := by simp; exact h0
        go_wp2
        go_round
        case rel =>
          refine ⟨i, by omega, by omega, by go_num, ?_⟩
          rw [ST.out, if_pos h0]
          show Value.int .i64 _ = Value.int .i64 ((i : Nat) : Int)
          first | rfl | rw [show (((i + 1 : Nat) : Int) - 1) = (i : Int) from by omega]
        case measure => simp [intOf] <;> omega
    · obtain rfl : j = at_ := by omega
      have hpe : pf A col (n - j) j = pv := by rw [PV.out]; unfold piv; rw [LA.out]
      rw [hpe]
      have e9 : ¬ ((j : Int) ≤ (j : Int) - 1) := by omega
      cases pv with
      | none =>
        have e1 : pvI none = -1 := rfl
        rw [e1]
        clear hpe e1
        go_wp2
        go_ret
        exact ⟨rfl, ⟨_, HA.out⟩, ⟨_, HS.out⟩, Chg.refl _ _ _⟩
      | some p =>
        have e1 : pvI (some p) = (p : Int) := rfl
        rw [e1]
        have hp := Gf.piv_facts PV.out.symm
        rw [LA.out] at hp
        have hpn : p < n := hp.2.1
        have hp0 : ¬ ((p : Int) < 0) := by omega
        clear hpe e1 hp
        go_wp2_with fail
        refine (l2Swap_calls _ A j p lo1 hi1 _ ⟨_, HA.out⟩ (by rw [LA.out]; exact ha) (by rw [LA.out]; exact hpn) (by rw [LA.out]; exact hn)).mono ?_
        rintro e w1 ⟨rfl, hm1, hc1⟩
        have M1 := hide hm1
        have S1 := hide (HS.out.chg hc1 (.inr h12))
        have C1 := hide (hc1.wider (Nat.le_refl _) LH.out.2)
        clear hm1 hc1
        go_wp2_with fail
        refine (l2Swap_calls _ S j p lo2 hi2 _ ⟨_, S1.out⟩ (by rw [LS.out]; exact ha) (by rw [LS.out]; exact hpn) (by rw [LS.out]; exact hn)).mono ?_
        rintro e w2 ⟨rfl, hm2, hc2⟩
        obtain ⟨va, hva⟩ := M1.out
        have hma := hva.chg hc2 (.inl h12)
        have C2 := hide (C1.out.trans (hc2.wider LH.out.1 (Nat.le_refl _)))
        obtain ⟨vs, hms⟩ := hm2
        clear hc2 hva
        obtain ⟨A1, hA1⟩ : ∃ A1, A1 = swapM A j p := ⟨_, rfl⟩
        obtain ⟨S1', hS1'⟩ : ∃ S1, S1 = swapM S j p := ⟨_, rfl⟩
        have shA := SA.out.swap j p ha hpn
        have shS := SS.out.swap j p ha hpn
        have hH : ((swapM A j p).getD j []).getD col 0 = hOf A col p := by
          rw [Gf.swapM_get _ _ _ _ (by rw [LA.out]; exact ha) (by rw [LA.out]; exact hpn)]
          unfold hOf
          by_cases e : j = p
          · rw [if_pos e, e]
          · rw [if_neg e, if_pos rfl]
        obtain ⟨x, hx⟩ : ∃ x, x = hOf A col p := ⟨_, rfl⟩
        have hx256 : x < 256 := by rw [hx]; exact SA.out.elt p col
        rw [← hx, ← hA1] at hH
        rw [← hA1] at hma shA
        rw [← hS1'] at hms shS
        have hjl : j < (ciM A1).length := by rw [Gf.ciM_length, shA.len]; exact ha
        have hjs : j < (ciM S1').length := by rw [Gf.ciM_length, shS.len]; exact ha
        have hcj := hma.cell j hjl
        have hro := hma.row j hjl
        rw [Gf.ciM_get] at hro
        obtain ⟨g2, cap2, hu, _, _, _, _⟩ := hro.open1 (by rw [Gf.ci_length, shA.row j ha]; omega)
        rw [Gf.ci_length, shA.row j ha] at hu
        have HU := hide hu
        have RO := hide hro
        rw [hu] at hcj hro
        obtain ⟨_, hce⟩ := hro.at col (by rw [Gf.ci_length, shA.row j ha]; exact hc)
        rw [Gf.ci_getD, hH] at hce
        have HA1 := hide hA1
        have HS1 := hide hS1'
        have HX := hide hx
        have MA := hide hma
        have MS := hide hms
        have ShA := hide shA
        have ShS := hide shS
        have JL := hide hjl
        have JS := hide hjs
        clear hA1 hS1' hx hma hms shA shS hjl hjs hro hu hH
        go_wp2_with fail
        refine (Gf.l2Scale_calls _ (A1.getD j []) x lo1 _ (by rw [← HU.out]; exact RO.out) (by rw [ShA.out.row j ha]; exact hcn) (ShA.out.lt j ha) (by rw [ShA.out.row j ha]; omega) hx256).mono ?_
        rintro e w3 ⟨rfl, ho, hg⟩
        rw [← HU.out] at ho hg
        have hm3 := MA.out.write j JL.out _ ho hg
        have hc3 := MA.out.writeChg j JL.out hg
        rw [Gf.ciM_set] at hm3
        have hs3 := MS.out.chg hc3 (.inr h12)
        have C3 := hide (C2.out.trans (hc3.wider (Nat.le_refl _) LH.out.2))
        have M3 := hide hm3
        have hcs := hs3.cell j JS.out
        have hros := hs3.row j JS.out
        rw [Gf.ciM_get] at hros
        obtain ⟨su, hsu⟩ : ∃ su, su = vs.getD j nilRow := ⟨_, rfl⟩
        rw [← hsu] at hcs
        have SU := hide hsu
        have S3 := hide hs3
        have ROS := hide hros
        clear ho hg hm3 hc3 hs3 hros hsu hcj hce
        go_wp2_with fail
        refine (Gf.l2Scale_calls su (S1'.getD j []) x lo2 _ (by rw [SU.out]; exact ROS.out) (by rw [ShS.out.row j ha]; exact hdn) (ShS.out.lt j ha) (by rw [ShS.out.row j ha]; omega) hx256).mono ?_
        rintro e w4 ⟨rfl, ho, hg⟩
        rw [SU.out] at ho hg
        have hs4 := S3.out.write j JS.out _ ho hg
        have hc4 := S3.out.writeChg j JS.out hg
        rw [Gf.ciM_set] at hs4
        have hm4 := M3.out.chg hc4 (.inl h12)
        have C4 := hide (C3.out.trans (hc4.wider LH.out.1 (Nat.le_refl _)))
        obtain ⟨A2, hA2⟩ : ∃ A2, A2 = headM A1 j x := ⟨_, rfl⟩
        obtain ⟨S2, hS2⟩ : ∃ S2, S2 = headM S1' j x := ⟨_, rfl⟩
        have shA2 := ShA.out.head j x ha
        have shS2 := ShS.out.head j x ha
        rw [← hA2] at shA2
        rw [← hS2] at shS2
        have hm4' : MatV w4 lo1 hi1 (.slice (some ⟨g, 0, none⟩) n cap) va (ciM A2) := by rw [hA2]; exact hm4
        have hs4' : MatV w4 lo2 hi2 (.slice (some ⟨sg, 0, none⟩) n scap) vs (ciM S2) := by rw [hS2]; exact hs4
        obtain ⟨fs, hfs⟩ : ∃ fs, fs = fOf A j col p := ⟨_, rfl⟩
        have hf256 : ∀ i, fs i < 256 := fun i => by rw [hfs]; exact (SA.out.swap j p ha hpn).elt i col
        have hfsk : ∀ k, k ≠ j → (A2.getD k []).getD col 0 = fs k := by
          intro k hk
          rw [hA2, hfs, HA1.out]
          unfold headM fOf
          rw [getD_set _ _ _ _ _ (by rw [Gf.swapM_length, LA.out]; exact ha), if_neg hk]
        have M4 := hide hm4'
        have S4 := hide hs4'
        have SA2 := hide shA2
        have SS2 := hide shS2
        have F256 := hide hf256
        have FSK := hide hfsk
        have HFS := hide hfs
        have HA2 := hide hA2
        have HS2 := hide hS2
        clear ho hg hs4 hc4 hm4 hm4' hs4' hA2 hS2 shA2 shS2 hfs hf256 hfsk hcs
        go_wp2
        go_loopw [62] (fun vi wr => ∃ k : Nat, k ≤ n ∧ vi = .int .i64 k ∧ MatV wr lo1 hi1 (.slice (some ⟨g, 0, none⟩) n cap) va (ciM (clearM A2 j fs k)) ∧ MatV wr lo2 hi2 (.slice (some ⟨sg, 0, none⟩) n scap) vs (ciM (clearM S2 j fs k)) ∧ Chg lo1 hi2 w wr) (fun vi _ => n - (intOf vi).toNat)
        case atStart => exact ⟨0, Nat.zero_le _, rfl, by rw [Gf.clearM_zero]; exact M4.out, by rw [Gf.clearM_zero]; exact S4.out, C4.out⟩
        case round =>
          obtain ⟨k, hk, rfl, hM, hSM, hC⟩ := hrel
          have SC := hide (SA2.out.clear ha F256.out k)
          have SCS := hide (SS2.out.clear ha F256.out k)
          have MH := hide hM
          have MSH := hide hSM
          have C := hide hC
          clear hC
          by_cases hlt : k < n
          · have hlt' : (k : Int) < (n : Int) := by omega
            have hkl : k < (ciM (clearM A2 j fs k)).length := by rw [Gf.ciM_length, SC.out.len]; exact hlt
            have hbl : j < (ciM (clearM A2 j fs k)).length := by rw [Gf.ciM_length, SC.out.len]; exact ha
            have hkls : k < (ciM (clearM S2 j fs k)).length := by rw [Gf.ciM_length, SCS.out.len]; exact hlt
            have hbls : j < (ciM (clearM S2 j fs k)).length := by rw [Gf.ciM_length, SCS.out.len]; exact ha
            have hck := hM.cell k hkl
            have hro := hM.row k hkl
            rw [Gf.ciM_get] at hro
            have hgk : (clearM A2 j fs k).getD k [] = A2.getD k [] := by rw [Gf.clearM_get _ _ _ _ _ (by rw [SA2.out.len]; exact hlt), if_neg (fun h' => by omega)]
            rw [hgk] at hro
            obtain ⟨g3, cap3, hu, _, _, _, _⟩ := hro.open1 (by rw [Gf.ci_length, SA2.out.row k hlt]; omega)
            rw [Gf.ci_length, SA2.out.row k hlt] at hu
            have HU3 := hide hu
            rw [hu] at hck hro
            obtain ⟨_, hce⟩ := hro.at col (by rw [Gf.ci_length, SA2.out.row k hlt]; exact hc)
            rw [Gf.ci_getD] at hce
            have i0 : (0 : Int) ≤ (k : Int) := by omega
            obtain ⟨f, hf⟩ : ∃ f, f = (A2.getD k []).getD col 0 := ⟨_, rfl⟩
            rw [← hf] at hce
            have O := hide hro
            by_cases heq : k = j
            · subst heq
              have e1 : ((k : Int) == (k : Int)) = true := by simp
              clear hM hSM hro hu hf
              go_wp2
              go_roundw
              case rel =>
                refine ⟨k + 1, by omega, by go_num, ?_, ?_, C.out⟩
                · rw [← Gf.clearM_skip]; exact MH.out
                · rw [← Gf.clearM_skip]; exact MSH.out
              case measure => simp [intOf]; omega
            · have e1 : ((k : Int) == (j : Int)) = false := by simp; omega
              have hfk := FSK.out k heq
              rw [← hf] at hfk
              by_cases hf0 : f = 0
              · have hz : fs k = 0 := by rw [← hfk, hf0]
                have Z := hide hz
                subst hf0
                clear hM hSM hro hu hf hfk hz
                go_wp2
                go_roundw
                case rel =>
                  refine ⟨k + 1, by omega, by go_num, ?_, ?_, C.out⟩
                  · rw [← Gf.clearM_same A2 j fs k (by rw [SA2.out.len]; exact hlt) (by rw [Z.out]; exact Gf.addRow_zero (by rw [SA2.out.row k hlt, SA2.out.row j ha]) (SA2.out.lt j ha))]
                    exact MH.out
                  · rw [← Gf.clearM_same S2 j fs k (by rw [SS2.out.len]; exact hlt) (by rw [Z.out]; exact Gf.addRow_zero (by rw [SS2.out.row k hlt, SS2.out.row j ha]) (SS2.out.lt j ha))]
                    exact MSH.out
                case measure => simp [intOf]; omega
              · have e2 : ((f : Int) == 0) = false := by simp; exact hf0
                have e3 : ((f : Int) != 0) = true := by simp; exact hf0
                have e4 : ((k : Int) != (j : Int)) = true := by simp; omega
                have hgb : (clearM A2 j fs k).getD j [] = A2.getD j [] := by rw [Gf.clearM_get _ _ _ _ _ (by rw [SA2.out.len]; exact ha), if_neg (fun h' => h'.2 rfl)]
                have hgks : (clearM S2 j fs k).getD k [] = S2.getD k [] := by rw [Gf.clearM_get _ _ _ _ _ (by rw [SS2.out.len]; exact hlt), if_neg (fun h' => by omega)]
                have hgbs : (clearM S2 j fs k).getD j [] = S2.getD j [] := by rw [Gf.clearM_get _ _ _ _ _ (by rw [SS2.out.len]; exact ha), if_neg (fun h' => h'.2 rfl)]
                have hcb := hM.cell j hbl
                have hf256 : f < 256 := by rw [hfk]; exact F256.out k
                obtain ⟨bu, hbu⟩ : ∃ bu, bu = va.getD j nilRow := ⟨_, rfl⟩
                rw [← hbu] at hcb
                have BU := hide hbu
                have FK := hide hfk
                have KL := hide hkl
                have BL := hide hbl
                have KLS := hide hkls
                have BLS := hide hbls
                have GB := hide hgb
                have GKS := hide hgks
                have GBS := hide hgbs
                have QG : Hid (∀ w', wr.grownBy w' (some g3) → Rd w' bu (ci (A2.getD j []))) := fun w' hg => by
                  have := MH.out.other k j KL.out BL.out (fun h => heq h.symm) (by rw [HU3.out]; exact hg)
                  rw [Gf.ciM_get, GB.out, ← BU.out] at this
                  exact this.rd
                have i1 : (0 : Int) ≤ (j : Int) := by omega
                have DD := hide (SS2.out.row k hlt)
                have DJ := hide (SS2.out.row j ha)
                have CC := hide (SA2.out.row k hlt)
                have CJ := hide (SA2.out.row j ha)
                clear hM hSM hro hu hf hfk hbu hkl hbl hkls hbls hgb hgks hgbs hgk
                go_wp2
                go_region_with (go_at_call 200; refine (Gf.l2Add_calls (.slice (some ⟨g3, 0, none⟩) c cap3) bu (A2.getD k []) (A2.getD j []) f lo1 wr.drew (by exact O.out.drew) (fun w' hg => QG.out w' ⟨hg.os, hg.tape, hg.output, hg.size, hg.block⟩) hf256 (by rw [CC.out, CJ.out]; omega) (by rw [CC.out]; omega) (SA2.out.lt k hlt) (SA2.out.lt j ha) (by rw [CC.out]; omega)).mono ?_; rintro e w' ⟨rfl, ho, hg⟩)
                all_goals
                  have ho2 : Own w' lo1 (va.getD k nilRow) (ci (addRow (A2.getD k []) (A2.getD j []) (fs k))) := by
                    rw [HU3.out, ← FK.out, ← Gf.amTo_add _ _ _ (by rw [CC.out, CJ.out])]
                    exact ho
                  have hg2' : wr.grownBy w' (va.getD k nilRow).ownBlock := by
                    rw [HU3.out]
                    exact ⟨hg.os, hg.tape, hg.output, hg.size, hg.block⟩
                  have hM5 := MH.out.write k KL.out _ ho2 hg2'
                  have hC5 := MH.out.writeChg k KL.out hg2'
                  rw [Gf.ciM_set, Gf.clearM_step _ _ _ _ heq] at hM5
                  have hS5 := MSH.out.chg hC5 (.inr h12)
                  have M5 := hide hM5
                  have S5 := hide hS5
                  have C5 := hide (C.out.trans (hC5.wider (Nat.le_refl _) LH.out.2))
                  have hck2 := hS5.cell k KLS.out
                  have hcb2 := hS5.cell j BLS.out
                  have hro2 := hS5.row k KLS.out
                  rw [Gf.ciM_get, GKS.out] at hro2
                  obtain ⟨su2, hsu2⟩ : ∃ su, su = vs.getD k nilRow := ⟨_, rfl⟩
                  obtain ⟨sb2, hsb2⟩ : ∃ sb, sb = vs.getD j nilRow := ⟨_, rfl⟩
                  rw [← hsu2] at hck2 hro2
                  rw [← hsb2] at hcb2
                  have SU2 := hide hsu2
                  have SB2 := hide hsb2
                  have O5 := hide hro2
                  have QG5 : Hid (∀ w2, w'.grownBy w2 su2.ownBlock → Rd w2 sb2 (ci (S2.getD j []))) := fun w2 hg => by
                    have := S5.out.other k j KLS.out BLS.out (fun h => heq h.symm) (by rw [← SU2.out]; exact hg)
                    rw [Gf.ciM_get, GBS.out, ← SB2.out] at this
                    exact this.rd
                  clear ho hg ho2 hg2' hM5 hC5 hS5 hro2 hsu2 hsb2
                  go_wp2
                  go_region_with (go_at_call 200; refine (Gf.l2Add_calls su2 sb2 (S2.getD k []) (S2.getD j []) f lo2 w'.drew (by exact O5.out.drew) (fun w2 hg => QG5.out w2 ⟨hg.os, hg.tape, hg.output, hg.size, hg.block⟩) hf256 (by rw [DD.out, DJ.out]; omega) (by rw [DD.out]; omega) (SS2.out.lt k hlt) (SS2.out.lt j ha) (by rw [DD.out]; omega)).mono ?_; rintro e w6 ⟨rfl, ho, hg⟩)
                  all_goals
                    have ho2 : Own w6 lo2 (vs.getD k nilRow) (ci (addRow (S2.getD k []) (S2.getD j []) (fs k))) := by
                      rw [← SU2.out, ← FK.out, ← Gf.amTo_add _ _ _ (by rw [DD.out, DJ.out])]
                      exact ho
                    have hg2' : w'.grownBy w6 (vs.getD k nilRow).ownBlock := by
                      rw [← SU2.out]
                      exact ⟨hg.os, hg.tape, hg.output, hg.size, hg.block⟩
                    have hM6 := S5.out.write k KLS.out _ ho2 hg2'
                    have hC6 := S5.out.writeChg k KLS.out hg2'
                    rw [Gf.ciM_set, Gf.clearM_step _ _ _ _ heq] at hM6
                    have M6 := hide (M5.out.chg hC6 (.inl h12))
                    have S6 := hide hM6
                    have C6 := hide (C5.out.trans (hC6.wider LH.out.1 (Nat.le_refl _)))
                    clear ho hg ho2 hg2' hM6 hC6
                    go_wp2
                    go_roundw
                    case rel => exact ⟨k + 1, by omega, by go_num, M6.out, S6.out, C6.out⟩
                    case measure => simp [intOf]; omega
          · obtain rfl : k = n := by omega
            clear hM hSM
            go_wp2
            go_ret
            refine ⟨rfl, ⟨va, ?_⟩, ⟨vs, ?_⟩, C.out⟩
            · have := MH.out
              rw [HA2.out, HA1.out, HX.out, HFS.out] at this
              unfold clrA clr opM
              rw [LA.out]
              exact this
            · have := MSH.out
              rw [HS2.out, HS1.out, HX.out, HFS.out] at this
              unfold clrS opM
              rw [LS.out]
              exact this
end Go.Proofs.YtbgadbokejaomaaGreatDoor

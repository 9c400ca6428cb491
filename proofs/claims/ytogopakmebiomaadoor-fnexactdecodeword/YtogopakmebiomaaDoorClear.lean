/-
  A column cleared: the program's function and its model's, call by call. Each contract says what it asks.
-/
import Derived.Test.YtogopakmebiomaaDoorSwap
namespace Go.Proofs.YtogopakmebiomaaDoor
open Go.RowKit
open Gf (ci ciM swapM pf piv Sh AllLt clearM addRow headM opM hOf fOf clr sc inv mul amTo)

set_option maxRecDepth 100000 in
set_option maxHeartbeats 1600000 in
theorem clearColumn_calls (v : Value) (M : List (List Nat)) (n c by_ col lo hi : Nat) (w : World) (hT : Gf.Tab w) (h : Mat w lo hi v (ciM M)) (hs : Sh M n c) (ha : by_ < n) (hc : col < c) (hn : n ≤ 1048576) (hcn : c ≤ 1048576) (hlo : 0 < lo) :
    Calls Tryd.prog 165 #[v, .int .i64 by_, .int .i64 col] w fun e w' => e = .returned (.tuple #[]) ∧ Mat w' lo hi v (ciM (clearM M by_ (fun i => (M.getD i []).getD col 0) n)) ∧ Chg lo hi w w' := by
  obtain ⟨vs, h⟩ := h
  have hlen := hs.len
  obtain ⟨g, cap, hv, _, _, _, _⟩ := h.open (by rw [Gf.ciM_length, hlen]; omega)
  rw [Gf.ciM_length, hlen] at hv
  subst hv
  obtain ⟨fs, hfs⟩ : ∃ fs : Nat → Nat, fs = fun i => (M.getD i []).getD col 0 := ⟨_, rfl⟩
  rw [← hfs]
  have hf256 : ∀ i, fs i < 256 := fun i => by rw [hfs]; exact hs.elt i col
  have F256 := hide hf256
  have FS := hide hfs
  have H := hide h
  have S := hide hs
  have HL := hide hlen
  have T := hide hT
  have hc' : (col : Int) < (c : Int) := by omega
  have ha' : (by_ : Int) < (n : Int) := by omega
  clear h hs hlen hT hfs hf256
  go_enter Tryd.func165, Tryd.ntmps165
  go_wp2
  go_loopw [10] (fun vi wr => ∃ k : Nat, k ≤ n ∧ vi = .int .i64 k ∧ MatV wr lo hi (.slice (some ⟨g, 0, none⟩) n cap) vs (ciM (clearM M by_ fs k)) ∧ Chg lo hi w wr) (fun vi _ => n - (intOf vi).toNat)
  case atStart => exact ⟨0, Nat.zero_le _, rfl, by rw [Gf.clearM_zero]; exact H.out, Chg.refl _ _ _⟩
  case round =>
    obtain ⟨k, hk, rfl, hM, hC⟩ := hrel
    have SC := hide (S.out.clear ha F256.out k)
    have MH := hide hM
    have C := hide hC
    clear hC
    by_cases hlt : k < n
    · have hlt' : (k : Int) < (n : Int) := by omega
      have hkl : k < (ciM (clearM M by_ fs k)).length := by rw [Gf.ciM_length, SC.out.len]; exact hlt
      have hbl : by_ < (ciM (clearM M by_ fs k)).length := by rw [Gf.ciM_length, SC.out.len]; exact ha
      have hck := hM.cell k hkl
      have hro := hM.row k hkl
      rw [Gf.ciM_get] at hro
      obtain ⟨g2, cap2, hu, _, _, _, _⟩ := hro.open1 (by rw [Gf.ci_length, SC.out.row k hlt]; omega)
      rw [Gf.ci_length, SC.out.row k hlt] at hu
      have HU := hide hu
      by_cases heq : k = by_
      · subst heq
        rw [hu] at hck
        have e1 : ((k : Int) == (k : Int)) = true := by simp
        clear hM hro hu
        go_wp2
        go_roundw
        case rel =>
          refine ⟨k + 1, by omega, by go_num, ?_, C.out⟩
          rw [← Gf.clearM_skip]
          exact MH.out
        case measure => simp [intOf]; omega
      · have e1 : ((k : Int) == (by_ : Int)) = false := by simp; omega
        have hcb := hM.cell by_ hbl
        have hgk : (clearM M by_ fs k).getD k [] = M.getD k [] := by rw [Gf.clearM_get _ _ _ _ _ (by rw [HL.out]; exact hlt), if_neg (fun h' => by omega)]
        have hgb : (clearM M by_ fs k).getD by_ [] = M.getD by_ [] := by rw [Gf.clearM_get _ _ _ _ _ (by rw [HL.out]; exact ha), if_neg (fun h' => h'.2 rfl)]
        obtain ⟨s, hss⟩ : ∃ s, s = M.getD k [] := ⟨_, rfl⟩
        obtain ⟨q, hqq⟩ : ∃ q, q = M.getD by_ [] := ⟨_, rfl⟩
        rw [hgk, ← hss] at hro
        have hsl : s.length = c := by rw [hss]; exact S.out.row k hlt
        have hql : q.length = c := by rw [hqq]; exact S.out.row by_ ha
        have hslt : AllLt s := by rw [hss]; exact S.out.lt k hlt
        have hqlt : AllLt q := by rw [hqq]; exact S.out.lt by_ ha
        obtain ⟨u, huu⟩ : ∃ u, u = vs.getD k nilRow := ⟨_, rfl⟩
        obtain ⟨bu, hbu⟩ : ∃ bu, bu = vs.getD by_ nilRow := ⟨_, rfl⟩
        rw [← hbu] at hcb
        have hO := hro
        rw [hu] at hck hro
        obtain ⟨_, hce⟩ := hro.at col (by rw [Gf.ci_length, hsl]; exact hc)
        rw [Gf.ci_getD] at hce
        obtain ⟨x, hx⟩ : ∃ x, x = s.getD col 0 := ⟨_, rfl⟩
        rw [← hx] at hce
        have hxf : fs k = x := by rw [FS.out, hx, hss]
        have hx256 : x < 256 := by rw [← hxf]; exact F256.out k
        have hnx : addRow (M.getD k []) (M.getD by_ []) (fs k) = amTo s q x 0 q.length := by rw [← hss, ← hqq, hxf, Gf.amTo_add s q x (by rw [hql, hsl])]
        have NX := hide hnx
        have O := hide hro
        have QL := hide hql
        have SL := hide hsl
        have QLT := hide hqlt
        have SLT := hide hslt
        have BU := hide hbu
        have KL := hide hkl
        have TT := hide (Gf.tab_chg T.out C.out hlo)
        have TG : Hid (∀ w', wr.grownBy w' (some g2) → Gf.Tab w') := fun w' hg => Gf.tab_grown TT.out hg (fun k hk => by have := (World.ownsRow.lt O.out k hk).1; omega)
        have QG : Hid (∀ w', wr.grownBy w' (some g2) → Rd w' bu (ci q)) := fun w' hg => by
          have := MH.out.other k by_ KL.out hbl (fun h => heq h.symm) (by rw [HU.out]; exact hg)
          rw [Gf.ciM_get, hgb, ← hqq, ← BU.out] at this
          exact this.rd
        have i0 : (0 : Int) ≤ (k : Int) := by omega
        have i1 : (0 : Int) ≤ (by_ : Int) := by omega
        have i2 : (0 : Int) ≤ (col : Int) := by omega
        clear hM hO hro hu hgk hgb hss hqq hsl hql hslt hqlt huu hbu hx hxf hnx hkl hbl
        go_wp2
        go_region_with (go_at_call 84; refine (Gf.addMultiple_calls (.slice (some ⟨g2, 0, none⟩) c cap2) bu s q x 0 lo wr.drew (fun w' hg => TG.out w' ⟨hg.os, hg.tape, hg.output, hg.size, hg.block⟩) (by exact O.out.drew) (fun w' hg => QG.out w' ⟨hg.os, hg.tape, hg.output, hg.size, hg.block⟩) (by omega) (by omega) (by omega) (by rw [QL.out, SL.out]; omega) (by rw [SL.out]; omega) SLT.out QLT.out (by rw [SL.out]; omega)).mono ?_; rintro e w' ⟨rfl, ho, hg⟩)
        all_goals
          have ho2 : Own w' lo (vs.getD k nilRow) (ci (addRow (M.getD k []) (M.getD by_ []) (fs k))) := by
            rw [NX.out, HU.out]
            simpa using ho
          have hg2' : wr.grownBy w' (vs.getD k nilRow).ownBlock := by
            rw [HU.out]
            exact ⟨hg.os, hg.tape, hg.output, hg.size, hg.block⟩
          have W2 := hide (MH.out.write k KL.out _ ho2 hg2')
          have C3 := hide (C.out.trans (MH.out.writeChg k KL.out hg2'))
          clear ho hg ho2 hg2'
          go_wp2
          go_roundw
          case rel =>
            refine ⟨k + 1, by omega, by go_num, ?_, C3.out⟩
            have := W2.out
            rw [Gf.ciM_set, Gf.clearM_step _ _ _ _ heq] at this
            exact this
          case measure => simp [intOf]; omega
    · obtain rfl : k = n := by omega
      clear hM
      go_wp2
      go_end0
      exact ⟨rfl, ⟨_, MH.out⟩, C.out⟩

/-- What the program's reduction does at a column that has something: rows swapped, made to begin with 1, the others cleared. -/
theorem clr_parts (M : List (List Nat)) (n c at_ col p : Nat) (hs : Sh M n c) (ha : at_ < n) (hp : p < n) :
    clearM (headM (swapM M at_ p) at_ (((swapM M at_ p).getD at_ []).getD col 0)) at_ (fun i => ((headM (swapM M at_ p) at_ (((swapM M at_ p).getD at_ []).getD col 0)).getD i []).getD col 0) n = clr M at_ col p := by
  have e1 : ((swapM M at_ p).getD at_ []).getD col 0 = hOf M col p := by
    rw [Gf.swapM_get _ _ _ _ (by rw [hs.len]; exact ha) (by rw [hs.len]; exact hp)]
    unfold hOf
    by_cases e : at_ = p
    · rw [if_pos e, e]
    · rw [if_neg e, if_pos rfl]
  unfold clr opM
  rw [e1, hs.len]
  unfold clearM
  apply List.map_congr_left
  intro i hi
  by_cases e : i < n ∧ i ≠ at_
  · rw [if_pos e, if_pos e]
    congr 1
    unfold fOf headM
    dsimp only
    rw [getD_set _ _ _ _ _ (by rw [Gf.swapM_length, hs.len]; exact ha), if_neg e.2]
  · rw [if_neg e, if_neg e]

set_option maxRecDepth 100000 in
set_option maxHeartbeats 1600000 in
theorem reduceRows_calls (v : Value) (M : List (List Nat)) (n c cols lo hi : Nat) (w : World) (hT : Gf.Tab w) (h : Mat w lo hi v (ciM M)) (hs : Sh M n c) (h1 : 1 ≤ n) (hc : cols ≤ c) (hn : n ≤ 1048576) (hcn : c ≤ 1048576) (hlo : 0 < lo) :
    Calls Tryd.prog 144 #[v, .int .i64 cols] w fun e w' => e = .returned (.int .i64 (Gf.redM M cols).1) ∧ Mat w' lo hi v (ciM (Gf.redM M cols).2) ∧ Chg lo hi w w' := by
  have S := hide hs
  have hlen := hs.len
  obtain ⟨va, vc, hv⟩ : ∃ a c, v = .slice a n c := by
    obtain ⟨vs, h⟩ := h
    obtain ⟨g, cap, hv, _⟩ := h.open (by rw [Gf.ciM_length, hlen]; omega)
    rw [Gf.ciM_length, hlen] at hv
    exact ⟨_, _, hv⟩
  subst hv
  have H := hide h
  have HL := hide hlen
  have T := hide hT
  obtain ⟨res, hres⟩ : ∃ r, r = Gf.redM M cols := ⟨_, rfl⟩
  rw [← hres]
  have RS := hide hres
  clear h hs hlen hT hres
  go_enter Tryd.func144, Tryd.ntmps144
  go_wp2
  go_loopw [5, 6] (fun vd vk wr => ∃ k d : Nat, ∃ A : List (List Nat), k ≤ cols ∧ d ≤ n ∧ Gf.redM M k = (d, A) ∧ vk = .int .i64 k ∧ vd = .int .i64 d ∧ Mat wr lo hi (.slice va n vc) (ciM A) ∧ Chg lo hi w wr) (fun _ vk _ => cols - (intOf vk).toNat)
  case atStart => exact ⟨0, 0, M, Nat.zero_le _, Nat.zero_le _, rfl, rfl, rfl, H.out, Chg.refl _ _ _⟩
  case round =>
    obtain ⟨k, d, A, hk, hd, hr, rfl, rfl, hM, hC⟩ := hrel
    have MH := hide hM
    have C := hide hC
    have HR := hide hr
    have hsa := (S.out.red k).1
    rw [hr] at hsa
    have SA := hide hsa
    clear hM hC hr hsa
    have done : (¬ k < cols ∨ ¬ d < n) → res = (d, A) := by
      intro hh
      rw [RS.out]
      rcases hh with hh | hh
      · obtain rfl : k = cols := by omega
        exact HR.out
      · obtain ⟨j, hj⟩ : ∃ j, cols = k + j := ⟨cols - k, by omega⟩
        rw [hj, Gf.redM_stop (by rw [HR.out, HL.out]; simp only []; omega), HR.out]
    have DN := hide done
    clear done
    by_cases hlt : k < cols
    · have hlt' : (k : Int) < (cols : Int) := by omega
      by_cases hdn : d < n
      · have hdn' : (d : Int) < (n : Int) := by omega
        go_wp2_with fail
        refine (swapUp_calls _ A n c d k lo hi _ MH.out SA.out hdn (by omega) hn hcn).mono ?_
        obtain ⟨pv, hpv⟩ : ∃ pv, pv = piv A d k := ⟨_, rfl⟩
        rw [← hpv]
        have PV := hide hpv
        rintro e w1 ⟨rfl, hm1, hc1⟩
        have M1 := hide hm1
        have C1 := hide (C.out.trans hc1)
        clear hm1 hc1
        cases pv with
        | none =>
          clear hpv
          go_wp2
          go_roundw
          case rel =>
            refine ⟨k + 1, d, A, by omega, hd, ?_, by go_num, rfl, M1.out, C1.out⟩
            rw [Gf.redM, HR.out, HL.out, if_pos hdn]
            simp only []
            rw [← PV.out]
          case measure => simp [intOf]; omega
        | some p =>
          have hp := Gf.piv_facts hpv.symm
          rw [SA.out.len] at hp
          clear hpv
          have hpn : p < n := hp.2.1
          clear hp
          have hsw := SA.out.swap d p hdn hpn
          obtain ⟨A1, hA1⟩ : ∃ A1, A1 = swapM A d p := ⟨_, rfl⟩
          have hm1 : Mat w1 lo hi (.slice va n vc) (ciM A1) := by rw [hA1]; exact M1.out
          rw [← hA1] at hsw
          obtain ⟨vs, hm1⟩ := hm1
          have hdl : d < (ciM A1).length := by rw [Gf.ciM_length, hsw.len]; exact hdn
          obtain ⟨g, cap, hv, _, _, _, _⟩ := hm1.open (by rw [Gf.ciM_length, hsw.len]; omega)
          rw [Gf.ciM_length, hsw.len] at hv
          simp only [Value.slice.injEq, true_and] at hv
          obtain ⟨rfl, rfl⟩ := hv
          have hcd := hm1.cell d hdl
          have hro := hm1.row d hdl
          rw [Gf.ciM_get] at hro
          have MV := hide hm1
          have SW := hide hsw
          have RO := hide hro
          have HA1 := hide hA1
          have DL := hide hdl
          obtain ⟨u, hu⟩ : ∃ u, u = vs.getD d nilRow := ⟨_, rfl⟩
          rw [← hu] at hcd
          have U := hide hu
          have T1 := hide (Gf.tab_chg T.out C1.out hlo)
          clear hm1 hsw hro hA1 hdl hu
          go_wp2_with fail
          refine (Gf.headOne_calls u (A1.getD d []) k lo _ T1.out (by rw [U.out]; exact RO.out) hlo (by rw [SW.out.row d hdn]; exact hcn) (SW.out.lt d hdn) (by rw [SW.out.row d hdn]; omega)).mono ?_
          rintro e w2 ⟨rfl, ho, hg⟩
          rw [U.out] at ho hg
          have hm2 := MV.out.write d DL.out _ ho hg
          have hc2 := MV.out.writeChg d DL.out hg
          rw [Gf.ciM_set] at hm2
          have M2 := hide hm2
          have C2 := hide (C1.out.trans hc2)
          have T2 := hide (Gf.tab_chg T.out C2.out hlo)
          have S2 := hide (SW.out.head d ((A1.getD d []).getD k 0) hdn)
          clear ho hg hm2 hc2
          go_wp2_with fail
          refine (clearColumn_calls _ (headM A1 d ((A1.getD d []).getD k 0)) n c d k lo hi _ T2.out ⟨_, M2.out⟩ S2.out hdn (by omega) hn hcn hlo).mono ?_
          rintro e w3 ⟨rfl, hm3, hc3⟩
          have M3 := hide hm3
          have C3 := hide (C2.out.trans hc3)
          clear hm3 hc3
          go_wp2
          go_roundw
          case rel =>
            refine ⟨k + 1, d + 1, clr A d k p, by omega, by omega, ?_, by go_num, by go_num, ?_, C3.out⟩
            · rw [Gf.redM, HR.out, HL.out, if_pos hdn]
              simp only []
              rw [← PV.out]
            · have := M3.out
              rw [HA1.out, clr_parts A n c d k p SA.out hdn hpn] at this
              exact this
          case measure => simp [intOf]; omega
      · go_wp2
        go_ret
        have := DN.out (.inr hdn)
        rw [this]
        exact ⟨rfl, MH.out, C.out⟩
    · go_wp2
      go_ret
      have := DN.out (.inl hlt)
      rw [this]
      exact ⟨rfl, MH.out, C.out⟩
end Go.Proofs.YtogopakmebiomaaDoor

/-
  Rows put behind rows where the second ones are empty, and such a matrix solved: the program's functions. Each contract says what it asks. Inverses: the program's InvertMatrix and its model's, at all rows. The program's table of rests must hold its seven numbers where the program's own function is called. The model's drawing of numbers out of bytes, call by call: each draw returns a number within its bounds, moves its own cursor on and touches nothing else that was there. Each contract says what it asks. What draws of matrices and lists begin with: a cursor made new, what it leaves alone. Each contract says what it asks. Unlike numbers drawn, and matrices: the model's draws, call by call. Each contract says what it asks. Pieces drawn: the model's draws of lists of pieces, call by call. Each contract says what it asks. A number put to its place, once: the model's function, call by call. No condition.
-/
import Derived.Test.YtbgadbokejaomaaGreatDoorDamageOfB28
import Derived.Test.YtbgadbokejaomaaGreatDoorDamageOfB16
import Derived.Test.YtbgadbokejaomaaGreatDoorDamageOfB19
import Derived.Test.YtbgadbokejaomaaGreatDoorDamageOfB18
namespace Go.Proofs.YtbgadbokejaomaaGreatDoor
open Go.RowKit
open Gf (ci ciM Sh AllLt invTo solN joinN redM)

theorem step_copy_none {w : World} {ops : Array Oper} {o : Oper} {a : Act} {K : Act → World → Prop} {Q : Exit → Act → World → Prop} {E : Prop} (hgd : o.guard = none) (d s : Operand)
    (ho : o.op = .call { callee := .builtin .copy, args := #[d, s], argTypes := #[27, 27] })
    (dp sp : Option Addr) (dLen dCap sLen sCap : Nat) (hd : a.eval d = .slice dp dLen dCap) (hs : a.eval s = .slice sp sLen sCap) (hn : Nat.min sLen dLen = 0)
    (h : K (a.put o.dst (goInt 0)) w) :
    if Region.wanted o (yielded ops a.tmps) = true then Oper.wp Tryz.prog o a w K Q else E := by
  have hw : Region.wanted o (yielded ops a.tmps) = true := by simp [Region.wanted, hgd]
  rw [if_pos hw]
  have hrun := run_copy_none (P := Tryz.prog) w 27 27 o.type 3 dp sp dLen dCap sLen sCap Tryz.underlying27 infoSize hn
  unfold Oper.wp
  simp [execOp, ho, resolve, invoke, builtin, hd, hs, hrun, Result.andThen]
  exact h

set_option maxRecDepth 100000 in
set_option maxHeartbeats 1600000 in
theorem joinRows0_calls (lv rv : Value) (l r : List (List Int)) (n c : Nat) (w : World) (hl : RdM w lv l) (hr : RdM w rv r) (hln : l.length = n) (hrn : r.length = n) (hc : ∀ i, i < n → (l.getD i []).length = c) (hd : ∀ i, i < n → (r.getD i []).length = 0)
    (hn8 : n ≤ 1048576) (hc1 : 1 ≤ c) (hc8 : c ≤ 4096) :
    Calls Tryz.prog 220 #[lv, rv] w fun e w' => ∃ v', e = .returned v' ∧ Mat w' w.heap.size w'.heap.size v' (joinI l r) ∧ Below w.heap.size w w' := by
  have RL := hide hl
  have RR := hide hr
  obtain ⟨la, lcap, rfl, _⟩ := hl
  obtain ⟨ra, rcap, rfl, _⟩ := hr
  have HC := hide hc
  have HD := hide hd
  obtain ⟨J, hJ⟩ : ∃ J, J = joinI l r := ⟨_, rfl⟩
  rw [← hJ]
  have hJl : J.length = n := by rw [hJ, joinI_length, hln]
  have hJg : ∀ k, k < n → J.getD k [] = l.getD k [] ++ r.getD k [] := fun k hk => by rw [hJ, joinI_get _ _ _ (by rw [hln]; exact hk)]
  have JL := hide hJl
  have JG := hide hJg
  have LN := hide hln
  have RN := hide hrn
  have hln' : l.length = n := hln
  clear hc hd hJ hJl hJg
  rw [hln, hrn]
  clear hln hrn hln'
  go_enter Tryz.func220, Tryz.ntmps220
  go_wp2_with (at_make; refine wpList_make_rows rfl _ _ rfl _ _ n rfl rfl (by omega) (by omega) hn8 ?_)
  intro w0 hm0 hg0
  have M0 := hide hm0
  have G0 := hide hg0
  clear hm0 hg0
  go_wp2
  go_loopw [6, 7, 13] (fun _ _ vi wr => ∃ (k : Nat) (vs : List Value), k ≤ n ∧ vi = .int .i64 k ∧ MatV wr w.heap.size wr.heap.size (.slice (some ⟨w.heap.size, 0, none⟩) n n) vs (toTo J k) ∧ Below w.heap.size w wr) (fun _ _ vi _ => n - (intOf vi).toNat)
  case atStart =>
    refine ⟨0, List.replicate n nilRow, Nat.zero_le _, rfl, ?_, (Below.refl _ _).grown G0.out (Nat.le_refl _) (fun k h => by cases h)⟩
    rw [toTo_zero, JL.out]
    exact M0.out
  case round =>
    obtain ⟨k, vs, hk, rfl, hm, hb⟩ := hrel
    have M := hide hm
    have B := hide hb
    clear hm hb
    by_cases hlt : k < n
    · have hlt' : (k : Int) < (n : Int) := by omega
      have rl := RL.out
      have rr := RR.out
      rw [LN.out] at rl
      rw [RN.out] at rr
      obtain ⟨lb, loff, lu, rfl, hlb, hlc, hlu⟩ := rl.rowAt k (by rw [LN.out]; exact hlt)
      obtain ⟨rb, roff, ru, rfl, hrb, hrc, hru⟩ := rr.rowAt k (by rw [RN.out]; exact hlt)
      clear rl rr
      obtain ⟨x, hx⟩ : ∃ x, x = l.getD k [] := ⟨_, rfl⟩
      obtain ⟨y, hy⟩ : ∃ y, y = r.getD k [] := ⟨_, rfl⟩
      have hxl : x.length = c := by rw [hx]; exact HC.out k hlt
      have hyl : y.length = 0 := by rw [hy]; exact HD.out k hlt
      rw [← hx] at hlu
      rw [← hy] at hru
      have hjg := JG.out k hlt
      rw [← hx, ← hy] at hjg
      have JK := hide hjg
      have LU := hide hlu
      have RU := hide hru
      obtain ⟨lua, luc, hlv, _⟩ := hlu
      obtain ⟨rua, ruc, hrv, _⟩ := hru
      rw [hxl] at hlv
      rw [hyl] at hrv
      subst hlv hrv
      have XL := hide hxl
      have YL := hide hyl
      have hlc0 : wr.cell? ⟨lb, loff + k, none⟩ = _ := (B.out.cell (p := ⟨lb, loff + k, none⟩) hlb).trans hlc
      have hrc0 : wr.cell? ⟨rb, roff + k, none⟩ = _ := (B.out.cell (p := ⟨rb, roff + k, none⟩) hrb).trans hrc
      clear hx hy hxl hyl hjg
      go_wp2_with (at_make; refine wpList_make_ints rfl _ _ rfl wr.heap.size _ _ c rfl rfl (by omega) (by omega) (by omega) (Nat.le_refl _) ?_)
      intro w1 hx hg1
      have hb1 : Below wr.heap.size wr w1 := (Below.refl _ _).grown hg1 (Nat.le_refl _) (fun k h => by cases h)
      have hkl : k < (toTo J k).length := by rw [toTo_length _ k (by rw [JL.out]; exact hk), JL.out]; exact hlt
      have hM1 := M.out.below hb1
      have hc2 : w1.frozen? ⟨w.heap.size, k, none⟩ = false := World.ownsRow.frozenAt (by have := hM1.head; rwa [← hM1.lenEq] at this) k
      have hc3 := hM1.cell k hkl
      have L := M.out.lay k hkl hb1 _ _ hx M.out.sizeLo (Nat.le_refl _)
      have hvl : k < vs.length := by rw [M.out.len]; exact hkl
      have hcell2 := L.1.cell k (by rw [List.length_set]; exact hkl)
      rw [getD_set _ _ _ _ _ hvl, if_pos rfl] at hcell2
      have hO2 := L.1.row k (by rw [List.length_set]; exact hkl)
      rw [getD_set _ _ _ _ _ hvl, if_pos rfl, getD_set _ _ _ _ _ hkl, if_pos rfl] at hO2
      have BW := hide ((B.out.trans (hb1.mono B.out.size)).setCell (p := ⟨w.heap.size, k, none⟩) (Nat.le_refl _) (.slice (some ⟨wr.heap.size, 0, none⟩) c c))
      have LY := hide L
      have O2 := hide hO2
      have VL := hide hvl
      have KL := hide hkl
      have hg0 : w.heap.size ≤ wr.heap.size := B.out.size
      have hcell3 := hcell2
      have CL2 := hide hcell2
      have hlc2 : (w1.setCell ⟨w.heap.size, k, none⟩ (.slice (some ⟨wr.heap.size, 0, none⟩) c c)).cell? ⟨lb, loff + k, none⟩ = _ := (BW.out.cell (p := ⟨lb, loff + k, none⟩) hlb).trans hlc
      have hrc2 : (w1.setCell ⟨w.heap.size, k, none⟩ (.slice (some ⟨wr.heap.size, 0, none⟩) c c)).cell? ⟨rb, roff + k, none⟩ = _ := (BW.out.cell (p := ⟨rb, roff + k, none⟩) hrb).trans hrc
      clear hx hg1 hb1 hM1 L hO2 hvl hcell3
      go_wp2_with (refine wpList_copy_at rfl (.tmp 33) (.tmp 34) rfl w.heap.size wr.heap.size c 0 c c c luc lua (List.replicate c 0) x rfl rfl O2.out (LU.out.below BW.out) (by rw [XL.out]; omega) (by rw [XL.out]; omega) (by rw [XL.out, List.length_replicate]; omega) ?_)
      intro w3 hO3 hg3
      have hM3 := LY.out.1.write k (by rw [List.length_set]; exact KL.out) _ (by rw [getD_set _ _ _ _ _ VL.out, if_pos rfl]; exact hO3) (by rw [getD_set _ _ _ _ _ VL.out, if_pos rfl]; exact hg3)
      rw [List.set_set] at hM3
      have hB3 : Below w.heap.size w w3 := BW.out.grown hg3 BW.out.size (fun k hk => by cases hk; exact hg0)
      have M3 := hide hM3
      have B3 := hide hB3
      have O3 := hide hO3
      have hrc3 : w3.cell? ⟨rb, roff + k, none⟩ = _ := (hB3.cell (p := ⟨rb, roff + k, none⟩) hrb).trans hrc
      have hcell4 := hM3.cell k (by rw [List.length_set]; exact KL.out)
      rw [getD_set _ _ _ _ _ VL.out, if_pos rfl] at hcell4
      have i0 : (0 : Int) ≤ (k : Int) := by omega
      have i1 : (0 : Int) ≤ (c : Int) := by omega
      have Z3 := hide hg3.size
      have hM4 := hM3
      have ey : spl (List.replicate c 0) 0 x = x ++ y := by
        have h1 := XL.out
        have h2 := List.eq_nil_of_length_eq_zero YL.out
        rw [h2, List.append_nil]
        simp [spl, h1]
      rw [ey, ← JK.out, toTo_step _ k (by rw [JL.out]; exact hlt)] at hM4
      have M4 := hide hM4
      clear hM3 hM4 hB3 hO3 hg3 ey
      go_wp2
      go_region_law (refine step_copy_none rfl (.tmp 42) (.tmp 46) rfl (some ⟨wr.heap.size, 0, none⟩) rua 0 0 0 ruc (by simp [Act.eval, Act.put]) (by simp [Act.eval, Act.put]) (by simp) ?_)
      all_goals
        go_wp2
        go_roundw
        case rel => exact ⟨k + 1, _, by omega, by go_num, (M4.out.wider (Nat.le_refl _) Z3.out).below (below_drew' (Below.refl _ _)), below_drew' B3.out⟩
        case measure => simp [intOf]; omega
    · obtain rfl : k = n := by omega
      go_wp2
      go_ret
      have hm := M.out
      have e := toTo_end J
      rw [JL.out] at e
      rw [e] at hm
      exact ⟨_, rfl, ⟨_, hm⟩, B.out⟩

set_option maxRecDepth 100000 in
set_option maxHeartbeats 1600000 in
theorem solveRows0_calls (mv rv : Value) (M R : List (List Nat)) (n : Nat) (w : World) (hT : Gf.Tab w) (hm : RdM w mv (ciM M)) (hr : RdM w rv (ciM R)) (sm : Sh M n n) (sr : Sh R n 0) (h1 : 1 ≤ n) (hn : n ≤ 4096) :
    Calls Tryz.prog 191 #[mv, rv] w fun e w' => ∃ v', e = .returned (.tuple #[v', .bool (solN M R).2]) ∧ Mat w' w.heap.size w'.heap.size v' (ciM (solN M R).1) ∧ Below w.heap.size w w' := by
  have RM := hide hm
  have RR := hide hr
  have T := hide hT
  have SM := hide sm
  have SR := hide sr
  have ml := sm.len
  obtain ⟨ma, mcap, hmv, _⟩ := hm
  rw [Gf.ciM_length, ml] at hmv
  subst hmv
  obtain ⟨J, hJ⟩ : ∃ J, J = joinN M R := ⟨_, rfl⟩
  have sj : Sh J n n := by rw [hJ]; exact sm.join sr
  have SJ := hide sj
  have JE : Hid (joinI (ciM M) (ciM R) = ciM J) := by rw [hJ]; exact joinI_ciM M R
  have HJ := hide hJ
  have P0 := hide (Gf.tab_pos hT)
  obtain ⟨s, hs⟩ : ∃ s, s = solN M R := ⟨_, rfl⟩
  rw [← hs]
  have HS := hide hs
  clear hT hr sm sr ml hJ sj hs
  go_enter Tryz.func191, Tryz.ntmps191
  go_wp2_with fail
  refine (joinRows0_calls _ _ (ciM M) (ciM R) n n _ RM.out RR.out (by rw [Gf.ciM_length, SM.out.len]) (by rw [Gf.ciM_length, SR.out.len]) (fun i hi => by rw [Gf.ciM_get, Gf.ci_length, SM.out.row i hi]) (fun i hi => by rw [Gf.ciM_get, Gf.ci_length, SR.out.row i hi]) (by omega) (by omega) (by omega)).mono ?_
  rw [JE.out]
  rintro e w1 ⟨v1, rfl, hm1, hb1⟩
  have M1 := hide hm1
  have B1 := hide hb1
  clear hm1 hb1
  go_wp2_with fail
  refine (reduceRows_calls v1 J n n n w.heap.size w1.heap.size w1 (Gf.Tab.below T.out B1.out) M1.out SJ.out h1 (by omega) (by omega) (by omega) P0.out).mono ?_
  cases hi : invTo M R n with
  | none =>
    have hlt := Gf.red_none SM.out SR.out (Nat.le_refl _) n (Nat.le_refl _) hi
    have hs : s = ([], false) := by rw [HS.out]; exact Gf.solN_no hi (by rw [SM.out.len]; exact Nat.le_refl _)
    have S0 := hide hs
    rw [← HJ.out] at hlt
    obtain ⟨rr, hrr⟩ : ∃ r, r = redM J n := ⟨_, rfl⟩
    rw [← hrr] at hlt ⊢
    clear hi hs hrr
    rintro e w2 ⟨rfl, hm2, hc2⟩
    have BB := hide (Below.thenChg B1.out hc2 (Nat.le_refl _))
    have hlt' : ((rr.1 : Nat) : Int) < (n : Int) := by omega
    clear hm2 hc2
    go_wp2
    go_ret2
    rw [S0.out]
    exact ⟨_, rfl, Mat.nil _ _ _, BB.out⟩
  | some q =>
    have hr := Gf.red_some SM.out SR.out (Nat.le_refl _) n (Nat.le_refl _) q hi
    obtain ⟨s1, s2⟩ := Gf.invTo_sh SM.out SR.out n (Nat.le_refl _) q hi
    have hs : s = (q.2, true) := by rw [HS.out]; unfold Gf.solN; rw [SM.out.len, hi]
    have S0 := hide hs
    rw [← HJ.out] at hr
    rw [hr]
    have S1 := hide s1
    have S2 := hide s2
    clear hi hs hr s1 s2
    simp only []
    rintro e w2 ⟨rfl, hm2, hc2⟩
    have M2 := hide hm2
    have BB := hide (Below.thenChg B1.out hc2 (Nat.le_refl _))
    have hlt' : ¬ ((n : Nat) : Int) < (n : Int) := by omega
    clear hm2 hc2
    go_wp2_with fail
    refine (rowsFrom_calls v1 (ciM (joinN q.1 q.2)) n w2 M2.out.rd (by rw [Gf.ciM_length, Gf.joinN_length, S1.out.len]; omega) (fun i hi => by rw [Gf.ciM_length, Gf.joinN_length, S1.out.len] at hi; rw [Gf.ciM_get, Gf.ci_length, (S1.out.join S2.out).row i hi]; omega)).mono ?_
    rw [drop_join S1.out S2.out]
    rintro e w3 ⟨v3, rfl, hm3, hb3⟩
    have M3 := hide (hm3.wider BB.out.size (Nat.le_refl _))
    have B3 := hide (BB.out.trans (hb3.mono BB.out.size))
    clear hm3 hb3
    go_wp2
    go_ret2
    rw [S0.out]
    exact ⟨_, rfl, M3.out, B3.out⟩
end Go.Proofs.YtbgadbokejaomaaGreatDoor

namespace Go.Proofs.YtbgadbokejaomaaGreatDoor
open Go.RowKit
open Gf (ci nat ciM Sh AllLt redM joinN invTo solN identN piv clr opM hOf fOf)

set_option maxRecDepth 100000 in
set_option maxHeartbeats 1600000 in
theorem l2Invert_calls (v : Value) (m : List (List Int)) (M : List (List Nat)) (n : Nat) (w : World) (h : RdM w v m) (hcm : ciM M = m) (hsh : Sh M n n) (h1 : 1 ≤ n) (h8 : n ≤ 8) :
    Calls Tryz.prog 183 #[v] w fun e w' => ∃ v', e = .returned (.tuple #[v', .bool (solN M (identN n)).2]) ∧ Mat w' w.heap.size w'.heap.size v' (ciM (solN M (identN n)).1) ∧ Below w.heap.size w w' := by
  have R := hide h
  obtain ⟨a, cap, hv, _⟩ := h
  have hl : m.length = n := by rw [← hcm, Gf.ciM_length, hsh.len]
  rw [hl] at hv
  subst hv
  have LL : Hid (∀ i, i < m.length → (m.getD i []).length ≤ 1048576) := fun i hi => by
    rw [hl] at hi
    rw [← hcm, Gf.ciM_get, Gf.ci_length, hsh.row i hi]; omega
  obtain ⟨s, hs⟩ : ∃ s, s = solN M (identN n) := ⟨_, rfl⟩
  rw [← hs]
  have CM := hide hcm
  have SH := hide hsh
  have HL := hide hl
  have HS := hide hs
  clear hl hcm hsh hs
  go_enter Tryz.func183, Tryz.ntmps183
  go_wp2_with fail
  refine (l2Own_calls _ m _ R.out (by rw [HL.out]; omega) LL.out).mono ?_
  rintro e w1 ⟨va, rfl, hma, hb1⟩
  rw [← CM.out] at hma
  have MA := hide hma
  have B1 := hide hb1
  clear hma hb1
  go_wp2_with fail
  refine (l2Identity_calls n _ h1 h8).mono ?_
  rintro e w2 ⟨vs, rfl, hms, hb2⟩
  have hma2 := MA.out.below hb2
  rw [← Gf.ciM_ident] at hms
  have B2 := hide (B1.out.trans (hb2.mono B1.out.size))
  obtain ⟨xa, xc, hva⟩ : ∃ a c, va = .slice a n c := by
    obtain ⟨vv, h⟩ := hma2
    obtain ⟨g, cap, hv, _⟩ := h.open (by rw [Gf.ciM_length, SH.out.len]; omega)
    rw [Gf.ciM_length, SH.out.len] at hv
    exact ⟨_, _, hv⟩
  subst hva
  have MA2 := hide hma2
  have MS2 := hide hms
  have hlo : w.heap.size ≤ w1.heap.size := B1.out.size
  clear hma2 hms hb2 MA
  go_wp2
  go_loopw [14] (fun vk wr => ∃ k : Nat, ∃ q : List (List Nat) × List (List Nat), k ≤ n ∧ invTo M (identN n) k = some q ∧ vk = .int .i64 k ∧ Mat wr w.heap.size w1.heap.size (.slice xa n xc) (ciM q.1) ∧ Mat wr w1.heap.size w2.heap.size vs (ciM q.2) ∧ Chg w.heap.size w2.heap.size w2 wr) (fun vk _ => n - (intOf vk).toNat)
  case atStart => exact ⟨0, (M, identN n), Nat.zero_le _, rfl, rfl, MA2.out, MS2.out, Chg.refl _ _ _⟩
  case round =>
    obtain ⟨k, ⟨A, S⟩, hk, hr, rfl, hM, hS, hC⟩ := hrel
    obtain ⟨sa, ss⟩ := Gf.invTo_sh SH.out (Gf.sh_ident n) k hk _ hr
    simp only [] at hM hS sa ss
    have SA := hide sa
    have SS := hide ss
    have HR := hide hr
    have MH := hide hM
    have MS := hide hS
    have C := hide hC
    clear hr sa ss hM hS hC
    by_cases hlt : k < n
    · have hlt' : (k : Int) < (n : Int) := by omega
      go_wp2_with fail
      refine (l2Clear_calls _ vs A S n n n k k w.heap.size w1.heap.size w1.heap.size w2.heap.size _ MH.out MS.out SA.out SS.out hlt hlt (by omega) (by omega) (by omega) (by omega) (Nat.le_refl _)).mono ?_
      obtain ⟨pv, hpv⟩ : ∃ pv, pv = piv A k k := ⟨_, rfl⟩
      rw [← hpv]
      have PV := hide hpv
      rintro e w3 ⟨rfl, hm3, hs3, hc3⟩
      have M3 := hide hm3
      have S3 := hide hs3
      have C3 := hide (C.out.trans hc3)
      clear hm3 hs3 hc3
      cases pv with
      | none =>
        have hnone : invTo M (identN n) (k + 1) = none := by
          rw [Gf.invTo, HR.out]
          simp only []
          rw [← hpv]
        have hs0 : s = ([], false) := by rw [HS.out]; exact Gf.solN_no hnone (by rw [SH.out.len]; omega)
        have S0 := hide hs0
        clear hpv hnone hs0
        go_wp2
        go_ret2
        rw [S0.out]
        exact ⟨_, rfl, Mat.nil _ _ _, B2.out.trans (C3.out.below (Nat.le_refl _) B2.out.size)⟩
      | some p =>
        clear hpv
        go_wp2
        go_roundw
        case rel =>
          refine ⟨k + 1, (clr A k k p, opM S k p (hOf A k p) (fOf A k k p)), by omega, ?_, by go_num, M3.out, S3.out, C3.out⟩
          rw [Gf.invTo, HR.out]
          simp only []
          rw [← PV.out]
        case measure => simp [intOf]; omega
    · obtain rfl : k = n := by omega
      have hs0 : s = (S, true) := by rw [HS.out]; unfold Gf.solN; rw [SH.out.len, HR.out]
      have S0 := hide hs0
      clear hs0
      go_wp2
      go_ret2
      rw [S0.out]
      have hsz := C.out.size
      exact ⟨_, rfl, MS.out.wider hlo hsz, B2.out.trans (C.out.below (Nat.le_refl _) B2.out.size)⟩

end Go.Proofs.YtbgadbokejaomaaGreatDoor

namespace Go.Proofs.YtbgadbokejaomaaGreatDoor
open Go.RowKit

/-- The value v is a slice of bytes that can be read, in this world. -/
def RdB (w : World) (v : Value) : Prop :=
  ∃ a cap, ∃ zs : List Nat, v = .slice a zs.length cap ∧ zs.length ≤ 281474976710656 ∧ Gf.AllLt zs ∧
    (zs = [] ∨ ∃ b off, a = some ⟨b, off, none⟩ ∧ b < w.heap.size ∧ ∀ i, i < zs.length → w.cell? ⟨b, off + i, none⟩ = some (.int .u8 (zs.getD i 0 : Nat)))
theorem RdB.below {w w' : World} {v : Value} (h : RdB w v) (hb : Below w.heap.size w w') : RdB w' v := by
  obtain ⟨a, cap, zs, rfl, h1, h2, h3⟩ := h
  refine ⟨a, cap, zs, rfl, h1, h2, ?_⟩
  rcases h3 with h3 | ⟨b, off, rfl, hlt, hc⟩
  · exact .inl h3
  · exact .inr ⟨b, off, rfl, Nat.lt_of_lt_of_le hlt hb.size, fun i hi => (hb.cell (p := ⟨b, off + i, none⟩) hlt).trans (hc i hi)⟩
/-- The cursor in block g: over the bytes cv, not further than k. -/
structure CurS (w : World) (g : Nat) (cv : Value) (k : Nat) : Prop where
  at_ : ∃ (n : Nat) (s : Int), n ≤ k ∧ w.heap[g]? = some (.cells #[cv, .int .i64 n, .int .u64 s] 100 (0, 0))
  code : ∀ w', w.grownBy w' (some g) → RdB w' cv
theorem grown_transA {w w' w'' : World} {row : Option Nat} (h : w.grownBy w' row) (k : w'.grownBy w'' row) : w.grownBy w'' row := Gf.grownBy_trans h k
theorem CurS.mono {w : World} {g k k' : Nat} {cv : Value} (h : CurS w g cv k) (hk : k ≤ k') : CurS w g cv k' := by
  obtain ⟨n, s, hn, hh⟩ := h.at_
  exact ⟨⟨n, s, by omega, hh⟩, h.code⟩
theorem CurS.alloc {w : World} {g k : Nat} {cv : Value} (h : CurS w g cv k) (o : Obj) : CurS (w.alloc o) g cv k := by
  obtain ⟨n, s, hn, hh⟩ := h.at_
  have hlt : g < w.heap.size := (Array.getElem?_eq_some_iff.1 hh).1
  exact ⟨⟨n, s, hn, (Below.heap_alloc w o g hlt).trans hh⟩, fun w' hg => h.code w' (grown_transA (World.grownBy_alloc w o _) hg)⟩
end Go.Proofs.YtbgadbokejaomaaGreatDoor

namespace Go.Proofs.YtbgadbokejaomaaGreatDoor
open Go.RowKit

theorem curS_lt {w : World} {g k : Nat} {cv : Value} (h : CurS w g cv k) : g < w.heap.size := by
  obtain ⟨n, s, _, hh⟩ := h.at_
  exact (Array.getElem?_eq_some_iff.1 hh).1

/-- A cursor stays behind a step that touches none but new blocks and one row of ours. -/
theorem CurS.far {w w' : World} {g k : Nat} {cv : Value} {row : Option Nat} (h : CurS w g cv k) (hg : w.grownBy w' row) (hr : ∀ j, row = some j → j ≠ g) (hrb : ∀ w2, w'.grownBy w2 (some g) → RdB w2 cv) : CurS w' g cv k := by
  obtain ⟨n, s, hn, hh⟩ := h.at_
  refine ⟨⟨n, s, hn, ?_⟩, hrb⟩
  rw [hg.block g (curS_lt h) (fun e => hr g e.symm rfl)]
  exact hh


end Go.Proofs.YtbgadbokejaomaaGreatDoor

namespace Go.Proofs.YtbgadbokejaomaaGreatDoor
open Go.RowKit

/-- The first place from j on that holds. -/
def fstAt (p : Nat → Bool) : Nat → Nat → Nat
  | 0, j => j
  | f + 1, j => if p j = true then j else fstAt p f (j + 1)
/-- How many numbers from x on are in the list, one behind the other, round 256. -/
def ahead (xs : List Int) (x : Nat) : Nat := fstAt (fun d => !xs.contains ((((x + d) % 256 : Nat)) : Int)) 300 0
theorem CurS.kept {w w' : World} {g k : Nat} {cv : Value} (h : CurS w g cv k) (hb : Below w.heap.size w w') (hrb : ∀ w2, w'.grownBy w2 (some g) → RdB w2 cv) : CurS w' g cv k := by
  obtain ⟨n, s, hn, hh⟩ := h.at_
  exact ⟨⟨n, s, hn, (hb.block g (Array.getElem?_eq_some_iff.1 hh).1).trans hh⟩, hrb⟩
end Go.Proofs.YtbgadbokejaomaaGreatDoor

namespace Go.Proofs.YtbgadbokejaomaaGreatDoor
open Go.RowKit

end Go.Proofs.YtbgadbokejaomaaGreatDoor

namespace Go.Proofs.YtbgadbokejaomaaGreatDoor
open Go.RowKit

theorem rd_take2 {w : World} {a : Option Addr} {n cap : Nat} {xs : List Int} (h : Rd w (.slice a n cap) xs) (i : Nat) (hi : i ≤ xs.length) : Rd w (.slice a i cap) (xs.take i) := by
  obtain ⟨a', cap', hv, h1, h2, h3⟩ := h
  simp only [Value.slice.injEq] at hv
  obtain ⟨rfl, rfl, rfl⟩ := hv
  have hl : (xs.take i).length = i := by simp; omega
  refine ⟨a, cap, by rw [hl], by rw [hl]; omega, h2, ?_⟩
  rcases h3 with h3 | ⟨b, off, rfl, hlt, hc⟩
  · subst h3; exact .inl (by simp)
  · refine .inr ⟨b, off, rfl, hlt, fun j hj => ?_⟩
    rw [hl] at hj
    rw [hc j (by omega)]
    simp [List.getD_eq_getElem?_getD, hj]
end Go.Proofs.YtbgadbokejaomaaGreatDoor

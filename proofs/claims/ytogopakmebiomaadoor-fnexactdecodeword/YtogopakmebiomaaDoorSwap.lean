/-
  Two rows swapped, and a row swapped up: the program's function and its model's, call by call. Each contract says what it asks.
-/
import Derived.Test.YtogopakmebiomaaDoorGauss
namespace Go.Proofs.YtogopakmebiomaaDoor
open Go.RowKit
open Gf (ci ciM swapM pf piv Sh AllLt)

/-- The rows, with row p (where there is one) swapped up. -/
def upM (M : List (List Nat)) (at_ : Nat) : Option Nat → List (List Nat)
  | some p => swapM M at_ p
  | none => M
theorem MatV.swap {w : World} {lo hi g n cap : Nat} {vs : List Value} {m : List (List Int)} (h : MatV w lo hi (.slice (some ⟨g, 0, none⟩) n cap) vs m) (a b : Nat) (ha : a < m.length) (hb : b < m.length) :
    MatV ((w.setCell ⟨g, a, none⟩ (vs.getD b nilRow)).setCell ⟨g, b, none⟩ (vs.getD a nilRow)) lo hi (.slice (some ⟨g, 0, none⟩) n cap) ((vs.set a (vs.getD b nilRow)).set b (vs.getD a nilRow)) ((m.set a (m.getD b [])).set b (m.getD a [])) ∧
      w.grownBy ((w.setCell ⟨g, a, none⟩ (vs.getD b nilRow)).setCell ⟨g, b, none⟩ (vs.getD a nilRow)) (some g) := by
  obtain rfl := h.lenEq
  have st1 := World.ownsRow.stored h.head a (vs.getD b nilRow)
  have st2 := World.ownsRow.stored st1.1 b (vs.getD a nilRow)
  have hg : w.grownBy ((w.setCell ⟨g, a, none⟩ (vs.getD b nilRow)).setCell ⟨g, b, none⟩ (vs.getD a nilRow)) (some g) := Gf.grownBy_trans st1.2 st2.2
  have hla : a < vs.length := by rw [h.len]; exact ha
  have hlb : b < vs.length := by rw [h.len]; exact hb
  have gv : ∀ i, ((vs.set a (vs.getD b nilRow)).set b (vs.getD a nilRow)).getD i nilRow = vs.getD (if i = b then a else if i = a then b else i) nilRow := by
    intro i
    rw [getD_set _ _ _ _ _ (by rw [List.length_set]; exact hlb), getD_set _ _ _ _ _ hla]
    split
    · rfl
    · split <;> rfl
  have gm : ∀ i, ((m.set a (m.getD b [])).set b (m.getD a [])).getD i [] = m.getD (if i = b then a else if i = a then b else i) [] := by
    intro i
    rw [getD_set _ _ _ _ _ (by rw [List.length_set]; exact hb), getD_set _ _ _ _ _ ha]
    split
    · rfl
    · split <;> rfl
  have sl : ∀ i, i < m.length → (if i = b then a else if i = a then b else i) < m.length := by
    intro i hi
    split
    · exact ha
    · split
      · exact hb
      · exact hi
  have ml : ((m.set a (m.getD b [])).set b (m.getD a [])).length = m.length := by simp
  refine ⟨⟨by simp [h.len], by rw [ml]; exact st2.1, ?_, h.top, ?_, ?_⟩, hg⟩
  · intro i hi
    rw [ml] at hi
    rw [gv, gm]
    exact World.ownsRow.kept (h.row _ (sl i hi)) hg (heads_apart' h.head (h.row _ (sl i hi)))
  · intro i k hi hk
    rw [ml] at hi
    rw [gv] at hk
    exact h.tops _ k (sl i hi) hk
  · intro i j hi hj hij
    rw [ml] at hi hj
    rw [gv, gv]
    refine h.apart _ _ (sl i hi) (sl j hj) ?_
    split <;> split <;> (try split) <;> (try split) <;> omega
theorem MatV.swapN {w : World} {lo hi g n cap : Nat} {vs : List Value} {M : List (List Nat)} (h : MatV w lo hi (.slice (some ⟨g, 0, none⟩) n cap) vs (ciM M)) (a b : Nat) (ha : a < M.length) (hb : b < M.length) :
    MatV ((w.setCell ⟨g, a, none⟩ (vs.getD b nilRow)).setCell ⟨g, b, none⟩ (vs.getD a nilRow)) lo hi (.slice (some ⟨g, 0, none⟩) n cap) ((vs.set a (vs.getD b nilRow)).set b (vs.getD a nilRow)) (ciM (swapM M a b)) ∧
      w.grownBy ((w.setCell ⟨g, a, none⟩ (vs.getD b nilRow)).setCell ⟨g, b, none⟩ (vs.getD a nilRow)) (some g) := by
  have := h.swap a b (by rw [Gf.ciM_length]; exact ha) (by rw [Gf.ciM_length]; exact hb)
  rw [Gf.ciM_get, Gf.ciM_get, Gf.ciM_set, Gf.ciM_set] at this
  exact this
theorem MatV.headChg {w w' : World} {lo hi g n cap : Nat} {vs : List Value} {m : List (List Int)} (h : MatV w lo hi (.slice (some ⟨g, 0, none⟩) n cap) vs m) (hg : w.grownBy w' (some g)) : Chg lo hi w w' :=
  Chg.ofGrown hg (fun k hk => by cases hk; exact ⟨(World.ownsRow.lt h.head g rfl).1, h.top g rfl⟩)
theorem MatV.shape {w : World} {lo hi : Nat} {v : Value} {vs : List Value} {m : List (List Int)} (h : MatV w lo hi v vs m) (i : Nat) (hi' : i < m.length) : ∃ a n c, vs.getD i nilRow = .slice a n c := (h.row i hi').shape

set_option maxRecDepth 100000 in
set_option maxHeartbeats 800000 in
theorem l2Swap_calls (v : Value) (M : List (List Nat)) (a b lo hi : Nat) (w : World) (h : Mat w lo hi v (ciM M)) (ha : a < M.length) (hb : b < M.length) (hn : M.length ≤ 1048576) :
    Calls Tryd.prog 174 #[v, .int .i64 a, .int .i64 b] w fun e w' => e = .returned (.tuple #[]) ∧ Mat w' lo hi v (ciM (swapM M a b)) ∧ Chg lo hi w w' := by
  obtain ⟨vs, h⟩ := h
  obtain ⟨g, cap, rfl, _, _, _, _⟩ := h.open (by rw [Gf.ciM_length]; omega)
  have hl : (ciM M).length = M.length := Gf.ciM_length M
  have ha' : (a : Int) < ((ciM M).length : Int) := by omega
  have hb' : (b : Int) < ((ciM M).length : Int) := by omega
  have hca := h.cell a (by omega)
  have hcb := h.cell b (by omega)
  have hfa : w.frozen? ⟨g, a, none⟩ = false := World.ownsRow.frozenAt h.head a
  have hfb : w.frozen? ⟨g, b, none⟩ = false := World.ownsRow.frozenAt h.head b
  obtain ⟨aa, an, ac, hsa⟩ := h.shape a (by omega)
  obtain ⟨ba, bn, bc, hsb⟩ := h.shape b (by omega)
  have SW := h.swapN a b ha hb
  rw [hsa] at hca
  rw [hsb] at hcb
  rw [hsa, hsb] at SW
  have CH := hide (h.headChg SW.2)
  have SW1 := hide SW.1
  have st1 := World.ownsRow.stored h.head a (.slice ba bn bc)
  have hfb2 : (w.setCell ⟨g, a, none⟩ (.slice ba bn bc)).frozen? ⟨g, b, none⟩ = false := World.ownsRow.frozenAt st1.1 b
  have hcb2 : ∃ o, (w.setCell ⟨g, a, none⟩ (.slice ba bn bc)).cell? ⟨g, b, none⟩ = some o := by
    rw [World.ownsRow.cellAt st1.1 b (by omega)]
    exact ⟨_, List.getElem?_eq_getElem (by rw [List.length_set, h.len]; omega)⟩
  obtain ⟨o2, hcb2⟩ := hcb2
  clear h SW st1 hsa hsb
  go_enter Tryd.func174, Tryd.ntmps174
  go_wp2
  go_end0
  exact ⟨rfl, ⟨_, SW1.out⟩, CH.out⟩

set_option maxRecDepth 100000 in
set_option maxHeartbeats 1600000 in
theorem swapUp_calls (v : Value) (M : List (List Nat)) (n c at_ col lo hi : Nat) (w : World) (h : Mat w lo hi v (ciM M)) (hs : Sh M n c) (ha : at_ < n) (hc : col < c) (hn : n ≤ 1048576) (hcn : c ≤ 1048576) :
    Calls Tryd.prog 163 #[v, .int .i64 at_, .int .i64 col] w fun e w' => e = .returned (.bool (piv M at_ col).isSome) ∧ Mat w' lo hi v (ciM (upM M at_ (piv M at_ col))) ∧ Chg lo hi w w' := by
  obtain ⟨vs, h⟩ := h
  have hlen := hs.len
  obtain ⟨g, cap, hv, _, _, _, _⟩ := h.open (by rw [Gf.ciM_length, hlen]; omega)
  rw [Gf.ciM_length, hlen] at hv
  subst hv
  obtain ⟨pv, hpv⟩ : ∃ pv, pv = piv M at_ col := ⟨_, rfl⟩
  rw [← hpv]
  have PV := hide hpv
  have H := hide h
  have S := hide hs
  have HL := hide hlen
  have hc' : (col : Int) < (c : Int) := by omega
  clear hpv h hs hlen
  go_enter Tryd.func163, Tryd.ntmps163
  go_wp2
  go_loop [7] (fun vi => ∃ j : Nat, at_ ≤ j ∧ j ≤ n ∧ vi = .int .i64 j ∧ pv = pf M col (M.length - j) j) (fun vi => n - (intOf vi).toNat)
  case atStart => exact ⟨at_, Nat.le_refl _, by omega, rfl, PV.out⟩
  case round =>
    obtain ⟨j, hj1, hj2, rfl, hj3⟩ := hrel
    have J := hide hj3
    clear hj3
    by_cases hlt : j < n
    · have hlt' : (j : Int) < (n : Int) := by omega
      have hjl : j < (ciM M).length := by rw [Gf.ciM_length, HL.out]; exact hlt
      have hal : at_ < (ciM M).length := by rw [Gf.ciM_length, HL.out]; exact ha
      have hc1 := H.out.cell j hjl
      have hro := H.out.row j hjl
      rw [Gf.ciM_get] at hro
      obtain ⟨g2, cap2, hu, _, _, _, _⟩ := hro.open1 (by rw [Gf.ci_length, S.out.row j hlt]; omega)
      rw [Gf.ci_length, S.out.row j hlt] at hu
      have hel := hro
      rw [hu] at hel hc1
      obtain ⟨_, hce⟩ := hel.at col (by rw [Gf.ci_length, S.out.row j hlt]; exact hc)
      rw [Gf.ci_getD] at hce
      obtain ⟨x, hx⟩ : ∃ x, x = (M.getD j []).getD col 0 := ⟨_, rfl⟩
      rw [← hx] at hce
      have X := hide hx
      have HU := hide hu
      clear hel hro hx hu
      by_cases h0 : x = 0
      · subst h0
        go_wp2
        go_round
        case rel =>
          refine ⟨j + 1, by omega, by omega, by go_num, ?_⟩
          have := J.out
          rw [Gf.pf_step (by rw [HL.out]; exact hlt), ← X.out, if_neg (by simp)] at this
          exact this
        case measure => simp [intOf]; omega
      · have h0' : ((x : Int) == 0) = false := by simp; exact h0
        have hpv : pv = some j := by
          have := J.out
          rw [Gf.pf_step (by rw [HL.out]; exact hlt), ← X.out, if_pos h0] at this
          exact this
        have PJ := hide hpv
        clear hpv
        have hca := H.out.cell at_ hal
        have hfa : w.frozen? ⟨g, at_, none⟩ = false := World.ownsRow.frozenAt (by have := H.out.head; rwa [Gf.ciM_length, HL.out] at this) at_
        have hfj : w.frozen? ⟨g, j, none⟩ = false := World.ownsRow.frozenAt (by have := H.out.head; rwa [Gf.ciM_length, HL.out] at this) j
        obtain ⟨aa, an, ac, hsa⟩ := H.out.shape at_ hal
        have SW := H.out.swapN at_ j (by rw [HL.out]; exact ha) (by rw [HL.out]; exact hlt)
        rw [hsa] at hca
        rw [hsa, HU.out] at SW
        have CH := hide (H.out.headChg SW.2)
        have SW1 := hide SW.1
        have hd := H.out.head
        rw [Gf.ciM_length, HL.out] at hd
        have st1 := World.ownsRow.stored hd at_ (.slice (some ⟨g2, 0, none⟩) c cap2)
        have hfb2 : (w.setCell ⟨g, at_, none⟩ (.slice (some ⟨g2, 0, none⟩) c cap2)).frozen? ⟨g, j, none⟩ = false := World.ownsRow.frozenAt st1.1 j
        have hcb2 : ∃ o, (w.setCell ⟨g, at_, none⟩ (.slice (some ⟨g2, 0, none⟩) c cap2)).cell? ⟨g, j, none⟩ = some o := by
          rw [World.ownsRow.cellAt st1.1 j (by omega)]
          exact ⟨_, List.getElem?_eq_getElem (by rw [List.length_set, H.out.len]; exact hjl)⟩
        obtain ⟨o2, hcb2⟩ := hcb2
        have ha' : (at_ : Int) < (n : Int) := by omega
        have i0 : (0 : Int) ≤ (at_ : Int) := by omega
        have i1 : (0 : Int) ≤ (j : Int) := by omega
        clear SW st1 hsa hd
        go_wp2
        go_region
        all_goals (try go_wp2)
        all_goals
          go_ret
          have e := PJ.out
          subst e
          exact ⟨rfl, ⟨_, SW1.out.below (below_drew' (Below.refl _ _))⟩, CH.out.trans (Chg.ofBelow (below_drew' (Below.refl _ _)))⟩
    · obtain rfl : j = n := by omega
      have hpv : pv = none := by
        have := J.out
        rw [Gf.pf_end (by rw [HL.out]; exact Nat.le_refl _)] at this
        exact this
      subst hpv
      go_wp2
      go_ret
      exact ⟨rfl, ⟨_, H.out⟩, Chg.refl _ _ _⟩
end Go.Proofs.YtogopakmebiomaaDoor

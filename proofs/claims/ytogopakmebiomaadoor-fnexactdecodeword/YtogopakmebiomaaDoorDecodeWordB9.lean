/-
  Columns: a list as a column of rows, a column of rows as a list, a matrix times a column: the program's functions and its model's, call by call. Each contract says what it asks. SolveBy: the program's function and its model's, at all arguments. The program's table of rests must hold its seven numbers where the program's own function is called. Powers of unlike points as a matrix: it has an inverse; a word changed at places. Plain mathematics over the functions' answers. No condition. Unlike elements: plain mathematics. No call is walked here. Lists of rows put together: what the outer list's cells hold, a copy of such cells, rows behind rows. Each theorem says what it asks. Unlike elements and Cauchy's rows: the program's functions and its model's, call by call. The program's table of rests must hold its seven numbers where the program's own function is called.
-/
import Derived.Test.YtogopakmebiomaaDoorDecodeWordB8
import Derived.Test.YtogopakmebiomaaDoorDecodeWordB5
import Derived.Test.YtogopakmebiomaaDoorDecodeWordB7
import Derived.Test.YtogopakmebiomaaDoorDecodeWordB6
import Derived.Test.YtogopakmebiomaaDoorDecodeWordB0
import Derived.Deep.WholeRow
namespace Go.Proofs.YtogopakmebiomaaDoor
open Go.RowKit
open Gf (ci nat ciM Sh AllLt dotTo)

theorem take_snocI (l : List Int) (k : Nat) (h : k < l.length) : l.take (k + 1) = l.take k ++ [l.getD k 0] := by
  rw [List.take_succ_eq_append_getElem h, List.getD_eq_getElem?_getD, List.getElem?_eq_getElem h, Option.getD_some]
theorem rd_one1 {w : World} {z : Int} : Rd (w.alloc (.cells #[.int .i64 z] 3)) (.slice (some ⟨w.heap.size, 0, none⟩) 1 1) [z] := by
  refine ⟨_, 1, rfl, Nat.le_refl _, ⟨by unfold maxLen; omega, fun h => by cases h⟩, .inr ⟨_, 0, rfl, by simp, fun i hi => ?_⟩⟩
  simp at hi
  subst hi
  exact World.cell?_alloc_at _ _ _ _ (by simp)
set_option maxRecDepth 100000 in
theorem asCol1_calls (x : Int) (w : World) :
    Calls Tryd.prog 171 #[.int .i64 x] w fun e w' => ∃ v', e = .returned v' ∧ Own w' w.heap.size v' [x] ∧ Below w.heap.size w w' := by
  have OO : Hid (Own (w.alloc (.cells #[.int .i64 x] 3)) w.heap.size (.slice (some ⟨w.heap.size, 0, none⟩) 1 1) [x]) :=
    World.ownsRow_lit w #[.int .i64 x] 1 (Nat.le_refl _) (by unfold maxLen; omega) (by rfl)
  have BB := hide ((Below.refl w.heap.size w).alloc (Nat.le_refl _) (.cells #[.int .i64 x] 3))
  go_enter Tryd.func171, Tryd.ntmps171
  go_wp2
  go_ret
  exact ⟨_, rfl, OO.out, BB.out⟩
def colI (xs : List Int) : List (List Int) := xs.map fun x => [x]

set_option maxRecDepth 100000 in
set_option maxHeartbeats 800000 in
theorem asColumn_calls (v : Value) (xs : List Int) (w : World) (h : Rd w v xs) (hn : xs.length ≤ 1048576) :
    Calls Tryd.prog 160 #[v] w fun e w' => ∃ v', e = .returned v' ∧ Mat w' w.heap.size w'.heap.size v' (colI xs) ∧ Below w.heap.size w w' := by
  have HE : Calls Tryd.prog 141 #[v, .func (.func 171) #[] #[]] w fun e w' => ∃ v', e = .returned v' ∧ Mat w' w.heap.size w'.heap.size v' (colI xs) ∧ Below w.heap.size w w' := by
    have R := hide h
    obtain ⟨a, cap, rfl, _⟩ := h
    obtain ⟨MM, hM⟩ : ∃ M, M = colI xs := ⟨_, rfl⟩
    rw [← hM]
    have hMl : MM.length = xs.length := by rw [hM]; simp [colI]
    have hMg : ∀ k, k < xs.length → MM.getD k [] = [xs.getD k 0] := fun k hk => by rw [hM]; simp [colI, List.getD_eq_getElem?_getD, hk]
    have ML := hide hMl
    have MG := hide hMg
    clear hM hMl hMg
    go_enter Tryd.func141, Tryd.ntmps141
    go_wp2_with (at_make; refine wpList_make_rows rfl _ _ rfl _ _ xs.length rfl rfl (by omega) (by omega) hn ?_)
    intro w0 hm0 hg0
    have M0 := hide hm0
    have G0 := hide hg0
    clear hm0 hg0
    go_wp2
    go_loopw [6, 7, 13] (fun _ _ vi wr => ∃ (k : Nat) (vs : List Value), k ≤ xs.length ∧ vi = .int .i64 k ∧ MatV wr w.heap.size wr.heap.size (.slice (some ⟨w.heap.size, 0, none⟩) xs.length xs.length) vs (toTo MM k) ∧ Below w.heap.size w wr) (fun _ _ vi _ => xs.length - (intOf vi).toNat)
    case atStart =>
      refine ⟨0, List.replicate xs.length nilRow, Nat.zero_le _, rfl, ?_, (Below.refl _ _).grown G0.out (Nat.le_refl _) (fun k h => by cases h)⟩
      rw [toTo_zero, ML.out]
      exact M0.out
    case round =>
      obtain ⟨k, vs, hk, rfl, hm, hb⟩ := hrel
      have M := hide hm
      have B := hide hb
      clear hm hb
      by_cases hlt : k < xs.length
      · have hlt' : (k : Int) < (xs.length : Int) := by omega
        obtain ⟨b, off, u, rfl, hc1, hu⟩ := (R.out.below B.out).row k hlt
        obtain ⟨x, hx⟩ : ∃ x, x = xs.getD k 0 := ⟨_, rfl⟩
        rw [← hx] at hu
        subst hu
        have X := hide hx
        clear hx
        go_wp2_with fail
        refine (asCol1_calls x _).mono ?_
        rintro e w1 ⟨xv, rfl, hxo, hb1⟩
        obtain ⟨xa, xn, xc, rfl⟩ := hxo.shape
        have hkl : k < (toTo MM k).length := by rw [toTo_length _ k (by rw [ML.out]; exact hk), ML.out]; exact hlt
        have hM1 := M.out.below hb1
        have hc2 : w1.frozen? ⟨w.heap.size, k, none⟩ = false := World.ownsRow.frozenAt (by have := hM1.head; rwa [← hM1.lenEq] at this) k
        have hc3 := hM1.cell k hkl
        have L := hide (M.out.lay k hkl hb1 _ _ hxo M.out.sizeLo (Nat.le_refl _))
        have B1 := hide hb1
        clear hM1 hxo hb1
        go_wp2
        go_roundw
        case rel =>
          refine ⟨k + 1, vs.set k (.slice xa xn xc), by omega, by go_num, ?_, ?_⟩
          · have := L.out.1
            rw [X.out, ← MG.out k hlt, toTo_step _ k (by rw [ML.out]; exact hlt)] at this
            exact this
          · exact (B.out.trans (B1.out.mono B.out.size)).setCell (Nat.le_refl _) _
        case measure => simp [intOf]; omega
      · obtain rfl : k = xs.length := by omega
        go_wp2
        go_ret
        have hm := M.out
        have e := toTo_end MM
        rw [ML.out] at e
        rw [e] at hm
        exact ⟨_, rfl, ⟨_, hm⟩, B.out⟩
  have E := hide HE
  clear HE
  obtain ⟨a, cap, rfl, _⟩ := h
  go_enter Tryd.func160, Tryd.ntmps160
  go_wp2_with fail
  refine E.out.mono ?_
  rintro e w1 ⟨v1, rfl, hm1, hb1⟩
  have M1 := hide hm1
  have B1 := hide hb1
  clear hm1 hb1
  go_wp2
  go_ret
  exact ⟨_, rfl, M1.out, B1.out⟩

set_option maxRecDepth 100000 in
theorem colAt_calls (u : Value) (r : List Int) (f g : Nat) (w : World) (h : Rd w u r) (hg : w.cell? ⟨g, 0, none⟩ = some (.int .i64 f)) (hf : f < r.length) :
    Calls Tryd.prog 173 #[u, .pointer (some ⟨g, 0, none⟩)] w fun e w' => e = .returned (.int .i64 (r.getD f 0)) ∧ w = w' := by
  have R := hide h
  obtain ⟨a, cap, rfl, _⟩ := h
  obtain ⟨b, off, x, rfl, hc, hx⟩ := R.out.row f hf
  subst hx
  have i1 : (f : Int) < (r.length : Int) := by omega
  obtain ⟨y, hy⟩ : ∃ y, y = r.getD f 0 := ⟨_, rfl⟩
  rw [← hy] at hc ⊢
  clear hy
  go_enter Tryd.func173, Tryd.ntmps173
  go_wp2
  go_ret
  exact ⟨rfl, rfl⟩
def colAt (m : List (List Int)) (f : Nat) : List Int := m.map fun r => r.getD f 0

set_option maxRecDepth 100000 in
set_option maxHeartbeats 800000 in
theorem columnOf_calls (v : Value) (m : List (List Int)) (f : Nat) (w : World) (h : RdM w v m) (hn : m.length ≤ 1048576) (hl : ∀ i, i < m.length → f < (m.getD i []).length) :
    Calls Tryd.prog 161 #[v, .int .i64 f] w fun e w' => ∃ v', e = .returned v' ∧ Own w' w.heap.size v' (colAt m f) ∧ Below w.heap.size w w' := by
  obtain ⟨W, hW⟩ : ∃ W, W = w.alloc (.cells #[.int .i64 f] 3) := ⟨_, rfl⟩
  have hBW : Below w.heap.size w W := by rw [hW]; exact (Below.refl _ _).alloc (Nat.le_refl _) _
  have hgW : W.cell? ⟨w.heap.size, 0, none⟩ = some (.int .i64 f) := by rw [hW]; exact World.cell?_alloc_at _ _ _ _ rfl
  have hsW : w.heap.size < W.heap.size := by rw [hW]; simp
  have HE : Calls Tryd.prog 172 #[v, .func (.func 173) #[] #[.pointer (some ⟨w.heap.size, 0, none⟩)]] W fun e w' => ∃ v', e = .returned v' ∧ Own w' W.heap.size v' (colAt m f) ∧ Below W.heap.size W w' := by
    have R := hide (h.below hBW)
    have GW := hide hgW
    have HL := hide hl
    obtain ⟨a, cap, rfl, _⟩ := h
    obtain ⟨xs, hxs⟩ : ∃ xs, xs = colAt m f := ⟨_, rfl⟩
    rw [← hxs]
    have hxl : xs.length = m.length := by rw [hxs]; simp [colAt]
    have hxg : ∀ k, k < m.length → xs.getD k 0 = (m.getD k []).getD f 0 := fun k hk => by rw [hxs]; simp [colAt, List.getD_eq_getElem?_getD, hk]
    have XL := hide hxl
    have XG := hide hxg
    clear hxs hxl hxg hW hBW hgW hl
    go_enter Tryd.func172, Tryd.ntmps172
    go_wp2_with (at_make; refine wpList_make_ints rfl _ _ rfl W.heap.size _ _ m.length rfl rfl (by omega) (by omega) (by omega) (Nat.le_refl _) ?_)
    intro w0 ho0 hg0
    have O0 := hide ho0
    have B0 := hide ((Below.refl W.heap.size W).grown hg0 (Nat.le_refl _) (fun k h => by cases h))
    clear ho0 hg0
    go_wp2
    go_loopw [6, 7, 13] (fun _ _ vi wr => ∃ (k : Nat), k ≤ m.length ∧ vi = .int .i64 k ∧ Own wr W.heap.size (.slice (some ⟨W.heap.size, 0, none⟩) m.length m.length) (cpTo xs k) ∧ Below W.heap.size W wr) (fun _ _ vi _ => m.length - (intOf vi).toNat)
    case atStart =>
      refine ⟨0, Nat.zero_le _, rfl, ?_, B0.out⟩
      rw [cpTo_zero, XL.out]
      exact O0.out
    case round =>
      obtain ⟨k, hk, rfl, ho, hb⟩ := hrel
      by_cases hlt : k < m.length
      · have hlt' : (k : Int) < (m.length : Int) := by omega
        obtain ⟨b, off, u, rfl, hc1, hu⟩ := (R.out.below hb).row k hlt
        have U := hide hu
        have GC : Hid (wr.cell? ⟨w.heap.size, 0, none⟩ = some (.int .i64 f)) := (hb.cell (p := ⟨w.heap.size, 0, none⟩) hsW).trans GW.out
        have hcl : (cpTo xs k).length = m.length := by rw [cpTo_length xs k (by rw [XL.out]; exact hk), XL.out]
        obtain ⟨hfz, hcell⟩ := ho.at k (by rw [hcl]; exact hlt)
        obtain ⟨old, hold⟩ : ∃ o, o = (cpTo xs k).getD k 0 := ⟨_, rfl⟩
        rw [← hold] at hcell
        obtain ⟨y, hy⟩ : ∃ y, y = (m.getD k []).getD f 0 := ⟨_, rfl⟩
        have hst : (cpTo xs k).set k y = cpTo xs (k + 1) := by
          have := cpTo_step xs k (by rw [XL.out]; exact hlt)
          rw [XG.out k hlt] at this
          rw [hy]
          exact this
        have W1 := hide (ho.put k y)
        have ST := hide hst
        have Y := hide hy
        have B := hide hb
        clear hold ho hb hst hcl hu hy
        go_wp2_with fail
        refine (colAt_calls u _ f w.heap.size _ U.out GC.out (HL.out k hlt)).mono ?_
        rw [← Y.out]
        rintro e w1 ⟨rfl, rfl⟩
        go_wp2
        go_roundw
        case rel =>
          refine ⟨k + 1, by omega, by go_num, ?_, B.out.setCell (Nat.le_refl _) _⟩
          have := W1.out.1
          rw [ST.out] at this
          exact this
        case measure => simp [intOf]; omega
      · obtain rfl : k = m.length := by omega
        have O := hide ho
        have B := hide hb
        clear ho hb
        go_wp2
        go_ret
        have h := O.out
        have e := cpTo_end xs
        rw [XL.out] at e
        rw [e] at h
        exact ⟨_, rfl, h, B.out⟩
  have E := hide HE
  have HW := hide hW
  have BW := hide hBW
  obtain ⟨a, cap, rfl, _⟩ := h
  clear HE hW hBW hgW
  go_enter Tryd.func161, Tryd.ntmps161
  go_wp2_with fail
  rw [← HW.out]
  refine E.out.mono ?_
  rintro e w1 ⟨v1, rfl, ho1, hb1⟩
  have O1 := hide (Own.mono ho1 BW.out.size)
  have B1 := hide (BW.out.trans (hb1.mono BW.out.size))
  clear ho1 hb1
  go_wp2
  go_ret
  exact ⟨_, rfl, O1.out, B1.out⟩

/-- A matrix times a column. -/
def mulC (m : List (List Nat)) (v : List Nat) : List Nat := m.map fun r => dotTo r v v.length
set_option maxRecDepth 100000 in
set_option maxHeartbeats 1600000 in
theorem l2Column_calls (mv vv : Value) (M : List (List Nat)) (V : List Nat) (n : Nat) (w : World) (hm : RdM w mv (ciM M)) (hv : Rd w vv (ci V)) (hn : M.length ≤ 4096) (hV : V.length = n) (hn2 : n ≤ 4096) (hr : ∀ i, i < M.length → (M.getD i []).length = n ∧ AllLt (M.getD i [])) (hVl : AllLt V) :
    Calls Tryd.prog 158 #[mv, vv] w fun e w' => ∃ v', e = .returned v' ∧ Own w' w.heap.size v' (ci (mulC M V)) ∧ Below w.heap.size w w' := by
  have RM := hide hm
  have RV := hide hv
  have HR := hide hr
  have VL := hide hVl
  obtain ⟨ma, mcap, hmv, _⟩ := hm
  obtain ⟨va, vcap, hvv, _⟩ := hv
  rw [Gf.ciM_length] at hmv
  rw [Gf.ci_length, hV] at hvv
  subst hmv hvv
  obtain ⟨xs, hxs⟩ : ∃ xs, xs = ci (mulC M V) := ⟨_, rfl⟩
  rw [← hxs]
  have hxl : xs.length = M.length := by rw [hxs, Gf.ci_length]; simp [mulC]
  have hxg : ∀ k, k < M.length → xs.getD k 0 = ((dotTo (M.getD k []) V n : Nat) : Int) := fun k hk => by
    rw [hxs, Gf.ci_getD]
    simp [mulC, List.getD_eq_getElem?_getD, hk, hV]
  have XL := hide hxl
  have XG := hide hxg
  have HV := hide hV
  clear hxs hxl hxg hr hVl hV
  go_enter Tryd.func158, Tryd.ntmps158
  go_wp2
  go_loopw [5, 13] (fun vo vi wr => ∃ k : Nat, k ≤ M.length ∧ vi = .int .i64 k ∧ Own wr w.heap.size vo (xs.take k) ∧ Below w.heap.size w wr) (fun _ vi _ => M.length - (intOf vi).toNat)
  case atStart => exact ⟨0, Nat.zero_le _, rfl, World.ownsRow_nil _ _ _ _, Below.refl _ _⟩
  case round =>
    obtain ⟨k, hk, rfl, ho, hb⟩ := hrel
    have O := hide ho
    have B := hide hb
    clear ho hb
    by_cases hlt : k < M.length
    · have hlt' : (k : Int) < (M.length : Int) := by omega
      obtain ⟨b, off, u, rfl, hc, hu⟩ := (RM.out.below B.out).row k (by rw [Gf.ciM_length]; exact hlt)
      rw [Gf.ciM_get] at hu
      obtain ⟨r, hrr⟩ : ∃ r, r = M.getD k [] := ⟨_, rfl⟩
      obtain ⟨hrl, hrt⟩ := HR.out k hlt
      have hxk := XG.out k hlt
      rw [← hrr] at hu hrl hrt hxk
      have U := hide hu
      obtain ⟨ua, uc, huv, _⟩ := hu
      rw [Gf.ci_length, hrl] at huv
      subst huv
      have RT := hide hrt
      have RL := hide hrl
      have XK := hide hxk
      clear hrr hrl hrt hxk
      go_wp2
      go_loopw [8, 19] (fun vx vi wr2 => ∃ j x : Nat, j ≤ n ∧ vi = .int .i64 j ∧ vx = .int .i64 ((x : Nat) : Int) ∧ x = dotTo r V j ∧ wr2 = wr) (fun _ vi _ => n - (intOf vi).toNat)
      case atStart => exact ⟨0, 0, Nat.zero_le _, rfl, rfl, rfl, rfl⟩
      case round =>
        obtain ⟨j, x, hj, rfl, rfl, hx, rfl⟩ := hrel
        have X := hide hx
        have hx256 : x < 256 := by rw [hx]; exact Gf.dotTo_lt RT.out j
        clear hx
        by_cases hltj : j < n
        · have hltj' : (j : Int) < (n : Int) := by omega
          obtain ⟨rb, roff, ru, rfl, hrc, hru⟩ := U.out.row j (by rw [Gf.ci_length, RL.out]; exact hltj)
          obtain ⟨vb, voff, vu, rfl, hvc, hvu⟩ := (RV.out.below B.out).row j (by rw [Gf.ci_length, HV.out]; exact hltj)
          rw [Gf.ci_getD] at hru hvu
          obtain ⟨p, hp⟩ : ∃ p, p = r.getD j 0 := ⟨_, rfl⟩
          obtain ⟨q, hq⟩ : ∃ q, q = V.getD j 0 := ⟨_, rfl⟩
          rw [← hp] at hru
          rw [← hq] at hvu
          subst hru hvu
          have hp256 : p < 256 := by rw [hp]; exact RT.out j
          have hq256 : q < 256 := by rw [hq]; exact VL.out j
          have hnx : dotTo r V (j + 1) = x ^^^ Gf.mul p q := by rw [Gf.dotTo, ← X.out, ← hp, ← hq]
          have hm256 := Gf.mul_lt (a := p) (b := q) hp256
          obtain ⟨z, hz⟩ : ∃ z, z = Gf.mul p q := ⟨_, rfl⟩
          rw [← hz] at hnx hm256
          have CM : Hid (∀ w', Calls Tryd.prog 128 #[.int .i64 ((p : Nat) : Int), .int .i64 ((q : Nat) : Int)] w' fun e w'' => e = .returned (.int .i64 ((z : Nat) : Int)) ∧ w' = w'') := by
            intro w'
            rw [hz]
            refine (Gf.l1Mul_calls _ _ w' (by omega) (by omega) (by omega) (by omega)).mono ?_
            rintro e w'' ⟨rfl, rfl⟩
            simp
          have NX := hide hnx
          have XO : Hid (bits .xor .i64 ((x : Nat) : Int) ((z : Nat) : Int) = ((x ^^^ z : Nat) : Int)) := Gf.i64_xor _ _ (by omega) (by omega)
          clear hnx hp hq hz
          go_wp2_with fail
          refine (CM.out _).mono ?_
          rintro e w2 ⟨rfl, rfl⟩
          go_wp2
          go_roundw
          case rel => exact ⟨j + 1, x ^^^ z, by omega, by go_num, Gf.int_eq XO.out, NX.out.symm, by first | rfl | trivial⟩
          case measure => simp [intOf]; omega
        · obtain rfl : j = n := by omega
          have O2 := hide (O.out.alloc (.cells #[.int .i64 ((x : Nat) : Int)] 3))
          have HL2 : Hid ((xs.take k).length = k) := by show (xs.take k).length = k; rw [List.length_take, XL.out]; omega
          go_wp2_with (at_builtin; refine wpList_append_rd rfl _ _ rfl w.heap.size _ (xs.take k).length (xs.take k) [((x : Nat) : Int)] rfl O2.out _ rfl rd_one1 (by rw [HL2.out]; simp; omega) (by have := B.out.size; simp; omega) ?_)
          intro v' w3 ho3 hg3
          have hb3 : Below w.heap.size w w3 := (B.out.alloc B.out.size _).grown hg3 (by have := B.out.size; simp; omega) (fun i hi => (O.out.lt i hi).1)
          have e : xs.take k ++ [((x : Nat) : Int)] = xs.take (k + 1) := by rw [take_snocI xs k (by rw [XL.out]; exact hlt), XK.out, X.out]
          rw [e] at ho3
          have O3 := hide ho3
          have B3 := hide hb3
          clear ho3 hg3 hb3 e
          go_wp2
          go_roundw
          case rel => exact ⟨k + 1, by omega, by go_num, O3.out, B3.out⟩
          case measure => simp [intOf]; omega
    · obtain rfl : k = M.length := by omega
      go_wp2
      go_ret
      have h := O.out
      rw [List.take_of_length_le (by rw [XL.out]; exact Nat.le_refl _)] at h
      exact ⟨_, rfl, h, B.out⟩
end Go.Proofs.YtogopakmebiomaaDoor

namespace Go.Proofs.YtogopakmebiomaaDoor
open Go.RowKit
open Gf (ci nat ciM Sh AllLt dotTo solN identN colN colL)

def slvOk (m : List (List Int)) (v : List Int) : Bool := sqOk m && (decide (v.length = m.length) && v.all Gf.elOk)
def slvR (m : List (List Int)) (v : List Int) : List Int × Bool := if slvOk m v = true then (ci (mulC (solN (m.map nat) (identN m.length)).1 (nat v)), (solN (m.map nat) (identN m.length)).2) else ([], false)
theorem slvR_len (m : List (List Int)) (v : List Int) : (slvR m v).1.length ≤ 1048576 := by
  unfold slvR
  split
  · rename_i h
    simp only [slvOk, Bool.and_eq_true] at h
    have f := (solN_sh (sh_sq h.1) (Gf.sh_ident m.length)).1
    have h8 := (goodM_rows (sqOk_facts h.1).1).2.1
    simp only [Gf.ci_length, mulC, List.length_map]
    omega
  · simp
theorem colI_ciM (v : List Nat) : colI (ci v) = ciM (colN v) := by
  unfold colI Gf.ci Gf.ciM Gf.colN
  rw [List.map_map, List.map_map]
  rfl
theorem col_mul (X : List (List Nat)) (V : List Nat) : colAt (ciM (X.map (colL V V.length))) 0 = ci (mulC X V) := by
  unfold colAt Gf.ciM Gf.ci mulC
  rw [List.map_map, List.map_map, List.map_map]
  rfl
theorem sh_col {V : List Nat} {n : Nat} (hl : V.length = n) (hV : AllLt V) : Sh (colN V) n 1 := by
  refine ⟨by simp [Gf.colN, hl], fun i hi => ?_, fun i hi j => ?_⟩
  · simp [Gf.colN, List.getD_eq_getElem?_getD, hl, hi]
  · have e : (colN V).getD i [] = [V.getD i 0] := by simp [Gf.colN, List.getD_eq_getElem?_getD, hl, hi]
    rw [e]
    cases j with
    | zero => exact hV i
    | succ j => simp

set_option maxRecDepth 100000 in
set_option maxHeartbeats 1600000 in
theorem solveBy_calls (mv vv : Value) (m : List (List Int)) (v : List Int) (w : World) (hT : Gf.Tab w) (hm : RdM w mv m) (hv : Rd w vv v) :
    Calls Tryd.prog 134 #[mv, vv] w fun e w' => ∃ v', e = .returned (.tuple #[v', .bool (slvR m v).2]) ∧ Own w' w.heap.size v' (slvR m v).1 ∧ Below w.heap.size w w' := by
  have RM := hide hm
  have RV := hide hv
  have T := hide hT
  obtain ⟨ma, mcap, rfl, _⟩ := hm
  obtain ⟨va, vcap, rfl, _⟩ := hv
  clear hT
  cases hs : sqOk m with
  | false =>
    have e : slvR m v = ([], false) := by simp [slvR, slvOk, hs]
    rw [e]
    have S := hide hs
    clear hs e
    go_enter Tryd.func134, Tryd.ntmps134
    go_wp2_with fail
    refine (isSquare_calls _ m _ RM.out).mono ?_
    rw [S.out]
    rintro e w1 ⟨rfl, hb⟩
    have B := hide hb
    clear hb
    go_wp2
    go_ret2
    exact ⟨_, rfl, World.ownsRow_nil _ _ _ _, B.out⟩
  | true =>
    have S := hide hs
    by_cases hl : v.length = m.length
    · have t1 : ((v.length : Int) != (m.length : Int)) = false := by simp; omega
      cases he : v.all Gf.elOk with
      | false =>
        have e : slvR m v = ([], false) := by simp [slvR, slvOk, he]
        rw [e]
        have E := hide he
        clear hs he e hl
        go_enter Tryd.func134, Tryd.ntmps134
        go_wp2_with fail
        refine (isSquare_calls _ m _ RM.out).mono ?_
        rw [S.out]
        rintro e w1 ⟨rfl, hb⟩
        have B := hide hb
        clear hb
        go_wp2_with fail
        refine (Gf.areElements_calls _ v _ (RV.out.below B.out)).mono ?_
        rw [E.out]
        rintro e w2 ⟨rfl, rfl⟩
        go_wp2
        go_ret2
        exact ⟨_, rfl, World.ownsRow_nil _ _ _ _, B.out⟩
      | true =>
        obtain ⟨g1, g2⟩ := sqOk_facts hs
        obtain ⟨f1, f2, _⟩ := goodM_rows g1
        obtain ⟨M, hM⟩ : ∃ M, M = m.map nat := ⟨_, rfl⟩
        have CM : Hid (ciM M = m) := by rw [hM]; exact ciM_nat g1
        have SM : Hid (Sh M m.length m.length) := by rw [hM]; exact sh_sq hs
        have VL : Hid ((nat v).length = m.length) := by show (nat v).length = m.length; rw [Gf.nat_length, hl]
        have VA : Hid (AllLt (nat v)) := Gf.nat_lt he
        have CV : Hid (ciM (colN (nat v)) = colI v) := by
          show ciM (colN (nat v)) = colI v
          rw [← colI_ciM, Gf.ci_nat he]
        obtain ⟨s, hsol⟩ : ∃ s, s = solN M (identN m.length) := ⟨_, rfl⟩
        have e : slvR m v = (ci (mulC s.1 (nat v)), s.2) := by rw [hsol, hM]; simp [slvR, slvOk, hs, he, hl]
        have hmap : solN M (colN (nat v)) = (s.1.map (colL (nat v) m.length), s.2) := by
          rw [Gf.col_ident VA.out VL.out, Gf.solN_map (Gf.lin_col VA.out) SM.out (Gf.sh_ident _), hsol]
        have hcm := col_mul s.1 (nat v)
        rw [VL.out] at hcm
        have hsl := (solN_sh SM.out (sh_col VL.out VA.out)).2
        have hsn := (solN_sh SM.out (sh_col VL.out VA.out)).1
        rw [hmap] at hsl hsn
        rw [e]
        obtain ⟨X, hX⟩ : ∃ X, X = s.1.map (colL (nat v) m.length) := ⟨_, rfl⟩
        obtain ⟨ok, hok⟩ : ∃ ok, ok = s.2 := ⟨_, rfl⟩
        rw [← hX, ← hok] at hmap
        rw [← hX] at hcm hsl hsn
        simp only [] at hsl hsn
        rw [← hcm, ← hok]
        have hbad : ok = false → X = [] := by
          intro h0
          rw [hX]
          have : s = ([], false) ∨ s.2 = true := by
            rw [hsol]
            unfold Gf.solN
            cases Gf.invTo M (identN m.length) M.length with
            | none => exact .inl rfl
            | some q => exact .inr rfl
          rcases this with h | h
          · rw [h]; rfl
          · rw [← hok, h0] at h; cases h
        have E := hide he
        have MP := hide hmap
        have SL := hide hsl
        have SN := hide hsn
        have BAD := hide hbad
        clear hs he e g1 g2 hM hsol hmap hcm hsl hsn hX hok hbad hl
        go_enter Tryd.func134, Tryd.ntmps134
        go_wp2_with fail
        refine (isSquare_calls _ m _ RM.out).mono ?_
        rw [S.out]
        rintro e w1 ⟨rfl, hb⟩
        have B := hide hb
        clear hb
        go_wp2_with fail
        refine (Gf.areElements_calls _ v _ (RV.out.below B.out)).mono ?_
        rw [E.out]
        rintro e w2 ⟨rfl, rfl⟩
        go_wp2_with fail
        refine (asColumn_calls _ v _ (RV.out.below B.out) (by have := VL.out; rw [Gf.nat_length] at this; omega)).mono ?_
        rintro e w2 ⟨v2, rfl, hm2, hb2⟩
        have B2 := hide (B.out.trans (hb2.mono B.out.size))
        have M2 := hide hm2.rd
        clear hm2 hb2
        go_wp2_with fail
        refine (solveRows_calls _ v2 M (colN (nat v)) m.length 1 _ (Gf.Tab.below T.out B2.out) (by rw [CM.out]; exact RM.out.below B2.out) (by rw [CV.out]; exact M2.out) SM.out (sh_col VL.out VA.out) f1 (by omega) (by omega) (by omega)).mono ?_
        rw [MP.out]
        rintro e w3 ⟨v3, rfl, hm3, hb3⟩
        have B3 := hide (B2.out.trans (hb3.mono B2.out.size))
        have M3 := hide hm3.rd
        clear hm3 hb3
        cases ok with
        | false =>
          have hX0 := BAD.out rfl
          have X0 := hide hX0
          clear hX0
          go_wp2
          go_ret2
          rw [X0.out]
          exact ⟨_, rfl, World.ownsRow_nil _ _ _ _, B3.out⟩
        | true =>
          go_wp2_with fail
          refine (columnOf_calls v3 (ciM X) 0 _ M3.out (by rw [Gf.ciM_length]; have := SN.out; omega) (fun i hi => by rw [Gf.ciM_length] at hi; rw [Gf.ciM_get, Gf.ci_length, (SL.out i hi).1]; omega)).mono ?_
          rintro e w4 ⟨v4, rfl, ho4, hb4⟩
          have O4 := hide (Own.mono ho4 B3.out.size)
          have B4 := hide (B3.out.trans (hb4.mono B3.out.size))
          clear ho4 hb4
          go_wp2
          go_ret2
          exact ⟨_, rfl, O4.out, B4.out⟩
    · have t1 : ((v.length : Int) != (m.length : Int)) = true := by simp; omega
      have e : slvR m v = ([], false) := by simp [slvR, slvOk, hl]
      rw [e]
      clear hs hl e
      go_enter Tryd.func134, Tryd.ntmps134
      go_wp2_with fail
      refine (isSquare_calls _ m _ RM.out).mono ?_
      rw [S.out]
      rintro e w1 ⟨rfl, hb⟩
      have B := hide hb
      clear hb
      go_wp2
      go_ret2
      exact ⟨_, rfl, World.ownsRow_nil _ _ _ _, B.out⟩

set_option maxRecDepth 100000 in
set_option maxHeartbeats 1600000 in
theorem sSolveBy_calls (mv vv : Value) (m : List (List Int)) (v : List Int) (w : World) (hm : RdM w mv m) (hv : Rd w vv v) :
    Calls Tryd.prog 132 #[mv, vv] w fun e w' => ∃ v', e = .returned (.tuple #[v', .bool (slvR m v).2]) ∧ Own w' w.heap.size v' (slvR m v).1 ∧ Below w.heap.size w w' := by
  have RM := hide hm
  have RV := hide hv
  obtain ⟨ma, mcap, rfl, _⟩ := hm
  obtain ⟨va, vcap, rfl, _⟩ := hv
  obtain ⟨inv, hinv⟩ : ∃ i, i = invR m := ⟨_, rfl⟩
  have HI := hide hinv
  obtain ⟨res, hres⟩ : ∃ r, r = slvR m v := ⟨_, rfl⟩
  rw [← hres]
  cases h2 : inv.2 with
  | false =>
    have hr : res = ([], false) := by
      rw [hres, slvR]
      split
      · rename_i h
        have hs : sqOk m = true := by simp only [slvOk, Bool.and_eq_true] at h; exact h.1
        have h3 := h2
        rw [hinv, invR, if_pos hs] at h3
        simp only [] at h3
        have : solN (m.map nat) (identN m.length) = ([], false) := by
          unfold Gf.solN at h3 ⊢
          cases hh : Gf.invTo (m.map nat) (identN m.length) (m.map nat).length with
          | none => rfl
          | some q => rw [hh] at h3; simp at h3
        rw [this]; rfl
      · rfl
    have RES := hide hr
    have I2 := hide h2
    clear hinv hres h2 hr
    go_enter Tryd.func132, Tryd.ntmps132
    go_wp2_with fail
    refine (sInvert_calls _ m _ RM.out).mono ?_
    rw [← HI.out, I2.out]
    rintro e w1 ⟨v1, rfl, hm1, hb1⟩
    have B1 := hide hb1
    clear hm1 hb1
    go_wp2
    go_ret2
    rw [RES.out]
    exact ⟨_, rfl, World.ownsRow_nil _ _ _ _, B1.out⟩
  | true =>
    have hs : sqOk m = true := by
      cases hs : sqOk m with
      | true => rfl
      | false => rw [hinv] at h2; simp [invR, hs] at h2
    have I2 := hide h2
    by_cases hl : v.length = m.length
    · have t1 : ((v.length : Int) != (m.length : Int)) = false := by simp; omega
      cases he : v.all Gf.elOk with
      | false =>
        have hr : res = ([], false) := by rw [hres]; simp [slvR, slvOk, he]
        have RES := hide hr
        have E := hide he
        clear hinv hres h2 hr he hs hl
        go_enter Tryd.func132, Tryd.ntmps132
        go_wp2_with fail
        refine (sInvert_calls _ m _ RM.out).mono ?_
        rw [← HI.out, I2.out]
        rintro e w1 ⟨v1, rfl, hm1, hb1⟩
        have B1 := hide hb1
        clear hm1 hb1
        go_wp2_with fail
        refine (Gf.l1All_calls _ v _ (RV.out.below B1.out)).mono ?_
        rw [E.out]
        rintro e w2 ⟨rfl, rfl⟩
        go_wp2
        go_ret2
        rw [RES.out]
        exact ⟨_, rfl, World.ownsRow_nil _ _ _ _, B1.out⟩
      | true =>
        obtain ⟨s, hsol⟩ : ∃ s, s = solN (m.map nat) (identN m.length) := ⟨_, rfl⟩
        have hi1 : inv = (ciM s.1, s.2) := by rw [hinv, invR, if_pos hs, hsol]
        have hs2 : s.2 = true := by rw [hi1] at h2; exact h2
        have hr : res = (ci (mulC s.1 (nat v)), true) := by
          rw [hres, slvR, if_pos (by simp [slvOk, hs, he, hl]), ← hsol, hs2]
        have f := solN_sh (sh_sq hs) (Gf.sh_ident m.length)
        rw [← hsol] at f
        have h8 := (goodM_rows (sqOk_facts hs).1).2.1
        have RES := hide hr
        have E := hide he
        have I1 := hide hi1
        have F := hide f
        have VL : Hid ((nat v).length = m.length) := by show (nat v).length = m.length; rw [Gf.nat_length, hl]
        clear hinv hres h2 hr he hs hl hsol hi1 hs2 f
        go_enter Tryd.func132, Tryd.ntmps132
        go_wp2_with fail
        refine (sInvert_calls _ m _ RM.out).mono ?_
        rw [← HI.out, I2.out]
        rintro e w1 ⟨v1, rfl, hm1, hb1⟩
        rw [I1.out] at hm1
        have M1 := hide hm1.rd
        have B1 := hide hb1
        clear hm1 hb1
        go_wp2_with fail
        refine (Gf.l1All_calls _ v _ (RV.out.below B1.out)).mono ?_
        rw [E.out]
        rintro e w2 ⟨rfl, rfl⟩
        go_wp2_with fail
        refine (l2Column_calls v1 _ s.1 (nat v) m.length _ M1.out (by rw [Gf.ci_nat E.out]; exact RV.out.below B1.out) (by have := F.out.1; omega) VL.out (by omega) (fun i hi => F.out.2 i hi) (Gf.nat_lt E.out)).mono ?_
        rintro e w3 ⟨v3, rfl, ho3, hb3⟩
        have O3 := hide (Own.mono ho3 B1.out.size)
        have B3 := hide (B1.out.trans (hb3.mono B1.out.size))
        clear ho3 hb3
        go_wp2
        go_ret2
        rw [RES.out]
        exact ⟨_, rfl, O3.out, B3.out⟩
    · have t1 : ((v.length : Int) != (m.length : Int)) = true := by simp; omega
      have hr : res = ([], false) := by rw [hres]; simp [slvR, slvOk, hl]
      have RES := hide hr
      clear hinv hres h2 hr hs hl
      go_enter Tryd.func132, Tryd.ntmps132
      go_wp2_with fail
      refine (sInvert_calls _ m _ RM.out).mono ?_
      rw [← HI.out, I2.out]
      rintro e w1 ⟨v1, rfl, hm1, hb1⟩
      have B1 := hide hb1
      clear hm1 hb1
      go_wp2
      go_ret2
      rw [RES.out]
      exact ⟨_, rfl, World.ownsRow_nil _ _ _ _, B1.out⟩
end Go.Proofs.YtogopakmebiomaaDoor

namespace Go.Proofs.YtogopakmebiomaaDoor
open Go.RowKit
open Gf (ci nat ciM Sh AllLt dotTo solN identN colN colL p2 vs px plcN ev ip)

/-- Places of a word: below 24, rising. -/
def PlOk (ps : List Int) : Prop := ∀ i, i < ps.length → 0 ≤ ps.getD i 0 ∧ ps.getD i 0 < 24 ∧ ∀ j, j < i → ps.getD j 0 < ps.getD i 0
theorem plcN_ok (c : List Int) : ∀ L, L ≤ 24 → PlOk (plcN c L) ∧ ∀ i, i < (plcN c L).length → (plcN c L).getD i 0 < (L : Int)
  | 0, _ => ⟨fun i hi => by simp [Gf.plcN] at hi, fun i hi => by simp [Gf.plcN] at hi⟩
  | L + 1, h => by
    obtain ⟨h1, h2⟩ := plcN_ok c L (by omega)
    by_cases hz : ev (ip L) c = 0
    · rw [Gf.plcN_yes hz]
      have hl : (plcN c L ++ [(L : Int)]).length = (plcN c L).length + 1 := by simp
      have ha : ∀ i, i < (plcN c L).length → (plcN c L ++ [(L : Int)]).getD i 0 = (plcN c L).getD i 0 := fun i hi => by
        rw [List.getD_eq_getElem?_getD, List.getElem?_append_left hi, List.getD_eq_getElem?_getD]
      have hb : (plcN c L ++ [(L : Int)]).getD (plcN c L).length 0 = (L : Int) := by
        rw [List.getD_eq_getElem?_getD, List.getElem?_append_right (Nat.le_refl _), Nat.sub_self]; rfl
      refine ⟨fun i hi => ?_, fun i hi => ?_⟩
      · rw [hl] at hi
        by_cases he : i = (plcN c L).length
        · subst he
          rw [hb]
          refine ⟨by omega, by omega, fun j hj => ?_⟩
          rw [ha j hj]
          exact h2 j hj
        · rw [ha i (by omega)]
          obtain ⟨a, b, d⟩ := h1 i (by omega)
          refine ⟨a, b, fun j hj => ?_⟩
          rw [ha j (by omega)]
          exact d j hj
      · rw [hl] at hi
        by_cases he : i = (plcN c L).length
        · subst he
          rw [hb]
          omega
        · rw [ha i (by omega)]
          have := h2 i (by omega)
          omega
    · rw [Gf.plcN_no hz]
      exact ⟨h1, fun i hi => by have := h2 i hi; omega⟩
namespace Gf
theorem px_px {x : Nat} (hx : x < 256) (p k : Nat) : px (px x p) k = px x (p * k) := by
  induction k with
  | zero => rfl
  | succ k ih => rw [px, ih, Nat.mul_succ, px_add hx]
theorem pow_px {p k : Nat} (hp : p < 24) (hk : k < 3) : pow 2 (p * k) = px (p2 p) k := by
  have h : p * k < 64 := by
    have : p * k ≤ 23 * 2 := Nat.mul_le_mul (by omega) (by omega)
    omega
  have e := p2_px h
  rw [p2_px (p := p) (by omega), px_px (by omega), ← e]
  rfl
end Gf
def vanRow (ps : List Int) (k : Nat) : List Int := ps.map fun p => ((Gf.pow 2 (p.toNat * k) : Nat) : Int)
def vanM (ps : List Int) : List (List Int) := (List.range ps.length).map (vanRow ps)
theorem vanRow_length (ps : List Int) (k : Nat) : (vanRow ps k).length = ps.length := by simp [vanRow]
theorem vanRow_get (ps : List Int) (k j : Nat) (h : j < ps.length) : (vanRow ps k).getD j 0 = ((Gf.pow 2 ((ps.getD j 0).toNat * k) : Nat) : Int) := by
  simp [vanRow, List.getD_eq_getElem?_getD, h]
theorem vanM_length (ps : List Int) : (vanM ps).length = ps.length := by simp [vanM]
theorem vanM_get (ps : List Int) (k : Nat) (h : k < ps.length) : (vanM ps).getD k [] = vanRow ps k := by simp [vanM, h]
theorem vanRow_all (ps : List Int) (k : Nat) : (vanRow ps k).all Gf.elOk = true := by
  rw [List.all_eq_true]
  intro x hx
  obtain ⟨p, _, rfl⟩ := List.mem_map.1 hx
  have := Gf.pow_lt 2 (p.toNat * k)
  exact Gf.elOk_iff.2 (by omega)
theorem vanM_sq {ps : List Int} (h1 : 1 ≤ ps.length) (h3 : ps.length ≤ 3) : sqOk (vanM ps) = true := by
  have hl := vanM_length ps
  have h0 := vanM_get ps 0 (by omega)
  have hr : (vanRow ps 0).length = ps.length := vanRow_length ps 0
  have hg : goodM (vanM ps) = true := by
    simp only [goodM, Bool.and_eq_true, decide_eq_true_eq]
    rw [h0, hr, hl]
    refine ⟨by omega, by omega, all_yes (d := []) (fun i hi => ?_), all_yes (d := []) (fun i hi => ?_)⟩
    · rw [vanM_get _ _ (by rw [hl] at hi; exact hi), vanRow_length]; simp
    · rw [vanM_get _ _ (by rw [hl] at hi; exact hi)]; exact vanRow_all _ _
  unfold sqOk
  rw [hg, h0, hr, hl]
  simp
theorem van_kern {ps : List Int} (hp : PlOk ps) (h3 : ps.length ≤ 3) (z : List Nat) (hzl : z.length = ps.length) (hz : AllLt z)
    (h : ∀ i, i < ps.length → dotTo (nat (vanRow ps i)) z ps.length = 0) : ∀ j, j < ps.length → z.getD j 0 = 0 := by
  have hX : ∀ i, i < ps.length → dotTo (nat (vanRow ps i)) z ps.length = vs (fun j => z.getD j 0) (fun j => p2 (ps.getD j 0).toNat) i ps.length := by
    intro i hi
    have key : ∀ m, m ≤ ps.length → dotTo (nat (vanRow ps i)) z m = vs (fun j => z.getD j 0) (fun j => p2 (ps.getD j 0).toNat) i m := by
      intro m
      induction m with
      | zero => intro _; rfl
      | succ m ih =>
        intro hm
        rw [Gf.dotTo, Gf.vs, ih (by omega)]
        have e : (nat (vanRow ps i)).getD m 0 = px (p2 (ps.getD m 0).toNat) i := by
          have h1 : (nat (vanRow ps i)).getD m 0 = ((vanRow ps i).getD m 0).toNat := by
            unfold Gf.nat
            simp [List.getD_eq_getElem?_getD, show m < (vanRow ps i).length by rw [vanRow_length]; omega]
          rw [h1, vanRow_get _ _ _ (by omega), Int.toNat_natCast]
          obtain ⟨a, b, _⟩ := hp m (by omega)
          exact Gf.pow_px (by omega) (by omega)
        rw [e, Gf.mul_comm _ _ (Gf.px_lt _ _) (hz m)]
    exact key _ (Nat.le_refl _)
  refine Gf.vand_zero ps.length (fun j => z.getD j 0) (fun j => p2 (ps.getD j 0).toNat) hz (fun j => Gf.p2_lt _) ?_ (fun k hk => by rw [← hX k hk]; exact h k hk)
  intro i j hi hj hne e
  obtain ⟨a1, b1, c1⟩ := hp i hi
  obtain ⟨a2, b2, c2⟩ := hp j hj
  have := Gf.p2_inj (by omega) (by omega) e
  rcases Nat.lt_or_gt_of_ne hne with h | h
  · have := c2 i h; omega
  · have := c1 j h; omega
theorem van_ok {ps v : List Int} (hp : PlOk ps) (h1 : 1 ≤ ps.length) (h3 : ps.length ≤ 3) (hv : v.length = ps.length) (hve : v.all Gf.elOk = true) : (slvR (vanM ps) v).2 = true := by
  have hsq := vanM_sq h1 h3
  have hok : slvOk (vanM ps) v = true := by
    simp only [slvOk, Bool.and_eq_true, decide_eq_true_eq]
    exact ⟨hsq, by rw [vanM_length]; exact hv, hve⟩
  unfold slvR
  rw [if_pos hok]
  have ha := sh_sq hsq
  show (solN ((vanM ps).map nat) (identN (vanM ps).length)).2 = true
  refine Gf.solN_ok (n := (vanM ps).length) ha (Gf.sh_ident _) ?_
  intro z hzl hz h
  rw [vanM_length] at hzl h ⊢
  refine van_kern hp h3 z hzl hz (fun i hi => ?_)
  have := h i hi
  rwa [show ((vanM ps).map nat).getD i [] = nat (vanRow ps i) from by simp [List.getD_eq_getElem?_getD, vanM, hi]] at this

/-- A word changed at the first i of the places. -/
def fixN (X S : List Nat) (ps : List Int) : Nat → List Nat
  | 0 => X
  | i + 1 => Gf.xorAt (fixN X S ps i) (ps.getD i 0).toNat (S.getD i 0)
theorem fixN_length (X S : List Nat) (ps : List Int) (i : Nat) : (fixN X S ps i).length = X.length := by
  induction i with
  | zero => rfl
  | succ i ih => rw [fixN, Gf.xorAt, List.length_set, ih]
theorem fixN_lt {X S : List Nat} {ps : List Int} (hX : AllLt X) (hS : AllLt S) (i : Nat) : AllLt (fixN X S ps i) := by
  induction i with
  | zero => exact hX
  | succ i ih => rw [fixN]; exact ih.set _ _ (Gf.xor_lt (ih _) (hS i))
def fixW (xs ps ss : List Int) : List Int := ci (fixN (nat xs) (nat (slvR (vanM ps) (ss.take ps.length)).1) ps ps.length)
end Go.Proofs.YtogopakmebiomaaDoor

namespace Go.Proofs.YtogopakmebiomaaDoor
open Go.RowKit

/-- All are elements, and no two are alike. -/
def unl (l : List Int) : Bool := decide (l.Pairwise (· ≠ ·)) && l.all Gf.elOk
theorem unl_nil : unl [] = true := by simp [unl]
theorem unl_snoc (p : List Int) (a : Int) : unl (p ++ [a]) = (unl p && (Gf.elOk a && !p.contains a)) := by
  unfold unl
  rw [List.all_append]
  have e : decide ((p ++ [a]).Pairwise (· ≠ ·)) = (decide (p.Pairwise (· ≠ ·)) && !p.contains a) := by
    rw [Bool.eq_iff_iff]
    simp only [decide_eq_true_eq, Bool.and_eq_true, List.pairwise_append, Bool.not_eq_true', List.contains_eq_mem, decide_eq_false_iff_not]
    constructor
    · rintro ⟨h1, _, h3⟩
      exact ⟨h1, fun hm => h3 a hm a (by simp) rfl⟩
    · rintro ⟨h1, h2⟩
      refine ⟨h1, by simp, fun x hx y hy => ?_⟩
      simp at hy
      subst hy
      intro e
      subst e
      exact h2 hx
  rw [e]
  simp only [List.all_cons, List.all_nil, Bool.and_true]
  cases decide (p.Pairwise (· ≠ ·)) <;> cases p.contains a <;> cases p.all Gf.elOk <;> cases Gf.elOk a <;> rfl
theorem unl_app {p : List Int} (h : unl p = false) (r : List Int) : unl (p ++ r) = false := by
  cases e : unl (p ++ r) with
  | false => rfl
  | true =>
    unfold unl at e h
    simp only [Bool.and_eq_true, decide_eq_true_eq, List.pairwise_append, List.all_append] at e
    rw [decide_eq_true e.1.1, e.2.1] at h
    cases h
theorem unl_els {p : List Int} (h : unl p = true) : p.all Gf.elOk = true := by
  unfold unl at h
  simp only [Bool.and_eq_true] at h
  exact h.2
theorem take_snoc {α : Type} (l : List α) (d : α) (k : Nat) (h : k < l.length) : l.take (k + 1) = l.take k ++ [l.getD k d] := by
  rw [List.take_succ_eq_append_getElem h, List.getD_eq_getElem?_getD, List.getElem?_eq_getElem h, Option.getD_some]
theorem elOk_facts {a : Int} (h : Gf.elOk a = true) : 0 ≤ a ∧ a < 256 := by
  simp only [Gf.elOk, decide_eq_true_eq] at h
  omega
/-- Which of the 256 have been seen. -/
def seenL (p : List Int) : List Value := (List.range 256).map fun a : Nat => Value.bool (p.contains (a : Int))
theorem seenL_length (p : List Int) : (seenL p).length = 256 := by simp [seenL]
theorem seenL_nil : seenL [] = List.replicate 256 (Value.bool false) := by
  rw [List.eq_replicate_iff]
  simp [seenL]
theorem seenL_get (p : List Int) (a : Nat) (h : a < 256) : (seenL p)[a]? = some (.bool (p.contains (a : Int))) := by
  simp [seenL, h]
theorem seenL_set (p : List Int) (a : Nat) (h : a < 256) : (seenL p).set a (.bool true) = seenL (p ++ [(a : Int)]) := by
  unfold seenL
  apply List.ext_getElem?
  intro i
  rw [List.getElem?_set]
  by_cases hi : i < 256
  · by_cases e : a = i
    · subst e; simp [hi]
    · rw [if_neg e]
      simp only [List.getElem?_map, List.getElem?_range hi, Option.map_some, Option.some.injEq, Value.bool.injEq, List.contains_eq_mem, List.mem_append, List.mem_singleton]
      have : ¬ ((i : Int) = (a : Int)) := by omega
      simp [this]
  · have : ¬ (a = i) := by omega
    rw [if_neg this]
    simp [hi]
/-- Cauchy's rows. -/
def cauRow (a : Int) (ys : List Int) : List Int := ys.map fun b => ((Gf.inv (a.toNat ^^^ b.toNat) : Nat) : Int)
def cauM (xs ys : List Int) : List (List Int) := xs.map fun a => cauRow a ys
end Go.Proofs.YtogopakmebiomaaDoor

namespace Go.Proofs.YtogopakmebiomaaDoor
open Go.RowKit

/-- The value v is a list whose cells hold these values, each of one cell. -/
def Vals (w : World) (v : Value) (us : List Value) : Prop :=
  ∃ a cap, v = .slice a us.length cap ∧ us.length ≤ cap ∧ (cap ≤ maxLen ∧ (a = none → cap = 0)) ∧ (∀ u ∈ us, u.oneCell' = true) ∧
    (us = [] ∨ ∃ b off, a = some ⟨b, off, none⟩ ∧ b < w.heap.size ∧ ∀ i, i < us.length → w.cell? ⟨b, off + i, none⟩ = some (us.getD i nilRow))
theorem Vals.below {w w' : World} {v : Value} {us : List Value} (h : Vals w v us) (hb : Below w.heap.size w w') : Vals w' v us := by
  obtain ⟨a, cap, rfl, h1, h2, h0, h3⟩ := h
  refine ⟨a, cap, rfl, h1, h2, h0, ?_⟩
  rcases h3 with h3 | ⟨b, off, rfl, hlt, hc⟩
  · exact .inl h3
  · exact .inr ⟨b, off, rfl, Nat.lt_of_lt_of_le hlt hb.size, fun i hi => (hb.cell (p := ⟨b, off + i, none⟩) hlt).trans (hc i hi)⟩
theorem oneCell_slice {a : Option Addr} {n c : Nat} : (Value.slice a n c).oneCell' = true := rfl
theorem RdM.vals {w : World} {v : Value} {m : List (List Int)} (h : RdM w v m) : ∃ us, Vals w v us ∧ us.length = m.length ∧ ∀ i, i < m.length → Rd w (us.getD i nilRow) (m.getD i []) := by
  obtain ⟨a, cap, rfl, h1, h2, h3⟩ := h
  rcases h3 with h3 | ⟨b, off, rfl, hlt, hc⟩
  · subst h3
    exact ⟨[], ⟨a, cap, rfl, h1, h2, fun u hu => by simp at hu, .inl rfl⟩, rfl, fun i hi => by simp at hi⟩
  · obtain ⟨us, hus⟩ : ∃ us, us = (List.range m.length).map fun i => (w.cell? ⟨b, off + i, none⟩).getD nilRow := ⟨_, rfl⟩
    have hl : us.length = m.length := by rw [hus]; simp
    have hg : ∀ i, i < m.length → w.cell? ⟨b, off + i, none⟩ = some (us.getD i nilRow) ∧ Rd w (us.getD i nilRow) (m.getD i []) := by
      intro i hi
      obtain ⟨u, hu, hr⟩ := hc i hi
      have e : us.getD i nilRow = u := by rw [hus]; simp [List.getD_eq_getElem?_getD, hi, hu]
      rw [e]
      exact ⟨hu, hr⟩
    refine ⟨us, ⟨_, cap, by rw [hl], by rw [hl]; exact h1, h2, fun u hu => ?_, .inr ⟨b, off, rfl, hlt, fun i hi => (hg i (by omega)).1⟩⟩, hl, fun i hi => (hg i hi).2⟩
    obtain ⟨i, hi, rfl⟩ := List.mem_iff_getElem.1 hu
    obtain ⟨x, c, hx, _⟩ := (hg i (by omega)).2
    rw [List.getD_eq_getElem?_getD, List.getElem?_eq_getElem hi, Option.getD_some] at hx
    rw [hx]
    rfl
theorem MatV.vals {w : World} {lo hi : Nat} {v : Value} {vs : List Value} {m : List (List Int)} (h : MatV w lo hi v vs m) : Vals w v vs := by
  have h1 : ∀ u ∈ vs, u.oneCell' = true := by
    intro u hu
    obtain ⟨i, hi, rfl⟩ := List.mem_iff_getElem.1 hu
    obtain ⟨a, n, c, hs⟩ := (h.row i (by rw [← h.len]; exact hi)).shape
    rw [List.getD_eq_getElem?_getD, List.getElem?_eq_getElem hi, Option.getD_some] at hs
    rw [hs]
    rfl
  rcases h.head.2 with ⟨rfl, hn⟩ | ⟨g, cap, cur, rfl, hb, hg, hc, hm, hs, ht⟩
  · have : vs = [] := List.eq_nil_of_length_eq_zero (by rw [h.len]; exact hn)
    subst this
    exact ⟨none, 0, rfl, Nat.le_refl _, ⟨Nat.zero_le _, fun _ => rfl⟩, fun u hu => by simp at hu, .inl rfl⟩
  · refine ⟨_, cap, by rw [h.len], by rw [h.len]; exact hc, ⟨hm, fun h => by cases h⟩, h1, .inr ⟨g, 0, rfl, (Array.getElem?_eq_some_iff.1 hg).1, fun i hi => ?_⟩⟩
    rw [Nat.zero_add]
    exact h.cell i (by rw [← h.len]; exact hi)
theorem full_V {w : World} {base g n : Nat} {e : TypeId} {xs : List Value} (h : w.ownsRow base e 1 (.slice (some ⟨g, 0, none⟩) n n) n xs) : w.heap[g]? = some (.cells xs.toArray e (0, 0)) := by
  rcases h.2 with ⟨h', _⟩ | ⟨g', cap', cur, h', _, hg, _, _, hs, ht⟩
  · simp at h'
  · simp only [Value.slice.injEq, Option.some.injEq, Addr.mk.injEq, and_true, true_and] at h'
    obtain ⟨rfl, rfl⟩ := h'
    rw [hg, ← ht, List.take_of_length_le (by rw [Array.length_toList, hs]; omega)]
theorem of_block_V {w : World} {base g : Nat} {e : TypeId} {zs : List Value} (h : w.heap[g]? = some (.cells zs.toArray e (0, 0))) (hb : base ≤ g) (hm : zs.length ≤ maxLen) :
    w.ownsRow base e 1 (.slice (some ⟨g, 0, none⟩) zs.length zs.length) zs.length zs :=
  ⟨by simp, .inr ⟨g, zs.length, _, rfl, hb, h, Nat.le_refl _, hm, by simp, List.take_of_length_le (by simp)⟩⟩
def splV (ws : List Value) (off : Nat) (zs : List Value) : List Value := ws.take off ++ (zs ++ ws.drop (off + zs.length))
/-- 'copy(out[off:], p)', out a list of rows that the call has made, p not longer than what is there. -/
theorem wpList_copy_vals {w : World} {ops : Array Oper} {rest : List Oper} {o : Oper} {a : Act} {Q : Exit → Act → World → Prop} (hgd : o.guard = none) (d s : Operand)
    (ho : o.op = .call { callee := .builtin .copy, args := #[d, s], argTypes := #[46, 46] })
    (base g N off dLen dCap : Nat) (u : Value) (ws cs : List Value) (hd : a.eval d = .slice (some ⟨g, off, none⟩) dLen dCap) (hs : a.eval s = u)
    (hown : w.ownsRow base 22 1 (.slice (some ⟨g, 0, none⟩) N N) N ws) (hr : Vals w u cs) (hdl : cs.length ≤ dLen) (hfit : off + cs.length ≤ N)
    (h : ∀ w', w'.ownsRow base 22 1 (.slice (some ⟨g, 0, none⟩) N N) N (splV ws off cs) → w.grownBy w' (some g) → wpList Tryd.prog ops Q rest (a.put o.dst (goInt cs.length)) w') : wpList Tryd.prog ops Q (o :: rest) a w := by
  obtain ⟨sp, cap, rfl, h1, h2, h0, h3⟩ := hr
  have hwl : ws.length = N := by have := hown.1; simpa using this
  have hg := full_V hown
  have hbg : base ≤ g := (World.ownsRow.lt hown g rfl).1
  have hmx : N ≤ maxLen := by
    rcases hown.2 with ⟨h', _⟩ | ⟨g', cap', cur, h', _, _, _, hm, _⟩
    · simp at h'
    · simp at h'; omega
  rcases h3 with h3 | ⟨b, so, rfl, hlt, hc⟩
  · subst h3
    refine wpList_copy_nothing (w := w) hgd d s 46 46 ho 22 Tryd.underlying46 infoRowSize (some ⟨g, off, none⟩) sp dLen dCap 0 cap hd hs (by simp) ?_
    refine h w ?_ (World.grownBy.refl _ _)
    simp only [splV, List.nil_append, List.length_nil, Nat.add_zero, List.take_append_drop]
    exact hown
  · refine wpList_copy_own (w := w) hgd d s 46 46 ho 22 Tryd.underlying46 infoRowSize g off dLen dCap ⟨b, so, none⟩ cs.length cap hd hs ws.toArray 22 hg cs (Nat.min_eq_left hdl).symm ?_ (by simp; omega) h0 ?_
    · intro j y hj
      have hjl : j < cs.length := (List.getElem?_eq_some_iff.1 hj).1
      have hadd : (⟨b, so, none⟩ : Addr).add j = ⟨b, so + j, none⟩ := by unfold Addr.add; split <;> simp_all
      rw [hadd, hc j hjl, List.getD_eq_getElem?_getD, hj]
      rfl
    · have hl : (splV ws off cs).length = N := by simp [splV]; omega
      have := of_block_V (base := base) (setRow_heap w g _ (splV ws off cs).toArray 22 _ hg) hbg (by rw [hl]; exact hmx)
      rw [hl] at this
      exact h _ this ⟨rfl, rfl, rfl, by simp [World.setRow], fun k _ hk => setRow_other w g k _ (fun e => hk (by simp [e]))⟩
theorem getD_app {α : Type} (a b : List α) (d : α) (i : Nat) : (a ++ b).getD i d = if i < a.length then a.getD i d else b.getD (i - a.length) d := by
  simp only [List.getD_eq_getElem?_getD]
  by_cases h : i < a.length
  · rw [if_pos h, List.getElem?_append_left h]
  · rw [if_neg h, List.getElem?_append_right (by omega)]
/-- Rows behind rows: the outer list is new (or the first one's, grown), the rows are theirs. -/
theorem MatV.cat {w w2 : World} {B lo hi lo' hi' : Nat} {v1 v2 v' : Value} {vs1 vs2 : List Value} {m1 m2 : List (List Int)} (h1 : MatV w lo hi v1 vs1 m1) (h2 : MatV w lo' hi' v2 vs2 m2) (hl1 : B ≤ lo) (hl2 : B ≤ lo') (hd : hi ≤ lo' ∨ hi' ≤ lo) (hh : hi' ≤ w.heap.size) (hh1 : hi ≤ w.heap.size)
    (blk : Option Nat) (hg : w.grownBy w2 blk) (hb1 : ∀ i, i < m1.length → (vs1.getD i nilRow).ownBlock = none ∨ (vs1.getD i nilRow).ownBlock ≠ blk) (hb2 : ∀ i, i < m2.length → (vs2.getD i nilRow).ownBlock = none ∨ (vs2.getD i nilRow).ownBlock ≠ blk)
    (ho : w2.ownsRow B 22 1 v' (m1.length + m2.length) (vs1 ++ vs2)) : MatV w2 B w2.heap.size v' (vs1 ++ vs2) (m1 ++ m2) := by
  have hs := hg.size
  have e1 := h1.len
  have e2 := h2.len
  refine ⟨by simp [e1, e2], by rw [List.length_append]; exact ho, ?_, fun k hk => (World.ownsRow.lt ho k hk).2, ?_, ?_⟩
  · intro i hi
    rw [List.length_append] at hi
    rw [getD_app, getD_app, e1]
    split
    · rename_i h; exact World.ownsRow.kept (Own.mono (h1.row i h) hl1) hg (hb1 i h)
    · exact World.ownsRow.kept (Own.mono (h2.row (i - m1.length) (by omega)) hl2) hg (hb2 (i - m1.length) (by omega))
  · intro i k hi hk
    rw [List.length_append] at hi
    rw [getD_app, e1] at hk
    split at hk
    · rename_i h; have := h1.tops i k h hk; omega
    · have := h2.tops (i - m1.length) k (by omega) hk; omega
  · intro i j hi hj hij
    rw [List.length_append] at hi hj
    rw [getD_app, getD_app, e1]
    have cross : ∀ i j, i < m1.length → j < m2.length → ∀ x, (vs1.getD i nilRow).ownBlock = some x → (vs2.getD j nilRow).ownBlock = some x → False := by
      intro i j hi hj x h3 h4
      have q1 := h1.tops i x hi h3
      have q2 := (World.ownsRow.lt (h2.row j hj) x h4).1
      have q3 := h2.tops j x hj h4
      have q4 := (World.ownsRow.lt (h1.row i hi) x h3).1
      omega
    by_cases a : i < m1.length
    · by_cases b : j < m1.length
      · rw [if_pos a, if_pos b]; exact h1.apart i j a b hij
      · rw [if_pos a, if_neg b]
        cases hu : (vs1.getD i nilRow).ownBlock with
        | none => exact .inl rfl
        | some x => exact .inr (fun e => cross i (j - m1.length) a (by omega) x hu e.symm)
    · by_cases b : j < m1.length
      · rw [if_neg a, if_pos b]
        cases hu : (vs2.getD (i - m1.length) nilRow).ownBlock with
        | none => exact .inl rfl
        | some x => exact .inr (fun e => cross j (i - m1.length) b (by omega) x e.symm hu)
      · rw [if_neg a, if_neg b]; exact h2.apart _ _ (by omega) (by omega) (by omega)
/-- 'append(a, b...)', rows of the call's own behind rows of its own. -/
theorem wpList_append_mat {w : World} {ops : Array Oper} {rest : List Oper} {o : Oper} {a : Act} {Q : Exit → Act → World → Prop} (hgd : o.guard = none) (s x : Operand)
    (ho : o.op = .call { callee := .builtin .append, args := #[s, x], argTypes := #[46, 46] })
    (B lo hi lo' hi' : Nat) (v1 v2 : Value) (vs1 vs2 : List Value) (m1 m2 : List (List Int)) (hs : a.eval s = v1) (hx : a.eval x = v2) (h1 : MatV w lo hi v1 vs1 m1) (h2 : MatV w lo' hi' v2 vs2 m2)
    (hl1 : B ≤ lo) (hl2 : B ≤ lo') (hd : hi ≤ lo' ∨ hi' ≤ lo) (hh : hi' ≤ w.heap.size) (hh1 : hi ≤ w.heap.size) (h0 : 0 < m2.length) (hn1 : m1.length ≤ 1048576) (hn2 : m2.length ≤ 1048576) (hB : B ≤ w.heap.size)
    (K : ∀ v' w', MatV w' B w'.heap.size v' (vs1 ++ vs2) (m1 ++ m2) → w.grownBy w' v1.ownBlock → wpList Tryd.prog ops Q rest (a.put o.dst v') w') : wpList Tryd.prog ops Q (o :: rest) a w := by
  obtain ⟨i0, hi0, hz0, hz1, hz2⟩ := info_parts infoRow
  obtain ⟨sp, cap, rfl, q1, q2, q0, q3⟩ := h2.vals
  have e2 := h2.len
  rcases q3 with q3 | ⟨b, off, rfl, hlt, hc⟩
  · rw [q3] at e2; simp at e2; omega
  have hown : w.ownsRow B 22 1 v1 m1.length vs1 := by
    refine ⟨h1.head.1, ?_⟩
    rcases h1.head.2 with hn | ⟨g, cap, cur, rfl, hb', rest⟩
    · exact .inl hn
    · exact .inr ⟨g, cap, cur, rfl, Nat.le_trans hl1 hb', rest⟩
  refine wpList_append_own (w := w) hgd s x _ ho B _ i0 (.slice none 0 0) 1 24 Tryd.underlying46 hi0 hz0 hz1 hz2 rfl (by decide) v1 m1.length vs1 hs hown ⟨b, off, none⟩ vs2.length cap vs2 hx (by simp) ?_ q0 (by unfold maxLen; omega) (by omega) hB ?_
  · intro j y hj
    have hjl : j < vs2.length := (List.getElem?_eq_some_iff.1 hj).1
    have hadd : (⟨b, off, none⟩ : Addr).add j = ⟨b, off + j, none⟩ := by unfold Addr.add; split <;> simp_all
    rw [hadd, hc j hjl, List.getD_eq_getElem?_getD, hj]
    rfl
  · intro v' w' ho' hg' _
    refine K v' w' (h1.cat h2 hl1 hl2 hd hh hh1 _ hg' (fun i hi => heads_apart' h1.head (h1.row i hi)) (fun i hi => heads_apart' h1.head (h2.row i hi)) ?_) hg'
    rw [e2] at ho'
    exact ho'
theorem splV_two (N : Nat) (fs bs : List Value) (h : N = fs.length + bs.length) : splV (splV (List.replicate N nilRow) 0 fs) fs.length bs = fs ++ bs := by
  subst h
  simp [splV]

set_option maxRecDepth 100000 in
set_option maxHeartbeats 800000 in
theorem joinLists_calls (fv bv : Value) (fs bs : List Value) (w : World) (hf : Vals w fv fs) (hb : Vals w bv bs) (hn1 : fs.length ≤ 4096) (hn2 : bs.length ≤ 4096) (h0 : 0 < bs.length) :
    Calls Tryd.prog 118 #[fv, bv] w fun e w' => e = .returned (.slice (some ⟨w.heap.size, 0, none⟩) (fs.length + bs.length) (fs.length + bs.length)) ∧
      w'.ownsRow w.heap.size 22 1 (.slice (some ⟨w.heap.size, 0, none⟩) (fs.length + bs.length) (fs.length + bs.length)) (fs.length + bs.length) (fs ++ bs) ∧ w.grownBy w' none := by
  have F := hide hf
  have G := hide hb
  obtain ⟨fa, fcap, rfl, _⟩ := hf
  obtain ⟨ba, bcap, rfl, _⟩ := hb
  obtain ⟨N, hN⟩ : ∃ N, N = fs.length + bs.length := ⟨_, rfl⟩
  rw [← hN]
  have HN := hide hN
  have hN1 : fs.length < N := by omega
  have hN2 : N ≤ 8192 := by omega
  have HN3 : Hid (((fs.length : Int) + (bs.length : Int)) = (N : Int)) := by show ((fs.length : Int) + (bs.length : Int)) = (N : Int); omega
  have hN4 : Hid (fs.length + bs.length ≤ N) := by show fs.length + bs.length ≤ N; omega
  clear hN
  go_enter Tryd.func118, Tryd.ntmps118
  go_wp2_with (at_make; refine wpList_make_rows rfl _ _ rfl _ _ N rfl rfl HN3.out HN3.out (by omega) ?_)
  intro w0 hm0 hg0
  have ho0 : w0.ownsRow w.heap.size 22 1 (.slice (some ⟨w.heap.size, 0, none⟩) N N) N (List.replicate N nilRow) := by
    have := hm0.head
    rwa [List.length_replicate] at this
  have hb0 : Below w.heap.size w w0 := (Below.refl _ _).grown hg0 (Nat.le_refl _) (fun k h => by cases h)
  have O0 := hide ho0
  have B0 := hide hb0
  clear hm0 hg0 ho0 hb0
  go_wp2_with (refine wpList_copy_vals rfl (.tmp 12) (.tmp 13) rfl w.heap.size w.heap.size N 0 N N _ (List.replicate N nilRow) fs rfl rfl O0.out (F.out.below B0.out) (by omega) (by omega) ?_)
  intro w1 ho1 hg1
  have hb1 : Below w.heap.size w w1 := B0.out.grown hg1 B0.out.size (fun k hk => by cases hk; exact Nat.le_refl _)
  have O1 := hide ho1
  have B1 := hide hb1
  have i0 : (0 : Int) ≤ (fs.length : Int) := by omega
  have i1 : (fs.length : Int) ≤ (N : Int) := by omega
  have i3 : ¬ (N = fs.length) := by omega
  clear ho1 hg1 hb1
  go_wp2_with (refine wpList_copy_vals rfl (.tmp 18) (.tmp 19) rfl w.heap.size w.heap.size N fs.length (N - fs.length) (N - fs.length) _ (splV (List.replicate N nilRow) 0 fs) bs rfl rfl O1.out (G.out.below B1.out) (by have := hN4.out; omega) hN4.out ?_)
  intro w2 ho2 hg2
  have hb2 : Below w.heap.size w w2 := B1.out.grown hg2 B1.out.size (fun k hk => by cases hk; exact Nat.le_refl _)
  rw [splV_two N fs bs HN.out] at ho2
  have O2 := hide ho2
  have B2 := hide hb2
  clear ho2 hg2 hb2
  go_wp2
  go_ret
  exact ⟨rfl, O2.out, B2.out.os, B2.out.tape, B2.out.output, B2.out.size, fun k hk _ => B2.out.block k hk⟩
end Go.Proofs.YtogopakmebiomaaDoor

namespace Go.Proofs.YtogopakmebiomaaDoor
open Go.RowKit

theorem contains_at {xs : List Int} {x : Int} {k : Nat} (hk : k < xs.length) (h : xs.getD k 0 = x) : xs.contains x = true := by
  rw [List.contains_eq_mem, decide_eq_true_eq, ← h, List.getD_eq_getElem?_getD, List.getElem?_eq_getElem hk, Option.getD_some]
  exact List.getElem_mem hk
theorem contains_no {xs : List Int} {x : Int} (h : ∀ i, i < xs.length → xs.getD i 0 ≠ x) : xs.contains x = false := by
  rw [List.contains_eq_mem, decide_eq_false_iff_not]
  intro hm
  obtain ⟨i, hi, rfl⟩ := List.mem_iff_getElem.1 hm
  refine h i hi ?_
  rw [List.getD_eq_getElem?_getD, List.getElem?_eq_getElem hi, Option.getD_some]

set_option maxRecDepth 100000 in
set_option maxHeartbeats 800000 in
theorem l1Has_calls (v : Value) (xs : List Int) (x : Int) (w : World) (h : Rd w v xs) :
    Calls Tryd.prog 149 #[v, .int .i64 x] w fun e w' => e = .returned (.bool (xs.contains x)) ∧ w = w' := by
  have R := hide h
  obtain ⟨a, cap, rfl, q1, q2, q3⟩ := h
  have hm : xs.length ≤ maxLen := by omega
  unfold maxLen at hm
  clear q1 q2 q3
  obtain ⟨r, hr⟩ : ∃ r, r = xs.contains x := ⟨_, rfl⟩
  rw [← hr]
  have HR := hide hr
  clear hr
  go_enter Tryd.func149, Tryd.ntmps149
  go_wp2
  go_loop [9] (fun vi => ∃ (k : Nat), k ≤ xs.length ∧ vi = .int .i64 k ∧ ∀ i, i < k → xs.getD i 0 ≠ x) (fun vi => xs.length - (intOf vi).toNat)
  case atStart => exact ⟨0, Nat.zero_le _, rfl, fun i hi => by omega⟩
  case round =>
    obtain ⟨k, hk, rfl, hall⟩ := hrel
    have A := hide hall
    clear hall
    by_cases hlt : k < xs.length
    · have hlt' : (k : Int) < (xs.length : Int) := by omega
      obtain ⟨b, off, u, rfl, hc, hu⟩ := R.out.row k hlt
      obtain ⟨y, hy⟩ : ∃ y, y = xs.getD k 0 := ⟨_, rfl⟩
      rw [← hy] at hu
      subst hu
      have Y := hide hy
      clear hy
      by_cases e : y = x
      · have e1 : (y == x) = true := by simp [e]
        have E := hide e
        clear e
        go_wp2
        go_ret
        exact ⟨Gf.ret_bool (by rw [HR.out, contains_at hlt (by rw [← Y.out, E.out])]), rfl⟩
      · have e1 : (y == x) = false := by simp [e]
        have E := hide e
        clear e
        go_wp2
        go_round
        case rel =>
          refine ⟨k + 1, by omega, by go_num, fun i hi => ?_⟩
          by_cases ee : i = k
          · subst ee; rw [← Y.out]; exact E.out
          · exact A.out i (by omega)
        case measure => simp [intOf]; omega
    · obtain rfl : k = xs.length := by omega
      go_wp2
      go_ret
      exact ⟨Gf.ret_bool (by rw [HR.out, contains_no A.out]), rfl⟩
theorem rd_take {w : World} {a : Option Addr} {n cap : Nat} {xs : List Int} (h : Rd w (.slice a n cap) xs) (i : Nat) (hi : i ≤ xs.length) : Rd w (.slice a i cap) (xs.take i) := by
  obtain ⟨a', cap', hv, h1, h2, h3⟩ := h
  simp only [Value.slice.injEq] at hv
  obtain ⟨rfl, rfl, rfl⟩ := hv
  have hl : (xs.take i).length = i := by simp; omega
  refine ⟨a, cap, by rw [hl], by rw [hl]; omega, h2, ?_⟩
  rcases h3 with h3 | ⟨b, off, rfl, hlt, hc⟩
  · subst h3; exact .inl (by simp)
  · refine .inr ⟨b, off, rfl, hlt, fun j hj => ?_⟩
    rw [hl] at hj
    rw [hc j (by omega)]
    simp [List.getD_eq_getElem?_getD, hj]

theorem seenZero : Tryd.zeroCells132 = (List.replicate 256 (Value.bool false)).toArray := by kernel_rfl
theorem seenInfo : (Tryd.prog.info? 132).map (·.size) = some Tryd.zeroCells132.size := by kernel_rfl
theorem seenOne : Tryd.zeroCells132.all (·.oneCell') = true := by kernel_rfl
theorem seen_new (w : World) : (w.alloc (.cells Tryd.zeroCells132 132)).ownsRow w.heap.size 132 1 (.slice (some ⟨w.heap.size, 0, none⟩) 256 256) 256 (seenL []) := by
  have := of_block_V (w := w.alloc (.cells Tryd.zeroCells132 132)) (base := w.heap.size) (g := w.heap.size) (e := 132) (zs := List.replicate 256 (Value.bool false)) (by rw [← seenZero]; exact heap_alloc_last w _) (Nat.le_refl _) (by rw [List.length_replicate]; unfold maxLen; omega)
  rw [seenL_nil]
  rw [List.length_replicate] at this
  exact this
theorem flat_take (ls : List (List Int)) (i : Nat) (h : i < ls.length) : (ls.take (i + 1)).flatten = (ls.take i).flatten ++ ls.getD i [] := by
  rw [take_snoc ls [] i h, List.flatten_append]
  simp
theorem flat_no {ls : List (List Int)} {i k : Nat} (hi : i < ls.length) (h : unl ((ls.take i).flatten ++ (ls.getD i []).take k) = false) : unl ls.flatten = false := by
  have e : ls.flatten = ((ls.take i).flatten ++ (ls.getD i []).take k) ++ ((ls.getD i []).drop k ++ (ls.drop (i + 1)).flatten) := by
    conv => lhs; rw [← List.take_append_drop (i + 1) ls, List.flatten_append, flat_take ls i hi]
    rw [List.append_assoc, List.append_assoc, ← List.append_assoc ((ls.getD i []).take k), List.take_append_drop]
  rw [e]
  exact unl_app h _

set_option maxRecDepth 100000 in
set_option maxHeartbeats 1600000 in
theorem areUnlike_calls (v : Value) (ls : List (List Int)) (w : World) (h : RdM w v ls) (hn : ls.length ≤ 1048576) (hl : ∀ i, i < ls.length → (ls.getD i []).length ≤ 1048576) :
    Calls Tryd.prog 167 #[v] w fun e w' => e = .returned (.bool (unl ls.flatten)) ∧ Below w.heap.size w w' := by
  have R := hide h
  have HL := hide hl
  obtain ⟨a, cap, rfl, _⟩ := h
  clear hl
  obtain ⟨res, hres⟩ : ∃ r, r = unl ls.flatten := ⟨_, rfl⟩
  rw [← hres]
  have RES := hide hres
  clear hres
  have hsc := run_storeCells_new (P := Tryd.prog) w 132 Tryd.zeroCells132 Tryd.zeroCells132 seenInfo rfl seenOne
  have HSC := hide hsc
  clear hsc
  go_enter Tryd.func167, Tryd.ntmps167
  go_wp2
  rw [HSC.out]
  simp only [Result.andThen]
  rw [Oper.upon_skip]
  have O0 := hide (seen_new w)
  have B0 := hide ((Below.refl w.heap.size w).alloc (Nat.le_refl _) (.cells Tryd.zeroCells132 132))
  obtain ⟨w0, hw0⟩ : ∃ w0, w0 = w.alloc (.cells Tryd.zeroCells132 132) := ⟨_, rfl⟩
  rw [← hw0] at O0 B0 ⊢
  clear hw0 HSC
  go_wp2
  go_loopw [11] (fun vi wr => ∃ (i : Nat), i ≤ ls.length ∧ vi = .int .i64 i ∧ unl (ls.take i).flatten = true ∧ wr.ownsRow w.heap.size 132 1 (.slice (some ⟨w.heap.size, 0, none⟩) 256 256) 256 (seenL (ls.take i).flatten) ∧ Below w.heap.size w wr) (fun vi _ => ls.length - (intOf vi).toNat)
  case atStart => exact ⟨0, Nat.zero_le _, rfl, unl_nil, O0.out, B0.out⟩
  case round =>
    obtain ⟨i, hi, rfl, hu, ho, hb⟩ := hrel
    have U := hide hu
    have O := hide ho
    have B := hide hb
    clear hu ho hb
    by_cases hlt : i < ls.length
    · have hlt' : (i : Int) < (ls.length : Int) := by omega
      obtain ⟨b, off, uv, rfl, hbl, hc, hrd⟩ := R.out.rowAt i hlt
      have hc1 : wr.cell? ⟨b, off + i, none⟩ = some uv := (B.out.cell (p := ⟨b, off + i, none⟩) hbl).trans hc
      obtain ⟨r, hr⟩ : ∃ r, r = ls.getD i [] := ⟨_, rfl⟩
      have hrl := HL.out i hlt
      have hft := flat_take ls i hlt
      rw [← hr] at hrd hrl hft
      obtain ⟨pre, hpre⟩ : ∃ p, p = (ls.take i).flatten := ⟨_, rfl⟩
      have hno : ∀ k, unl (pre ++ r.take k) = false → res = false := fun k hk => by
        rw [RES.out]
        exact flat_no hlt (k := k) (by rw [← hr, ← hpre]; exact hk)
      rw [← hpre] at hft
      have hu1 := U.out
      have ho1 := O.out
      rw [← hpre] at hu1 ho1
      have RD := hide hrd
      have NO := hide hno
      have FT := hide hft
      have U1 := hide hu1
      have O1 := hide ho1
      obtain ⟨ua, uc, rfl, _⟩ := hrd
      clear hc hr hft hpre hno hu1 ho1 U O
      go_wp2
      go_loopw [17] (fun vi wr2 => ∃ (k : Nat), k ≤ r.length ∧ vi = .int .i64 k ∧ unl (pre ++ r.take k) = true ∧ wr2.ownsRow w.heap.size 132 1 (.slice (some ⟨w.heap.size, 0, none⟩) 256 256) 256 (seenL (pre ++ r.take k)) ∧ Below w.heap.size w wr2) (fun vi _ => r.length - (intOf vi).toNat)
      case atStart =>
        refine ⟨0, Nat.zero_le _, rfl, ?_, ?_, B.out⟩
        · rw [List.take_zero, List.append_nil]; exact U1.out
        · rw [List.take_zero, List.append_nil]; exact O1.out
      case round =>
        obtain ⟨k, hk, rfl, hu2, ho2, hb2⟩ := hrel
        have U2 := hide hu2
        have O2 := hide ho2
        have B2 := hide hb2
        clear hu2 ho2 hb2
        by_cases hltk : k < r.length
        · have hltk' : (k : Int) < (r.length : Int) := by omega
          obtain ⟨rb, roff, ru, rfl, hrc, hru⟩ := (RD.out.below B2.out).row k hltk
          obtain ⟨x, hx⟩ : ∃ x, x = r.getD k 0 := ⟨_, rfl⟩
          rw [← hx] at hru
          subst hru
          have hsn : unl (pre ++ r.take (k + 1)) = (unl (pre ++ r.take k) && (Gf.elOk x && !(pre ++ r.take k).contains x)) := by
            rw [take_snoc r 0 k hltk, ← hx, ← List.append_assoc, unl_snoc]
          have htk : pre ++ r.take (k + 1) = (pre ++ r.take k) ++ [x] := by rw [take_snoc r 0 k hltk, ← hx, List.append_assoc]
          rw [U2.out, Bool.true_and] at hsn
          have SN := hide hsn
          have TK := hide htk
          clear hsn htk hx
          cases hel : Gf.elOk x with
          | false =>
            have EL := hide hel
            have hf : res = false := NO.out (k + 1) (by rw [SN.out, EL.out]; rfl)
            have F := hide hf
            clear hel hf
            go_wp2_with fail
            refine (Gf.isE_calls x _).mono ?_
            rw [EL.out]
            rintro e w' ⟨rfl, rfl⟩
            go_wp2
            go_ret
            exact ⟨Gf.ret_bool F.out.symm, B2.out⟩
          | true =>
            have EL := hide hel
            obtain ⟨hx0, hx1⟩ := elOk_facts hel
            obtain ⟨n, rfl⟩ := Int.eq_ofNat_of_zero_le hx0
            have hn256 : n < 256 := by omega
            have hcell := World.ownsRow.cellAt O2.out n (by omega)
            rw [seenL_get _ n hn256] at hcell
            have hfr : wr.frozen? ⟨w.heap.size, n, none⟩ = false := World.ownsRow.frozenAt O2.out n
            have ST := hide (World.ownsRow.stored O2.out n (.bool true))
            obtain ⟨c, hcc⟩ : ∃ c, c = (pre ++ r.take k).contains (n : Int) := ⟨_, rfl⟩
            rw [← hcc] at hcell
            have CC := hide hcc
            have i0 : (0 : Int) ≤ (n : Int) := by omega
            have i1 : (n : Int) < 256 := by omega
            clear hel hcc hx0 hx1
            cases c with
            | true =>
              have hf : res = false := NO.out (k + 1) (by rw [SN.out, EL.out, ← CC.out]; rfl)
              have F := hide hf
              clear hf
              go_wp2_with fail
              refine (Gf.isE_calls (n : Int) _).mono ?_
              rw [EL.out]
              rintro e w' ⟨rfl, rfl⟩
              go_wp2
              go_ret
              exact ⟨Gf.ret_bool F.out.symm, B2.out⟩
            | false =>
              go_wp2_with fail
              refine (Gf.isE_calls (n : Int) _).mono ?_
              rw [EL.out]
              rintro e w' ⟨rfl, rfl⟩
              go_wp2
              go_roundw
              case rel =>
                refine ⟨k + 1, by omega, by go_num, ?_, ?_, B2.out.setCell (Nat.le_refl _) _⟩
                · rw [SN.out, EL.out, ← CC.out]; rfl
                · have := ST.out.1
                  rw [seenL_set _ n hn256, ← TK.out] at this
                  exact this
              case measure => simp [intOf]; omega
        · obtain rfl : k = r.length := by omega
          go_wp2
          go_roundw
          case rel =>
            have h1 := U2.out
            have h2 := O2.out
            rw [List.take_of_length_le (Nat.le_refl _), ← FT.out] at h1 h2
            exact ⟨i + 1, by omega, by go_num, h1, h2, B2.out⟩
          case measure => simp [intOf]; omega
    · obtain rfl : i = ls.length := by omega
      have hf : res = true := by
        have := U.out
        rw [List.take_of_length_le (Nat.le_refl _)] at this
        rw [RES.out, this]
      have F := hide hf
      clear hf
      go_wp2
      go_ret
      exact ⟨Gf.ret_bool F.out.symm, B.out⟩
end Go.Proofs.YtogopakmebiomaaDoor

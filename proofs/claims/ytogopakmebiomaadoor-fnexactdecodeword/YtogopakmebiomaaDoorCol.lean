/-
  Columns: a list as a column of rows, a column of rows as a list, a matrix times a column: the program's functions and its model's, call by call. Each contract says what it asks.
-/
import Derived.Test.YtogopakmebiomaaDoorInvert
namespace Go.Proofs.YtogopakmebiomaaDoor
open Go.RowKit
open Gf (ci nat ciM Sh AllLt dotTo)

theorem take_snocI (l : List Int) (k : Nat) (h : k < l.length) : l.take (k + 1) = l.take k ++ [l.getD k 0] := by
  rw [List.take_succ_eq_append_getElem h, List.getD_eq_getElem?_getD, List.getElem?_eq_getElem h, Option.getD_some]
theorem rd_one1 {w : World} {z : Int} : Rd (w.alloc (.cells #[.int .i64 z] 3)) (.slice (some ⟨w.heap.size, 0, none⟩) 1 1) [z] := by
  refine ⟨_, 1, rfl, Nat.le_refl _, ⟨by unfold maxLen; omega, fun h => by cases h⟩, .inr ⟨_, 0, rfl, by simp, fun i hi => ?_⟩⟩
  simp at hi
  subst hi
  exact World.cell?_alloc_at _ _ _ _ (by simp)
set_option maxRecDepth 100000 in
theorem asCol1_calls (x : Int) (w : World) :
    Calls Tryd.prog 171 #[.int .i64 x] w fun e w' => ∃ v', e = .returned v' ∧ Own w' w.heap.size v' [x] ∧ Below w.heap.size w w' := by
  have OO : Hid (Own (w.alloc (.cells #[.int .i64 x] 3)) w.heap.size (.slice (some ⟨w.heap.size, 0, none⟩) 1 1) [x]) :=
    World.ownsRow_lit w #[.int .i64 x] 1 (Nat.le_refl _) (by unfold maxLen; omega) (by rfl)
  have BB := hide ((Below.refl w.heap.size w).alloc (Nat.le_refl _) (.cells #[.int .i64 x] 3))
  go_enter Tryd.func171, Tryd.ntmps171
  go_wp2
  go_ret
  exact ⟨_, rfl, OO.out, BB.out⟩
def colI (xs : List Int) : List (List Int) := xs.map fun x => [x]

set_option maxRecDepth 100000 in
set_option maxHeartbeats 800000 in
theorem asColumn_calls (v : Value) (xs : List Int) (w : World) (h : Rd w v xs) (hn : xs.length ≤ 1048576) :
    Calls Tryd.prog 160 #[v] w fun e w' => ∃ v', e = .returned v' ∧ Mat w' w.heap.size w'.heap.size v' (colI xs) ∧ Below w.heap.size w w' := by
  have HE : Calls Tryd.prog 141 #[v, .func (.func 171) #[] #[]] w fun e w' => ∃ v', e = .returned v' ∧ Mat w' w.heap.size w'.heap.size v' (colI xs) ∧ Below w.heap.size w w' := by
    have R := hide h
    obtain ⟨a, cap, rfl, _⟩ := h
    obtain ⟨MM, hM⟩ : ∃ M, M = colI xs := ⟨_, rfl⟩
    rw [← hM]
    have hMl : MM.length = xs.length := by rw [hM]; simp [colI]
    have hMg : ∀ k, k < xs.length → MM.getD k [] = [xs.getD k 0] := fun k hk => by rw [hM]; simp [colI, List.getD_eq_getElem?_getD, hk]
    have ML := hide hMl
    have MG := hide hMg
    clear hM hMl hMg
    go_enter Tryd.func141, Tryd.ntmps141
    go_wp2_with (at_make; refine wpList_make_rows rfl _ _ rfl _ _ xs.length rfl rfl (by omega) (by omega) hn ?_)
    intro w0 hm0 hg0
    have M0 := hide hm0
    have G0 := hide hg0
    clear hm0 hg0
    go_wp2
    go_loopw [6, 7, 13] (fun _ _ vi wr => ∃ (k : Nat) (vs : List Value), k ≤ xs.length ∧ vi = .int .i64 k ∧ MatV wr w.heap.size wr.heap.size (.slice (some ⟨w.heap.size, 0, none⟩) xs.length xs.length) vs (toTo MM k) ∧ Below w.heap.size w wr) (fun _ _ vi _ => xs.length - (intOf vi).toNat)
    case atStart =>
      refine ⟨0, List.replicate xs.length nilRow, Nat.zero_le _, rfl, ?_, (Below.refl _ _).grown G0.out (Nat.le_refl _) (fun k h => by cases h)⟩
      rw [toTo_zero, ML.out]
      exact M0.out
    case round =>
      obtain ⟨k, vs, hk, rfl, hm, hb⟩ := hrel
      have M := hide hm
      have B := hide hb
      clear hm hb
      by_cases hlt : k < xs.length
      · have hlt' : (k : Int) < (xs.length : Int) := by omega
        obtain ⟨b, off, u, rfl, hc1, hu⟩ := (R.out.below B.out).row k hlt
        obtain ⟨x, hx⟩ : ∃ x, x = xs.getD k 0 := ⟨_, rfl⟩
        rw [← hx] at hu
        subst hu
        have X := hide hx
        clear hx
        go_wp2_with fail
        refine (asCol1_calls x _).mono ?_
        rintro e w1 ⟨xv, rfl, hxo, hb1⟩
        obtain ⟨xa, xn, xc, rfl⟩ := hxo.shape
        have hkl : k < (toTo MM k).length := by rw [toTo_length _ k (by rw [ML.out]; exact hk), ML.out]; exact hlt
        have hM1 := M.out.below hb1
        have hc2 : w1.frozen? ⟨w.heap.size, k, none⟩ = false := World.ownsRow.frozenAt (by have := hM1.head; rwa [← hM1.lenEq] at this) k
        have hc3 := hM1.cell k hkl
        have L := hide (M.out.lay k hkl hb1 _ _ hxo M.out.sizeLo (Nat.le_refl _))
        have B1 := hide hb1
        clear hM1 hxo hb1
        go_wp2
        go_roundw
        case rel =>
          refine ⟨k + 1, vs.set k (.slice xa xn xc), by omega, by go_num, ?_, ?_⟩
          · have := L.out.1
            rw [X.out, ← MG.out k hlt, toTo_step _ k (by rw [ML.out]; exact hlt)] at this
            exact this
          · exact (B.out.trans (B1.out.mono B.out.size)).setCell (Nat.le_refl _) _
        case measure => simp [intOf]; omega
      · obtain rfl : k = xs.length := by omega
        go_wp2
        go_ret
        have hm := M.out
        have e := toTo_end MM
        rw [ML.out] at e
        rw [e] at hm
        exact ⟨_, rfl, ⟨_, hm⟩, B.out⟩
  have E := hide HE
  clear HE
  obtain ⟨a, cap, rfl, _⟩ := h
  go_enter Tryd.func160, Tryd.ntmps160
  go_wp2_with fail
  refine E.out.mono ?_
  rintro e w1 ⟨v1, rfl, hm1, hb1⟩
  have M1 := hide hm1
  have B1 := hide hb1
  clear hm1 hb1
  go_wp2
  go_ret
  exact ⟨_, rfl, M1.out, B1.out⟩

set_option maxRecDepth 100000 in
theorem colAt_calls (u : Value) (r : List Int) (f g : Nat) (w : World) (h : Rd w u r) (hg : w.cell? ⟨g, 0, none⟩ = some (.int .i64 f)) (hf : f < r.length) :
    Calls Tryd.prog 173 #[u, .pointer (some ⟨g, 0, none⟩)] w fun e w' => e = .returned (.int .i64 (r.getD f 0)) ∧ w = w' := by
  have R := hide h
  obtain ⟨a, cap, rfl, _⟩ := h
  obtain ⟨b, off, x, rfl, hc, hx⟩ := R.out.row f hf
  subst hx
  have i1 : (f : Int) < (r.length : Int) := by omega
  obtain ⟨y, hy⟩ : ∃ y, y = r.getD f 0 := ⟨_, rfl⟩
  rw [← hy] at hc ⊢
  clear hy
  go_enter Tryd.func173, Tryd.ntmps173
  go_wp2
  go_ret
  exact ⟨rfl, rfl⟩
def colAt (m : List (List Int)) (f : Nat) : List Int := m.map fun r => r.getD f 0

set_option maxRecDepth 100000 in
set_option maxHeartbeats 800000 in
theorem columnOf_calls (v : Value) (m : List (List Int)) (f : Nat) (w : World) (h : RdM w v m) (hn : m.length ≤ 1048576) (hl : ∀ i, i < m.length → f < (m.getD i []).length) :
    Calls Tryd.prog 161 #[v, .int .i64 f] w fun e w' => ∃ v', e = .returned v' ∧ Own w' w.heap.size v' (colAt m f) ∧ Below w.heap.size w w' := by
  obtain ⟨W, hW⟩ : ∃ W, W = w.alloc (.cells #[.int .i64 f] 3) := ⟨_, rfl⟩
  have hBW : Below w.heap.size w W := by rw [hW]; exact (Below.refl _ _).alloc (Nat.le_refl _) _
  have hgW : W.cell? ⟨w.heap.size, 0, none⟩ = some (.int .i64 f) := by rw [hW]; exact World.cell?_alloc_at _ _ _ _ rfl
  have hsW : w.heap.size < W.heap.size := by rw [hW]; simp
  have HE : Calls Tryd.prog 172 #[v, .func (.func 173) #[] #[.pointer (some ⟨w.heap.size, 0, none⟩)]] W fun e w' => ∃ v', e = .returned v' ∧ Own w' W.heap.size v' (colAt m f) ∧ Below W.heap.size W w' := by
    have R := hide (h.below hBW)
    have GW := hide hgW
    have HL := hide hl
    obtain ⟨a, cap, rfl, _⟩ := h
    obtain ⟨xs, hxs⟩ : ∃ xs, xs = colAt m f := ⟨_, rfl⟩
    rw [← hxs]
    have hxl : xs.length = m.length := by rw [hxs]; simp [colAt]
    have hxg : ∀ k, k < m.length → xs.getD k 0 = (m.getD k []).getD f 0 := fun k hk => by rw [hxs]; simp [colAt, List.getD_eq_getElem?_getD, hk]
    have XL := hide hxl
    have XG := hide hxg
    clear hxs hxl hxg hW hBW hgW hl
    go_enter Tryd.func172, Tryd.ntmps172
    go_wp2_with (at_make; refine wpList_make_ints rfl _ _ rfl W.heap.size _ _ m.length rfl rfl (by omega) (by omega) (by omega) (Nat.le_refl _) ?_)
    intro w0 ho0 hg0
    have O0 := hide ho0
    have B0 := hide ((Below.refl W.heap.size W).grown hg0 (Nat.le_refl _) (fun k h => by cases h))
    clear ho0 hg0
    go_wp2
    go_loopw [6, 7, 13] (fun _ _ vi wr => ∃ (k : Nat), k ≤ m.length ∧ vi = .int .i64 k ∧ Own wr W.heap.size (.slice (some ⟨W.heap.size, 0, none⟩) m.length m.length) (cpTo xs k) ∧ Below W.heap.size W wr) (fun _ _ vi _ => m.length - (intOf vi).toNat)
    case atStart =>
      refine ⟨0, Nat.zero_le _, rfl, ?_, B0.out⟩
      rw [cpTo_zero, XL.out]
      exact O0.out
    case round =>
      obtain ⟨k, hk, rfl, ho, hb⟩ := hrel
      by_cases hlt : k < m.length
      · have hlt' : (k : Int) < (m.length : Int) := by omega
        obtain ⟨b, off, u, rfl, hc1, hu⟩ := (R.out.below hb).row k hlt
        have U := hide hu
        have GC : Hid (wr.cell? ⟨w.heap.size, 0, none⟩ = some (.int .i64 f)) := (hb.cell (p := ⟨w.heap.size, 0, none⟩) hsW).trans GW.out
        have hcl : (cpTo xs k).length = m.length := by rw [cpTo_length xs k (by rw [XL.out]; exact hk), XL.out]
        obtain ⟨hfz, hcell⟩ := ho.at k (by rw [hcl]; exact hlt)
        obtain ⟨old, hold⟩ : ∃ o, o = (cpTo xs k).getD k 0 := ⟨_, rfl⟩
        rw [← hold] at hcell
        obtain ⟨y, hy⟩ : ∃ y, y = (m.getD k []).getD f 0 := ⟨_, rfl⟩
        have hst : (cpTo xs k).set k y = cpTo xs (k + 1) := by
          have := cpTo_step xs k (by rw [XL.out]; exact hlt)
          rw [XG.out k hlt] at this
          rw [hy]
          exact this
        have W1 := hide (ho.put k y)
        have ST := hide hst
        have Y := hide hy
        have B := hide hb
        clear hold ho hb hst hcl hu hy
        go_wp2_with fail
        refine (colAt_calls u _ f w.heap.size _ U.out GC.out (HL.out k hlt)).mono ?_
        rw [← Y.out]
        rintro e w1 ⟨rfl, rfl⟩
        go_wp2
        go_roundw
        case rel =>
          refine ⟨k + 1, by omega, by go_num, ?_, B.out.setCell (Nat.le_refl _) _⟩
          have := W1.out.1
          rw [ST.out] at this
          exact this
        case measure => simp [intOf]; omega
      · obtain rfl : k = m.length := by omega
        have O := hide ho
        have B := hide hb
        clear ho hb
        go_wp2
        go_ret
        have h := O.out
        have e := cpTo_end xs
        rw [XL.out] at e
        rw [e] at h
        exact ⟨_, rfl, h, B.out⟩
  have E := hide HE
  have HW := hide hW
  have BW := hide hBW
  obtain ⟨a, cap, rfl, _⟩ := h
  clear HE hW hBW hgW
  go_enter Tryd.func161, Tryd.ntmps161
  go_wp2_with fail
  rw [← HW.out]
  refine E.out.mono ?_
  rintro e w1 ⟨v1, rfl, ho1, hb1⟩
  have O1 := hide (Own.mono ho1 BW.out.size)
  have B1 := hide (BW.out.trans (hb1.mono BW.out.size))
  clear ho1 hb1
  go_wp2
  go_ret
  exact ⟨_, rfl, O1.out, B1.out⟩

/-- A matrix times a column. -/
def mulC (m : List (List Nat)) (v : List Nat) : List Nat := m.map fun r => dotTo r v v.length
set_option maxRecDepth 100000 in
set_option maxHeartbeats 1600000 in
theorem l2Column_calls (mv vv : Value) (M : List (List Nat)) (V : List Nat) (n : Nat) (w : World) (hm : RdM w mv (ciM M)) (hv : Rd w vv (ci V)) (hn : M.length ≤ 4096) (hV : V.length = n) (hn2 : n ≤ 4096) (hr : ∀ i, i < M.length → (M.getD i []).length = n ∧ AllLt (M.getD i [])) (hVl : AllLt V) :
    Calls Tryd.prog 158 #[mv, vv] w fun e w' => ∃ v', e = .returned v' ∧ Own w' w.heap.size v' (ci (mulC M V)) ∧ Below w.heap.size w w' := by
  have RM := hide hm
  have RV := hide hv
  have HR := hide hr
  have VL := hide hVl
  obtain ⟨ma, mcap, hmv, _⟩ := hm
  obtain ⟨va, vcap, hvv, _⟩ := hv
  rw [Gf.ciM_length] at hmv
  rw [Gf.ci_length, hV] at hvv
  subst hmv hvv
  obtain ⟨xs, hxs⟩ : ∃ xs, xs = ci (mulC M V) := ⟨_, rfl⟩
  rw [← hxs]
  have hxl : xs.length = M.length := by rw [hxs, Gf.ci_length]; simp [mulC]
  have hxg : ∀ k, k < M.length → xs.getD k 0 = ((dotTo (M.getD k []) V n : Nat) : Int) := fun k hk => by
    rw [hxs, Gf.ci_getD]
    simp [mulC, List.getD_eq_getElem?_getD, hk, hV]
  have XL := hide hxl
  have XG := hide hxg
  have HV := hide hV
  clear hxs hxl hxg hr hVl hV
  go_enter Tryd.func158, Tryd.ntmps158
  go_wp2
  go_loopw [5, 13] (fun vo vi wr => ∃ k : Nat, k ≤ M.length ∧ vi = .int .i64 k ∧ Own wr w.heap.size vo (xs.take k) ∧ Below w.heap.size w wr) (fun _ vi _ => M.length - (intOf vi).toNat)
  case atStart => exact ⟨0, Nat.zero_le _, rfl, World.ownsRow_nil _ _ _ _, Below.refl _ _⟩
  case round =>
    obtain ⟨k, hk, rfl, ho, hb⟩ := hrel
    have O := hide ho
    have B := hide hb
    clear ho hb
    by_cases hlt : k < M.length
    · have hlt' : (k : Int) < (M.length : Int) := by omega
      obtain ⟨b, off, u, rfl, hc, hu⟩ := (RM.out.below B.out).row k (by rw [Gf.ciM_length]; exact hlt)
      rw [Gf.ciM_get] at hu
      obtain ⟨r, hrr⟩ : ∃ r, r = M.getD k [] := ⟨_, rfl⟩
      obtain ⟨hrl, hrt⟩ := HR.out k hlt
      have hxk := XG.out k hlt
      rw [← hrr] at hu hrl hrt hxk
      have U := hide hu
      obtain ⟨ua, uc, huv, _⟩ := hu
      rw [Gf.ci_length, hrl] at huv
      subst huv
      have RT := hide hrt
      have RL := hide hrl
      have XK := hide hxk
      clear hrr hrl hrt hxk
      go_wp2
      go_loopw [8, 19] (fun vx vi wr2 => ∃ j x : Nat, j ≤ n ∧ vi = .int .i64 j ∧ vx = .int .i64 ((x : Nat) : Int) ∧ x = dotTo r V j ∧ wr2 = wr) (fun _ vi _ => n - (intOf vi).toNat)
      case atStart => exact ⟨0, 0, Nat.zero_le _, rfl, rfl, rfl, rfl⟩
      case round =>
        obtain ⟨j, x, hj, rfl, rfl, hx, rfl⟩ := hrel
        have X := hide hx
        have hx256 : x < 256 := by rw [hx]; exact Gf.dotTo_lt RT.out j
        clear hx
        by_cases hltj : j < n
        · have hltj' : (j : Int) < (n : Int) := by omega
          obtain ⟨rb, roff, ru, rfl, hrc, hru⟩ := U.out.row j (by rw [Gf.ci_length, RL.out]; exact hltj)
          obtain ⟨vb, voff, vu, rfl, hvc, hvu⟩ := (RV.out.below B.out).row j (by rw [Gf.ci_length, HV.out]; exact hltj)
          rw [Gf.ci_getD] at hru hvu
          obtain ⟨p, hp⟩ : ∃ p, p = r.getD j 0 := ⟨_, rfl⟩
          obtain ⟨q, hq⟩ : ∃ q, q = V.getD j 0 := ⟨_, rfl⟩
          rw [← hp] at hru
          rw [← hq] at hvu
          subst hru hvu
          have hp256 : p < 256 := by rw [hp]; exact RT.out j
          have hq256 : q < 256 := by rw [hq]; exact VL.out j
          have hnx : dotTo r V (j + 1) = x ^^^ Gf.mul p q := by rw [Gf.dotTo, ← X.out, ← hp, ← hq]
          have hm256 := Gf.mul_lt (a := p) (b := q) hp256
          obtain ⟨z, hz⟩ : ∃ z, z = Gf.mul p q := ⟨_, rfl⟩
          rw [← hz] at hnx hm256
          have CM : Hid (∀ w', Calls Tryd.prog 128 #[.int .i64 ((p : Nat) : Int), .int .i64 ((q : Nat) : Int)] w' fun e w'' => e = .returned (.int .i64 ((z : Nat) : Int)) ∧ w' = w'') := by
            intro w'
            rw [hz]
            refine (Gf.l1Mul_calls _ _ w' (by omega) (by omega) (by omega) (by omega)).mono ?_
            rintro e w'' ⟨rfl, rfl⟩
            simp
          have NX := hide hnx
          have XO : Hid (bits .xor .i64 ((x : Nat) : Int) ((z : Nat) : Int) = ((x ^^^ z : Nat) : Int)) := Gf.i64_xor _ _ (by omega) (by omega)
          clear hnx hp hq hz
          go_wp2_with fail
          refine (CM.out _).mono ?_
          rintro e w2 ⟨rfl, rfl⟩
          go_wp2
          go_roundw
          case rel => exact ⟨j + 1, x ^^^ z, by omega, by go_num, Gf.int_eq XO.out, NX.out.symm, by first | rfl | trivial⟩
          case measure => simp [intOf]; omega
        · obtain rfl : j = n := by omega
          have O2 := hide (O.out.alloc (.cells #[.int .i64 ((x : Nat) : Int)] 3))
          have HL2 : Hid ((xs.take k).length = k) := by show (xs.take k).length = k; rw [List.length_take, XL.out]; omega
          go_wp2_with (at_builtin; refine wpList_append_rd rfl _ _ rfl w.heap.size _ (xs.take k).length (xs.take k) [((x : Nat) : Int)] rfl O2.out _ rfl rd_one1 (by rw [HL2.out]; simp; omega) (by have := B.out.size; simp; omega) ?_)
          intro v' w3 ho3 hg3
          have hb3 : Below w.heap.size w w3 := (B.out.alloc B.out.size _).grown hg3 (by have := B.out.size; simp; omega) (fun i hi => (O.out.lt i hi).1)
          have e : xs.take k ++ [((x : Nat) : Int)] = xs.take (k + 1) := by rw [take_snocI xs k (by rw [XL.out]; exact hlt), XK.out, X.out]
          rw [e] at ho3
          have O3 := hide ho3
          have B3 := hide hb3
          clear ho3 hg3 hb3 e
          go_wp2
          go_roundw
          case rel => exact ⟨k + 1, by omega, by go_num, O3.out, B3.out⟩
          case measure => simp [intOf]; omega
    · obtain rfl : k = M.length := by omega
      go_wp2
      go_ret
      have h := O.out
      rw [List.take_of_length_le (by rw [XL.out]; exact Nat.le_refl _)] at h
      exact ⟨_, rfl, h, B.out⟩
end Go.Proofs.YtogopakmebiomaaDoor

/-
  Matrices drawn: the model's draw, call by call. Each contract says what it asks.
-/
import Derived.Test.YtoipcoidcaijjaaDoorDrawM
namespace Go.Proofs.YtoipcoidcaijjaaDoor
open Go.RowKit

set_option maxRecDepth 100000 in
set_option maxHeartbeats 6400000 in
theorem matrix_calls (g : Nat) (cv : Value) (k R L : Nat) (w : World) (h : CurS w g cv k) (hk : k ≤ 1000000) (hR1 : 1 ≤ R) (hR : R ≤ 8) (hL1 : 1 ≤ L) (hL : L ≤ 8) (hcb : ∀ w', Below g w w' → RdB w' cv) :
    Calls Tryd.prog 104 #[.pointer (some ⟨g, 0, none⟩), .int .i64 R, .int .i64 L] w fun e w' => ∃ v m, e = .returned v ∧ Mat w' w.heap.size w'.heap.size v m ∧ m.length = R ∧ (∀ i, i < R → (m.getD i []).length ≤ L) ∧ CurS w' g cv (k + 1000) ∧ w.grownBy w' (some g) := by
  have hlt := curS_lt h
  have H := hide h
  have CB := hide hcb
  clear h hcb
  go_enter Tryd.func104, Tryd.ntmps104
  go_wp2
  go_loopw [7, 8] (fun vm vi wr => ∃ (i : Nat) (vs : List Value) (m : List (List Int)), i ≤ R ∧ vi = .int .i64 i ∧ m.length = i ∧ (∀ j, j < i → (m.getD j []).length = L) ∧ MatV wr w.heap.size wr.heap.size vm vs m ∧ CurS wr g cv (k + 100 * i) ∧ w.grownBy wr (some g)) (fun _ vi _ => R - (intOf vi).toNat)
  case atStart =>
    obtain ⟨vs, hv⟩ := Mat.nil w w.heap.size w.heap.size
    exact ⟨0, vs, [], Nat.zero_le _, rfl, rfl, fun j hj => by omega, hv, H.out, World.grownBy.refl _ _⟩
  case round =>
    obtain ⟨i, vs, m, hi, rfl, hml, hmr, hM, hcur, hgr⟩ := hrel
    have M := hide hM
    have C := hide hcur
    have G := hide hgr
    have ML := hide hml
    have MR := hide hmr
    have s0 := hgr.size
    clear hM hcur hgr hml hmr
    by_cases hlt2 : i < R
    · have hlt' : (i : Int) < (R : Int) := by omega
      obtain ⟨W1, rfl⟩ : ∃ W1, W1 = wr := ⟨_, rfl⟩
      obtain ⟨vm, hvm⟩ : ∃ vm, vm = u7 := ⟨_, rfl⟩
      subst hvm
      go_wp2
      go_loopw [9, 10] (fun vr vj wr => ∃ (j : Nat) (xs : List Int), j ≤ L ∧ vj = .int .i64 j ∧ xs.length = j ∧ Own wr W1.heap.size vr xs ∧ CurS wr g cv (k + 100 * i + 4 * j) ∧ W1.grownBy wr (some g)) (fun _ vj _ => L - (intOf vj).toNat)
      case atStart => exact ⟨0, [], Nat.zero_le _, rfl, rfl, World.ownsRow_nil _ _ _ _, C.out, World.grownBy.refl _ _⟩
      case round =>
        obtain ⟨j, xs, hj, rfl, hxl, ho, hc, hg⟩ := hrel
        have O := hide ho
        have C2 := hide hc
        have G2 := hide hg
        have XL := hide hxl
        have s1 := hg.size
        clear ho hc hg hxl
        by_cases hltj : j < L
        · have hltj' : (j : Int) < (L : Int) := by omega
          obtain ⟨vr, hvr⟩ : ∃ vr, vr = u9 := ⟨_, rfl⟩
          subst hvr
          have RB := hide (rd_build (w := wr) (l := [0, 0, 1, 2, 3]) (g := g) (by omega) (by unfold maxLen; simp))
          go_wp2_with fail
          refine (among_calls g cv _ [0, 0, 1, 2, 3] (k + 100 * i + 4 * j) _ (C2.out.alloc _) (by omega) RB.out (by simp) (by simp)).mono ?_
          rintro e w3 ⟨z, rfl, hc3, hg3⟩
          have C3 := hide hc3
          have G3 := hide (grown_trans G2.out (grown_trans (World.grownBy_alloc _ _ _) hg3))
          have O3 := hide (own_keep (O.out.alloc _) hg3 (by omega))
          clear hc3 hg3
          go_wp2_with fail
          refine (pick_calls g cv (k + 100 * i + 4 * j + 2) 60 _ C3.out (by omega) (by omega) (by omega)).mono ?_
          rintro e w4 ⟨p, hp, rfl, hc4, hg4⟩
          have C4 := hide hc4
          have G4 := hide (grown_trans G3.out hg4)
          have O4 := hide (own_keep O3.out hg4 (by omega))
          clear hc4 hg4
          obtain ⟨y, hy⟩ : ∃ y, y = (wrap64 (z * (p : Int))).tmod 256 := ⟨_, rfl⟩
          have O5 : Hid (Own (w4.alloc (.cells #[.int .i64 ((wrap64 (z * (p : Int))).tmod 256)] 3)) W1.heap.size vr xs) := O4.out.alloc _
          have XL2 := XL.out
          have Y := hide hy
          clear hy
          go_wp2_with (at_builtin; refine wpList_append_rd rfl (.tmp 21) (.tmp 29) rfl W1.heap.size _ xs.length xs [(wrap64 (z * (p : Int))).tmod 256] rfl O5.out _ rfl rd_single (by simp; omega) (by have := G4.out.size; simp; omega) ?_)
          intro v' w5 ho5 hg5
          rw [← Y.out] at ho5
          have hg5' : w4.grownBy w5 vr.ownBlock := Gf.grownBy_trans (World.grownBy_alloc _ _ _) hg5
          have hfar : ∀ b, vr.ownBlock = some b → W1.heap.size ≤ b := fun b hb => (O4.out.lt b hb).1
          have G5 := hide (grown_far G4.out hg5' hfar)
          have C5 : Hid (CurS w5 g cv (k + 100 * i + 4 * (j + 1))) := by
            refine (CurS.far C4.out hg5' (fun b hb => by have := hfar b hb; omega) (fun w' h' => CB.out w' (grown_low (grown_trans G.out (grown_trans G5.out h')) hlt))).mono ?_
            omega
          have O6 := hide ho5
          clear ho5 hg5 hg5' hfar
          go_wp2
          go_roundw
          case rel => exact ⟨j + 1, xs ++ [y], by omega, by go_num, by simp; exact XL2, O6.out, C5.out, G5.out⟩
          case measure => simp [intOf]; omega
        · obtain rfl : j = L := by omega
          have ho := O.out
          obtain ⟨ra, rn, rc, rfl⟩ := ho.shape
          have hM2 := (M.out.chg (grown_chg G2.out) (.inr (by omega))).below ((Below.refl _ _).alloc (Nat.le_refl _) (.cells #[.slice ra rn rc] 23))
          have hS := mat_single ho s1
          have M2 := hide hM2
          have S2 := hide hS
          have GW := hide (grown_trans G.out G2.out)
          have MLi := ML.out
          have low : Hid (∀ b, vm.ownBlock = some b → w.heap.size ≤ b) := fun b hb => (World.ownsRow.lt hM2.head b hb).1
          clear ho hM2 hS
          go_wp2_with (at_builtin; refine wpList_append_mat rfl (.tmp 31) (.tmp 33) rfl w.heap.size w.heap.size W1.heap.size W1.heap.size (wr.heap.size + 1) _ _ vs [.slice ra rn rc] m [xs] rfl rfl M2.out S2.out (Nat.le_refl _) s0 (.inl (Nat.le_refl _)) (by simp) (by simp; omega) (by simp) (by omega) (by simp) (by simp; omega) ?_)
          intro v6 w6 hm6 hg6
          have hg6' : wr.grownBy w6 vm.ownBlock := Gf.grownBy_trans (World.grownBy_alloc _ _ _) hg6
          have G6 := hide (grown_far GW.out hg6' low.out)
          have C6 : Hid (CurS w6 g cv (k + 100 * (i + 1))) := by
            refine (CurS.far C2.out hg6' (fun b hb => by have := low.out b hb; omega) (fun w' h' => CB.out w' (grown_low (grown_trans G6.out h') hlt))).mono ?_
            omega
          have M6 := hide hm6
          clear hm6 hg6 hg6'
          go_wp2
          go_roundw
          case rel =>
            refine ⟨i + 1, _, _, by omega, by go_num, by simp; exact MLi, fun q hq => ?_, M6.out, C6.out, G6.out⟩
            rw [getD_app, MLi]
            split
            · rename_i h; exact MR.out q h
            · have : q - i = 0 := by omega
              rw [this]
              exact XL.out
          case measure => simp [intOf]; omega
    · obtain rfl : i = R := by omega
      have ml := ML.out
      obtain ⟨gm, cm, hvm, hgm1, hgm2, hgm3, hgm4⟩ := M.out.open (by rw [ml]; omega)
      rw [ml] at hvm hgm3
      subst hvm
      have hs1 := G.out.size
      by_cases hR2 : 1 < i
      · have t1 : (1 : Int) < (i : Int) := by omega
        have t2 : (0 : Int) < (i : Int) := by omega
        go_wp2_with fail
        refine (one_calls g cv (k + 100 * i) 6 _ C.out (by omega) (by omega) (by omega)).mono ?_
        rintro e w2 ⟨b2, rfl, hc2, hg2⟩
        have C2 := hide hc2
        have G2 := hide (grown_trans G.out hg2)
        have hs2 := hg2.size
        have hM2 := M.out.chg (grown_chg hg2) (.inr (by omega))
        clear hc2 hg2
        cases b2 with
        | false =>
          obtain ⟨MMM, hMM⟩ : ∃ M', M' = m := ⟨_, rfl⟩
          subst hMM
          have MM := hide hM2
          have CC := hide C2.out
          have GG := hide G2.out
          have LL := hide ml
          have LEQ : Hid (∀ j, j < i → (MMM.getD j []).length = L) := fun j hj => MR.out j hj
          have LEN : Hid (∀ j, j < i → (MMM.getD j []).length ≤ L) := fun j hj => by rw [LEQ.out j hj]; exact Nat.le_refl _
          clear hM2
          go_wp2_with fail
          refine (one_calls g cv (k + 100 * i + 2) 30 _ CC.out (by omega) (by omega) (by omega)).mono ?_
          rintro e w7 ⟨b7, rfl, hc7, hg7⟩
          have C7 := hide hc7
          have G7 := hide (grown_trans GG.out hg7)
          have hs7 := hg7.size
          have hM7 := MM.out.chg (grown_chg hg7) (.inr (by omega))
          clear hc7 hg7
          cases b7 with
          | false =>
            have M7 := hide hM7
            clear hM7
            go_wp2
            go_ret
            exact ⟨_, _, rfl, ⟨_, M7.out.wider (Nat.le_refl _) (by omega)⟩, LL.out, LEN.out, C7.out.mono (by omega), G7.out⟩
          | true =>
            have hro := hM7.row 0 (by rw [LL.out]; omega)
            have hce := hM7.cell 0 (by rw [LL.out]; omega)
            obtain ⟨gr, rc, hrv, _, _, hrle, _⟩ := hro.open1 (by rw [LEQ.out 0 (by omega)]; omega)
            rw [hrv] at hce
            rw [LEQ.out 0 (by omega)] at hce hrle hrv
            have hcut := hM7.cut0 (h2 := L / 2) (by rw [LL.out]; omega) hrv (by rw [LEQ.out 0 (by omega)]; omega)
            have hfz : w7.frozen? ⟨gm, 0, none⟩ = false := World.ownsRow.frozenAt (by have := hM7.head; rw [LL.out] at this; exact this) 0
            have hg8 := Gf.grownBy_drew hcut.2
            have hgm : w.heap.size ≤ gm := (World.ownsRow.lt hM7.head gm rfl).1
            have G8 := hide (grown_far G7.out hg8 (fun b hb => by cases hb; exact hgm))
            have C8 := hide (CurS.far C7.out hg8 (fun b hb => by cases hb; omega) (fun w' h' => CB.out w' (grown_low (grown_trans G8.out h') hlt)))
            have M8 := hide ((hcut.1.wider (lo' := w.heap.size) (hi' := w7.heap.size) (Nat.le_refl _) (by omega)).below (below_drew' (Below.refl _ _)))
            have j0 : (0 : Int) ≤ (L : Int) / 2 := by omega
            have j1 : (L : Int) / 2 ≤ (rc : Int) := by omega
            have j2 : (0 : Int) < (i : Int) := by omega
            clear hro hM7 hcut hrv hg8
            go_wp2_with fail
            go_region
            go_wp2
            go_ret
            refine ⟨_, _, rfl, ⟨_, M8.out.wider (Nat.le_refl _) (by simp)⟩, by rw [List.length_set]; exact LL.out, fun q hq => ?_, C8.out.mono (by omega), G8.out⟩
            rw [getD_set _ _ _ _ _ (by rw [LL.out]; omega)]
            split
            · rw [List.length_take, LEQ.out 0 (by omega)]; omega
            · exact LEN.out q hq
        | true =>
          have hro := hM2.row 1 (by rw [ml]; omega)
          have hce := hM2.cell 1 (by rw [ml]; omega)
          obtain ⟨gr1, rc1, hrv, hgl, hgh, hrle, _⟩ := hro.open1 (by rw [MR.out 1 (by omega)]; omega)
          have hrd := hro.rd
          rw [hrv] at hce hrd
          rw [MR.out 1 (by omega)] at hce hrd
          obtain ⟨r1, hr1⟩ : ∃ r, r = m.getD 1 [] := ⟨_, rfl⟩
          have hr1l : r1.length = L := by rw [hr1]; exact MR.out 1 (by omega)
          rw [← hr1] at hrd
          have hgm : w.heap.size ≤ gm := (World.ownsRow.lt hM2.head gm rfl).1
          have hgm2 : gm < w2.heap.size := (World.ownsRow.lt hM2.head gm rfl).2
          have RR : Hid (Rd (w2.alloc (.cells #[] 3)) (.slice (some ⟨gr1, 0, none⟩) L rc1) r1) := hrd.below ((Below.refl _ _).alloc (Nat.le_refl _) _)
          have OO : Hid (Own (w2.alloc (.cells #[] 3)) w2.heap.size (.slice (some ⟨w2.heap.size, 0, none⟩) 0 0) []) :=
            World.ownsRow_lit w2 #[] 0 (Nat.le_refl _) (Nat.zero_le _) (by rfl)
          have hce2 : (w2.alloc (.cells #[] 3)).cell? ⟨gm, 1, none⟩ = _ := (((Below.refl w2.heap.size w2).alloc (Nat.le_refl _) (.cells #[] 3)).cell (p := ⟨gm, 1, none⟩) hgm2).trans hce
          have M2 := hide hM2
          have R1 := hide hr1
          clear hro hrv hrd hr1 hM2
          go_wp2_with (at_builtin; refine wpList_append_rd rfl (.tmp 42) (.tmp 45) rfl w2.heap.size _ 0 [] r1 rfl OO.out _ rfl RR.out (by omega) (by simp) ?_)
          intro v3 w3 ho3 hg3
          have hb3 : Below w2.heap.size w2 w3 := ((Below.refl _ _).alloc (Nat.le_refl _) _).grown hg3 (by simp) (fun b hb => (OO.out.lt b hb).1)
          have ho3' : Own w3 w2.heap.size v3 r1 := by simpa using ho3
          obtain ⟨xa, xn, xc, rfl⟩ := ho3'.shape
          have hM3 := M2.out.below hb3
          have hfz : w3.frozen? ⟨gm, 0, none⟩ = false := World.ownsRow.frozenAt (by have := hM3.head; rw [ml] at this; exact this) 0
          have hc3 := hM3.cell 0 (by rw [ml]; omega)
          have hlay := (M2.out.wider (lo' := w.heap.size) (hi' := w2.heap.size) (Nat.le_refl _) (by omega)).lay 0 (by rw [ml]; omega) hb3 _ _ ho3' (by omega) (Nat.le_refl _)
          have s3 := hb3.size
          have G3 := hide (grown_far G2.out (row := none) ⟨hb3.os, hb3.tape, hb3.output, hb3.size, fun b hb _ => hb3.block b hb⟩ (fun b hb => by cases hb))
          have C3 := hide (C2.out.kept hb3 (fun w' h' => CB.out w' (grown_low (grown_trans G3.out h') hlt)))
          have GG := hide (grown_far G3.out hlay.2 (fun b hb => by cases hb; exact hgm))
          have CC := hide (CurS.far C3.out hlay.2 (fun b hb => by cases hb; omega) (fun w' h' => CB.out w' (grown_low (grown_trans GG.out h') hlt)))
          obtain ⟨MMM, hMM⟩ : ∃ M', M' = m.set 0 r1 := ⟨_, rfl⟩
          have MM := hide hlay.1
          rw [← hMM] at MM
          have LL : Hid (MMM.length = i) := by rw [hMM]; show (m.set 0 r1).length = i; rw [List.length_set]; exact ml
          have LEQ : Hid (∀ j, j < i → (MMM.getD j []).length = L) := fun j hj => by
            rw [hMM, getD_set _ _ _ _ _ (by rw [ml]; omega)]
            split
            · exact hr1l
            · exact MR.out j hj
          have LEN : Hid (∀ j, j < i → (MMM.getD j []).length ≤ L) := fun j hj => by rw [LEQ.out j hj]; exact Nat.le_refl _
          have s4 := hlay.2.size
          obtain ⟨W4, hW4⟩ : ∃ W, W = w3.setCell ⟨gm, 0, none⟩ (.slice xa xn xc) := ⟨_, rfl⟩
          rw [← hW4] at MM CC GG s4
          have HW := hide hW4
          clear ho3 hg3 hb3 ho3' hM3 hlay hMM hW4
          go_wp2_with fail
          rw [← HW.out]
          refine (one_calls g cv (k + 100 * i + 2) 30 _ CC.out (by omega) (by omega) (by omega)).mono ?_
          rintro e w7 ⟨b7, rfl, hc7, hg7⟩
          have C7 := hide hc7
          have G7 := hide (grown_trans GG.out hg7)
          have hs7 := hg7.size
          have hM7 := MM.out.chg (grown_chg hg7) (.inr (by omega))
          clear hc7 hg7
          cases b7 with
          | false =>
            have M7 := hide hM7
            clear hM7
            go_wp2
            go_ret
            exact ⟨_, _, rfl, ⟨_, M7.out.wider (Nat.le_refl _) (by omega)⟩, LL.out, LEN.out, C7.out.mono (by omega), G7.out⟩
          | true =>
            have hro := hM7.row 0 (by rw [LL.out]; omega)
            have hce := hM7.cell 0 (by rw [LL.out]; omega)
            obtain ⟨gr, rc, hrv, _, _, hrle, _⟩ := hro.open1 (by rw [LEQ.out 0 (by omega)]; omega)
            rw [hrv] at hce
            rw [LEQ.out 0 (by omega)] at hce hrle hrv
            have hcut := hM7.cut0 (h2 := L / 2) (by rw [LL.out]; omega) hrv (by rw [LEQ.out 0 (by omega)]; omega)
            have hfz : w7.frozen? ⟨gm, 0, none⟩ = false := World.ownsRow.frozenAt (by have := hM7.head; rw [LL.out] at this; exact this) 0
            have hg8 := Gf.grownBy_drew hcut.2
            have hgm : w.heap.size ≤ gm := (World.ownsRow.lt hM7.head gm rfl).1
            have G8 := hide (grown_far G7.out hg8 (fun b hb => by cases hb; exact hgm))
            have C8 := hide (CurS.far C7.out hg8 (fun b hb => by cases hb; omega) (fun w' h' => CB.out w' (grown_low (grown_trans G8.out h') hlt)))
            have M8 := hide ((hcut.1.wider (lo' := w.heap.size) (hi' := w7.heap.size) (Nat.le_refl _) (by omega)).below (below_drew' (Below.refl _ _)))
            have j0 : (0 : Int) ≤ (L : Int) / 2 := by omega
            have j1 : (L : Int) / 2 ≤ (rc : Int) := by omega
            have j2 : (0 : Int) < (i : Int) := by omega
            clear hro hM7 hcut hrv hg8
            go_wp2_with fail
            go_region
            go_wp2
            go_ret
            refine ⟨_, _, rfl, ⟨_, M8.out.wider (Nat.le_refl _) (by simp)⟩, by rw [List.length_set]; exact LL.out, fun q hq => ?_, C8.out.mono (by omega), G8.out⟩
            rw [getD_set _ _ _ _ _ (by rw [LL.out]; omega)]
            split
            · rw [List.length_take, LEQ.out 0 (by omega)]; omega
            · exact LEN.out q hq
      · have t1 : ¬ (1 : Int) < (i : Int) := by omega
        have t2 : (0 : Int) < (i : Int) := by omega
        obtain ⟨MMM, hMM⟩ : ∃ M', M' = m := ⟨_, rfl⟩
        subst hMM
        have MM := hide M.out
        have CC := hide C.out
        have GG := hide G.out
        have LL := hide ml
        have LEQ : Hid (∀ j, j < i → (MMM.getD j []).length = L) := fun j hj => MR.out j hj
        have LEN : Hid (∀ j, j < i → (MMM.getD j []).length ≤ L) := fun j hj => by rw [LEQ.out j hj]; exact Nat.le_refl _
        go_wp2_with fail
        refine (one_calls g cv (k + 100 * i) 30 _ CC.out (by omega) (by omega) (by omega)).mono ?_
        rintro e w7 ⟨b7, rfl, hc7, hg7⟩
        have C7 := hide hc7
        have G7 := hide (grown_trans GG.out hg7)
        have hs7 := hg7.size
        have hM7 := MM.out.chg (grown_chg hg7) (.inr (by omega))
        clear hc7 hg7
        cases b7 with
        | false =>
          have M7 := hide hM7
          clear hM7
          go_wp2
          go_ret
          exact ⟨_, _, rfl, ⟨_, M7.out.wider (Nat.le_refl _) (by omega)⟩, LL.out, LEN.out, C7.out.mono (by omega), G7.out⟩
        | true =>
          have hro := hM7.row 0 (by rw [LL.out]; omega)
          have hce := hM7.cell 0 (by rw [LL.out]; omega)
          obtain ⟨gr, rc, hrv, _, _, hrle, _⟩ := hro.open1 (by rw [LEQ.out 0 (by omega)]; omega)
          rw [hrv] at hce
          rw [LEQ.out 0 (by omega)] at hce hrle hrv
          have hcut := hM7.cut0 (h2 := L / 2) (by rw [LL.out]; omega) hrv (by rw [LEQ.out 0 (by omega)]; omega)
          have hfz : w7.frozen? ⟨gm, 0, none⟩ = false := World.ownsRow.frozenAt (by have := hM7.head; rw [LL.out] at this; exact this) 0
          have hg8 := Gf.grownBy_drew hcut.2
          have hgm : w.heap.size ≤ gm := (World.ownsRow.lt hM7.head gm rfl).1
          have G8 := hide (grown_far G7.out hg8 (fun b hb => by cases hb; exact hgm))
          have C8 := hide (CurS.far C7.out hg8 (fun b hb => by cases hb; omega) (fun w' h' => CB.out w' (grown_low (grown_trans G8.out h') hlt)))
          have M8 := hide ((hcut.1.wider (lo' := w.heap.size) (hi' := w7.heap.size) (Nat.le_refl _) (by omega)).below (below_drew' (Below.refl _ _)))
          have j0 : (0 : Int) ≤ (L : Int) / 2 := by omega
          have j1 : (L : Int) / 2 ≤ (rc : Int) := by omega
          have j2 : (0 : Int) < (i : Int) := by omega
          clear hro hM7 hcut hrv hg8
          go_wp2_with fail
          go_region
          go_wp2
          go_ret
          refine ⟨_, _, rfl, ⟨_, M8.out.wider (Nat.le_refl _) (by simp)⟩, by rw [List.length_set]; exact LL.out, fun q hq => ?_, C8.out.mono (by omega), G8.out⟩
          rw [getD_set _ _ _ _ _ (by rw [LL.out]; omega)]
          split
          · rw [List.length_take, LEQ.out 0 (by omega)]; omega
          · exact LEN.out q hq
end Go.Proofs.YtoipcoidcaijjaaDoor

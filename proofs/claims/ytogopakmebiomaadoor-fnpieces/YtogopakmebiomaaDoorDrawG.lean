/-
  Pieces drawn: the model's draws of lists of pieces, call by call. Each contract says what it asks.
-/
import Derived.Test.YtogopakmebiomaaDoorDrawM
import Derived.Test.YtogopakmebiomaaDoorCauM
namespace Go.Proofs.YtogopakmebiomaaDoor
open Go.RowKit

set_option maxRecDepth 100000 in
set_option maxHeartbeats 800000 in
theorem amongIn_calls (g : Nat) (cv v : Value) (xs : List Int) (k : Nat) (w : World) (h : CurS w g cv k) (hk : k ≤ 1000000000) (hr : ∀ w', w.grownBy w' (some g) → Rd w' v xs) (h0 : 1 ≤ xs.length) (hl : xs.length ≤ 200) :
    Calls Tryd.prog 136 #[.pointer (some ⟨g, 0, none⟩), v] w fun e w' => ∃ (z : Int) (i : Nat), i < xs.length ∧ z = xs.getD i 0 ∧ e = .returned (.int .i64 z) ∧ CurS w' g cv (k + 2) ∧ w.grownBy w' (some g) := by
  have H := hide h
  have R := hide hr
  have hr0 := hr w (World.grownBy.refl _ _)
  obtain ⟨a, cap, rfl, _, _, _⟩ := hr0
  clear h hr
  go_enter Tryd.func136, Tryd.ntmps136
  go_wp2_with fail
  refine (pick_calls g cv k xs.length _ H.out hk h0 (by omega)).mono ?_
  rintro e w1 ⟨r1, hr1, rfl, hc1, hg1⟩
  have C1 := hide hc1
  have G1 := hide hg1
  obtain ⟨a', cap', hv, _, _, h3⟩ := R.out w1 hg1
  have hv2 : a' = a := by simp at hv; exact hv.1.symm
  subst hv2
  clear hv hc1 hg1 H
  rcases h3 with h3 | ⟨b, off, rfl, hbs, hc⟩
  · subst h3; simp at h0
  have hcell := hc r1 hr1
  obtain ⟨z, hz⟩ : ∃ z, z = xs.getD r1 0 := ⟨_, rfl⟩
  rw [← hz] at hcell
  have HZ := hide hz
  clear hz hc
  have t : (r1 : Int) < (xs.length : Int) := by omega
  go_wp2
  go_ret
  exact ⟨z, r1, hr1, HZ.out, rfl, C1.out, G1.out⟩

set_option maxRecDepth 100000 in
set_option maxHeartbeats 6400000 in
theorem pieces_calls (g : Nat) (cv : Value) (k R : Nat) (w : World) (h : CurS w g cv k) (hk : k ≤ 1000000) (hR : R ≤ 12) (hcb : ∀ w', Below g w w' → RdB w' cv) :
    Calls Tryd.prog 97 #[.pointer (some ⟨g, 0, none⟩), .int .i64 R] w fun e w' => ∃ v m L, e = .returned v ∧ Mat w' w.heap.size w'.heap.size v m ∧ m.length = R ∧ (L ≤ 33 ∧ ∀ r ∈ m, r.length = L) ∧ CurS w' g cv (k + 2000) ∧ w.grownBy w' (some g) := by
  have hlt := curS_lt h
  have H := hide h
  have CB := hide hcb
  clear h hcb
  go_enter Tryd.func97, Tryd.ntmps97
  go_wp2_with fail
  refine (pick_calls g _ k 4 _ H.out (by omega) (by omega) (by omega)).mono ?_
  rintro e w1 ⟨p, hp, rfl, hc1, hg1⟩
  have C1 := hide hc1
  have G1 := hide hg1
  clear hc1 hg1 H
  go_wp2_with fail
  refine (one_calls g _ (k + 2) 20 _ C1.out (by omega) (by omega) (by omega)).mono ?_
  rintro e w2 ⟨b, rfl, hc2, hg2⟩
  have C2 := hide hc2
  have G2 := hide (grown_trans G1.out hg2)
  have lt2 := curS_lt hc2
  clear hc2 hg2 C1
  cases b with
  | true =>
    have RB := hide (rd_build (w := w2) (l := [0, 32, 33]) (g := g) (by omega) (by unfold maxLen; simp))
    go_wp2_with fail
    refine (amongIn_calls g cv _ [0, 32, 33] (k + 4) _ (C2.out.alloc _) (by omega) RB.out (by simp) (by simp)).mono ?_
    rintro e w3 ⟨z, iz, hiz, hz, rfl, hc3, hg3⟩
    obtain ⟨L, hL, hzL⟩ : ∃ L : Nat, L ≤ 33 ∧ z = (L : Int) := by
      match iz, hiz with
      | 0, _ => exact ⟨0, by omega, hz⟩
      | 1, _ => exact ⟨32, by omega, hz⟩
      | 2, _ => exact ⟨33, by omega, hz⟩
    subst hzL
    have C3 : Hid (CurS w3 g cv (k + 6)) := hc3
    have G3 := hide (grown_trans G2.out (grown_trans (World.grownBy_alloc _ _ _) hg3))
    clear hc3 hg3 hz hiz
    go_wp2
    go_loopw [5, 7] (fun vm vi wr => ∃ (i : Nat) (vs : List Value) (m : List (List Int)), i ≤ R ∧ vi = .int .i64 i ∧ (m.length = i ∧ ∀ r ∈ m, r.length = L) ∧ MatV wr w.heap.size wr.heap.size vm vs m ∧ CurS wr g cv (k + 6 + 70 * i) ∧ w.grownBy wr (some g)) (fun _ vi _ => R - (intOf vi).toNat)
    case atStart =>
      obtain ⟨vs, hv⟩ := Mat.nil w3 w.heap.size w3.heap.size
      exact ⟨0, vs, [], Nat.zero_le _, rfl, ⟨rfl, fun r hr => nomatch hr⟩, hv, C3.out, G3.out⟩
    case round =>
      obtain ⟨i, vs, m, hi, rfl, ⟨hml, hmr⟩, hM, hcur, hgr⟩ := hrel
      have MR := hide hmr
      clear hmr
      have M := hide hM
      have C := hide hcur
      have G := hide hgr
      have ML := hide hml
      have s0 := hgr.size
      clear hM hcur hgr hml
      by_cases hlt2 : i < R
      · have hlt' : (i : Int) < (R : Int) := by omega
        obtain ⟨W1, rfl⟩ : ∃ W1, W1 = wr := ⟨_, rfl⟩
        obtain ⟨vm, hvm⟩ : ∃ vm, vm = u5 := ⟨_, rfl⟩
        subst hvm
        go_wp2
        go_loopw [8, 9] (fun vr vj wr => ∃ (j : Nat) (xs : List Int), j ≤ L ∧ vj = .int .i64 j ∧ xs.length = j ∧ Own wr W1.heap.size vr xs ∧ CurS wr g cv (k + 6 + 70 * i + 2 * j) ∧ W1.grownBy wr (some g)) (fun _ vj _ => L - (intOf vj).toNat)
        case atStart => exact ⟨0, [], Nat.zero_le _, rfl, rfl, World.ownsRow_nil _ _ _ _, C.out, World.grownBy.refl _ _⟩
        case round =>
          obtain ⟨j, xs, hj, rfl, hxl, ho, hc, hg⟩ := hrel
          have O := hide ho
          have C2 := hide hc
          have G2 := hide hg
          have XL := hide hxl
          have s1 := hg.size
          clear ho hc hg hxl
          by_cases hltj : j < L
          · have hltj' : (j : Int) < (L : Int) := by omega
            obtain ⟨vr, hvr⟩ : ∃ vr, vr = u8 := ⟨_, rfl⟩
            subst hvr
            go_wp2_with fail
            refine (pick_calls g cv (k + 6 + 70 * i + 2 * j) 256 _ C2.out (by omega) (by omega) (by omega)).mono ?_
            rintro e w4 ⟨q, hq, rfl, hc4, hg4⟩
            have C4 := hide hc4
            have G4 := hide (grown_trans G2.out hg4)
            have O4 := hide (own_keep O.out hg4 (by omega))
            clear hc4 hg4
            have O5 : Hid (Own (w4.alloc (.cells #[.int .i64 (q : Int)] 3)) W1.heap.size vr xs) := O4.out.alloc _
            have XL2 := XL.out
            go_wp2_with (at_builtin; refine wpList_append_rd rfl (.tmp 28) (.tmp 31) rfl W1.heap.size _ xs.length xs [(q : Int)] rfl O5.out _ rfl rd_single (by simp; omega) (by have := G4.out.size; simp; omega) ?_)
            intro v' w5 ho5 hg5
            have hg5' : w4.grownBy w5 vr.ownBlock := Gf.grownBy_trans (World.grownBy_alloc _ _ _) hg5
            have hfar : ∀ b, vr.ownBlock = some b → W1.heap.size ≤ b := fun b hb => (O4.out.lt b hb).1
            have G5 := hide (grown_far G4.out hg5' hfar)
            have C5 : Hid (CurS w5 g cv (k + 6 + 70 * i + 2 * (j + 1))) := by
              refine (CurS.far C4.out hg5' (fun b hb => by have := hfar b hb; omega) (fun w' h' => CB.out w' (grown_low (grown_trans G.out (grown_trans G5.out h')) hlt))).mono ?_
              omega
            have O6 := hide ho5
            clear ho5 hg5 hg5' hfar
            go_wp2
            go_roundw
            case rel => exact ⟨j + 1, xs ++ [(q : Int)], by omega, by go_num, by simp; exact XL2, O6.out, C5.out, G5.out⟩
            case measure => simp [intOf]; omega
          · obtain rfl : j = L := by omega
            have ho := O.out
            obtain ⟨ra, rn, rc, rfl⟩ := ho.shape
            have hM2 := (M.out.chg (grown_chg G2.out) (.inr (by omega))).below ((Below.refl _ _).alloc (Nat.le_refl _) (.cells #[.slice ra rn rc] 22))
            have hS := mat_single ho s1
            have M2 := hide hM2
            have S2 := hide hS
            have GW := hide (grown_trans G.out G2.out)
            have MLi := ML.out
            have low : Hid (∀ b, vm.ownBlock = some b → w.heap.size ≤ b) := fun b hb => (World.ownsRow.lt hM2.head b hb).1
            clear ho hM2 hS
            go_wp2_with (at_builtin; refine wpList_append_mat rfl (.tmp 33) (.tmp 35) rfl w.heap.size w.heap.size W1.heap.size W1.heap.size (wr.heap.size + 1) _ _ vs [.slice ra rn rc] m [xs] rfl rfl M2.out S2.out (Nat.le_refl _) s0 (.inl (Nat.le_refl _)) (by simp) (by simp; omega) (by simp) (by omega) (by simp) (by simp; omega) ?_)
            intro v6 w6 hm6 hg6
            have hg6' : wr.grownBy w6 vm.ownBlock := Gf.grownBy_trans (World.grownBy_alloc _ _ _) hg6
            have G6 := hide (grown_far GW.out hg6' low.out)
            have C6 : Hid (CurS w6 g cv (k + 6 + 70 * (i + 1))) := by
              refine (CurS.far C2.out hg6' (fun b hb => by have := low.out b hb; omega) (fun w' h' => CB.out w' (grown_low (grown_trans G6.out h') hlt))).mono ?_
              omega
            have M6 := hide hm6
            clear hm6 hg6 hg6'
            go_wp2
            go_roundw
            case rel => exact ⟨i + 1, _, _, by omega, by go_num, ⟨by simp; exact MLi, fun r hr => by
              rcases List.mem_append.mp hr with h | h
              · exact MR.out r h
              · simp at h; rw [h]; exact XL.out⟩, M6.out, C6.out, G6.out⟩
            case measure => simp [intOf]; omega
      · obtain rfl : i = R := by omega
        have mli := ML.out
        clear ML
        go_wp2
        go_ret
        exact ⟨_, m, L, rfl, ⟨_, M.out⟩, mli, ⟨hL, MR.out⟩, C.out.mono (by omega), G.out⟩
  | false =>
    obtain ⟨w3, hw3⟩ : ∃ w3, w3 = w2 := ⟨_, rfl⟩
    have C3 : Hid (CurS w3 g cv (k + 6)) := by rw [hw3]; exact C2.out.mono (by omega)
    have G3 : Hid (w.grownBy w3 (some g)) := by rw [hw3]; exact G2.out
    subst hw3
    go_wp2
    obtain ⟨L, hL0⟩ : ∃ L : Nat, L = 1 + p := ⟨_, rfl⟩
    have hLe : (1 : Int) + (p : Int) = (L : Int) := by omega
    rw [hLe]
    have hL : L ≤ 33 := by omega
    clear hL0 hLe
    go_loopw [5, 7] (fun vm vi wr => ∃ (i : Nat) (vs : List Value) (m : List (List Int)), i ≤ R ∧ vi = .int .i64 i ∧ (m.length = i ∧ ∀ r ∈ m, r.length = L) ∧ MatV wr w.heap.size wr.heap.size vm vs m ∧ CurS wr g cv (k + 6 + 70 * i) ∧ w.grownBy wr (some g)) (fun _ vi _ => R - (intOf vi).toNat)
    case atStart =>
      obtain ⟨vs, hv⟩ := Mat.nil w3 w.heap.size w3.heap.size
      exact ⟨0, vs, [], Nat.zero_le _, rfl, ⟨rfl, fun r hr => nomatch hr⟩, hv, C3.out, G3.out⟩
    case round =>
      obtain ⟨i, vs, m, hi, rfl, ⟨hml, hmr⟩, hM, hcur, hgr⟩ := hrel
      have MR := hide hmr
      clear hmr
      have M := hide hM
      have C := hide hcur
      have G := hide hgr
      have ML := hide hml
      have s0 := hgr.size
      clear hM hcur hgr hml
      by_cases hlt2 : i < R
      · have hlt' : (i : Int) < (R : Int) := by omega
        obtain ⟨W1, rfl⟩ : ∃ W1, W1 = wr := ⟨_, rfl⟩
        obtain ⟨vm, hvm⟩ : ∃ vm, vm = u5 := ⟨_, rfl⟩
        subst hvm
        go_wp2
        go_loopw [8, 9] (fun vr vj wr => ∃ (j : Nat) (xs : List Int), j ≤ L ∧ vj = .int .i64 j ∧ xs.length = j ∧ Own wr W1.heap.size vr xs ∧ CurS wr g cv (k + 6 + 70 * i + 2 * j) ∧ W1.grownBy wr (some g)) (fun _ vj _ => L - (intOf vj).toNat)
        case atStart => exact ⟨0, [], Nat.zero_le _, rfl, rfl, World.ownsRow_nil _ _ _ _, C.out, World.grownBy.refl _ _⟩
        case round =>
          obtain ⟨j, xs, hj, rfl, hxl, ho, hc, hg⟩ := hrel
          have O := hide ho
          have C2 := hide hc
          have G2 := hide hg
          have XL := hide hxl
          have s1 := hg.size
          clear ho hc hg hxl
          by_cases hltj : j < L
          · have hltj' : (j : Int) < (L : Int) := by omega
            obtain ⟨vr, hvr⟩ : ∃ vr, vr = u8 := ⟨_, rfl⟩
            subst hvr
            go_wp2_with fail
            refine (pick_calls g cv (k + 6 + 70 * i + 2 * j) 256 _ C2.out (by omega) (by omega) (by omega)).mono ?_
            rintro e w4 ⟨q, hq, rfl, hc4, hg4⟩
            have C4 := hide hc4
            have G4 := hide (grown_trans G2.out hg4)
            have O4 := hide (own_keep O.out hg4 (by omega))
            clear hc4 hg4
            have O5 : Hid (Own (w4.alloc (.cells #[.int .i64 (q : Int)] 3)) W1.heap.size vr xs) := O4.out.alloc _
            have XL2 := XL.out
            go_wp2_with (at_builtin; refine wpList_append_rd rfl (.tmp 28) (.tmp 31) rfl W1.heap.size _ xs.length xs [(q : Int)] rfl O5.out _ rfl rd_single (by simp; omega) (by have := G4.out.size; simp; omega) ?_)
            intro v' w5 ho5 hg5
            have hg5' : w4.grownBy w5 vr.ownBlock := Gf.grownBy_trans (World.grownBy_alloc _ _ _) hg5
            have hfar : ∀ b, vr.ownBlock = some b → W1.heap.size ≤ b := fun b hb => (O4.out.lt b hb).1
            have G5 := hide (grown_far G4.out hg5' hfar)
            have C5 : Hid (CurS w5 g cv (k + 6 + 70 * i + 2 * (j + 1))) := by
              refine (CurS.far C4.out hg5' (fun b hb => by have := hfar b hb; omega) (fun w' h' => CB.out w' (grown_low (grown_trans G.out (grown_trans G5.out h')) hlt))).mono ?_
              omega
            have O6 := hide ho5
            clear ho5 hg5 hg5' hfar
            go_wp2
            go_roundw
            case rel => exact ⟨j + 1, xs ++ [(q : Int)], by omega, by go_num, by simp; exact XL2, O6.out, C5.out, G5.out⟩
            case measure => simp [intOf]; omega
          · obtain rfl : j = L := by omega
            have ho := O.out
            obtain ⟨ra, rn, rc, rfl⟩ := ho.shape
            have hM2 := (M.out.chg (grown_chg G2.out) (.inr (by omega))).below ((Below.refl _ _).alloc (Nat.le_refl _) (.cells #[.slice ra rn rc] 22))
            have hS := mat_single ho s1
            have M2 := hide hM2
            have S2 := hide hS
            have GW := hide (grown_trans G.out G2.out)
            have MLi := ML.out
            have low : Hid (∀ b, vm.ownBlock = some b → w.heap.size ≤ b) := fun b hb => (World.ownsRow.lt hM2.head b hb).1
            clear ho hM2 hS
            go_wp2_with (at_builtin; refine wpList_append_mat rfl (.tmp 33) (.tmp 35) rfl w.heap.size w.heap.size W1.heap.size W1.heap.size (wr.heap.size + 1) _ _ vs [.slice ra rn rc] m [xs] rfl rfl M2.out S2.out (Nat.le_refl _) s0 (.inl (Nat.le_refl _)) (by simp) (by simp; omega) (by simp) (by omega) (by simp) (by simp; omega) ?_)
            intro v6 w6 hm6 hg6
            have hg6' : wr.grownBy w6 vm.ownBlock := Gf.grownBy_trans (World.grownBy_alloc _ _ _) hg6
            have G6 := hide (grown_far GW.out hg6' low.out)
            have C6 : Hid (CurS w6 g cv (k + 6 + 70 * (i + 1))) := by
              refine (CurS.far C2.out hg6' (fun b hb => by have := low.out b hb; omega) (fun w' h' => CB.out w' (grown_low (grown_trans G6.out h') hlt))).mono ?_
              omega
            have M6 := hide hm6
            clear hm6 hg6 hg6'
            go_wp2
            go_roundw
            case rel => exact ⟨i + 1, _, _, by omega, by go_num, ⟨by simp; exact MLi, fun r hr => by
              rcases List.mem_append.mp hr with h | h
              · exact MR.out r h
              · simp at h; rw [h]; exact XL.out⟩, M6.out, C6.out, G6.out⟩
            case measure => simp [intOf]; omega
      · obtain rfl : i = R := by omega
        have mli := ML.out
        clear ML
        go_wp2
        go_ret
        exact ⟨_, m, L, rfl, ⟨_, M.out⟩, mli, ⟨hL, MR.out⟩, C.out.mono (by omega), G.out⟩
end Go.Proofs.YtogopakmebiomaaDoor

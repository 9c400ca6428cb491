/-
  Pieces drawn: the model's draws of lists of pieces, call by call. Each contract says what it asks. A number put to its place, once: the model's function, call by call. No condition. Pieces decoded: the program's function and its model's, call by call. Each contract says what it asks: the pieces are lists of elements. Pieces decoded by the model's function, and whether a number is among some: call by call. Each contract says what it asks. Pieces drawn, and that they are lists of elements: the model's draw, call by call. Each contract says what it asks.
-/
import Derived.Test.YtcmohfckhikejaaDoorErasureB8
import Derived.Test.YtcmohfckhikejaaDoorErasureB3
import Derived.Test.YtcmohfckhikejaaDoorErasureB6
namespace Go.Proofs.YtcmohfckhikejaaDoor
open Go.RowKit

set_option maxRecDepth 100000 in
set_option maxHeartbeats 800000 in
theorem amongIn_calls (g : Nat) (cv v : Value) (xs : List Int) (k : Nat) (w : World) (h : CurS w g cv k) (hk : k ≤ 1000000000) (hr : ∀ w', w.grownBy w' (some g) → Rd w' v xs) (h0 : 1 ≤ xs.length) (hl : xs.length ≤ 200) :
    Calls Tryd.prog 41 #[.pointer (some ⟨g, 0, none⟩), v] w fun e w' => ∃ (z : Int) (i : Nat), i < xs.length ∧ z = xs.getD i 0 ∧ e = .returned (.int .i64 z) ∧ CurS w' g cv (k + 2) ∧ w.grownBy w' (some g) := by
  have H := hide h
  have R := hide hr
  have hr0 := hr w (World.grownBy.refl _ _)
  obtain ⟨a, cap, rfl, _, _, _⟩ := hr0
  clear h hr
  go_enter Tryd.func41, Tryd.ntmps41
  go_wp2_with fail
  refine (pick_calls g cv k xs.length _ H.out hk h0 (by omega)).mono ?_
  rintro e w1 ⟨r1, hr1, rfl, hc1, hg1⟩
  have C1 := hide hc1
  have G1 := hide hg1
  obtain ⟨a', cap', hv, _, _, h3⟩ := R.out w1 hg1
  have hv2 : a' = a := by simp at hv; exact hv.1.symm
  subst hv2
  clear hv hc1 hg1 H
  rcases h3 with h3 | ⟨b, off, rfl, hbs, hc⟩
  · subst h3; simp at h0
  have hcell := hc r1 hr1
  obtain ⟨z, hz⟩ : ∃ z, z = xs.getD r1 0 := ⟨_, rfl⟩
  rw [← hz] at hcell
  have HZ := hide hz
  clear hz hc
  have t : (r1 : Int) < (xs.length : Int) := by omega
  go_wp2
  go_ret
  exact ⟨z, r1, hr1, HZ.out, rfl, C1.out, G1.out⟩

set_option maxRecDepth 100000 in
set_option maxHeartbeats 6400000 in
theorem pieces_calls (g : Nat) (cv : Value) (k R : Nat) (w : World) (h : CurS w g cv k) (hk : k ≤ 1000000) (hR : R ≤ 12) (hcb : ∀ w', Below g w w' → RdB w' cv) :
    Calls Tryd.prog 17 #[.pointer (some ⟨g, 0, none⟩), .int .i64 R] w fun e w' => ∃ v m L, e = .returned v ∧ Mat w' w.heap.size w'.heap.size v m ∧ m.length = R ∧ (L ≤ 33 ∧ ∀ r ∈ m, r.length = L) ∧ CurS w' g cv (k + 2000) ∧ w.grownBy w' (some g) := by
  have hlt := curS_lt h
  have H := hide h
  have CB := hide hcb
  clear h hcb
  go_enter Tryd.func17, Tryd.ntmps17
  go_wp2_with fail
  refine (pick_calls g _ k 4 _ H.out (by omega) (by omega) (by omega)).mono ?_
  rintro e w1 ⟨p, hp, rfl, hc1, hg1⟩
  have C1 := hide hc1
  have G1 := hide hg1
  clear hc1 hg1 H
  go_wp2_with fail
  refine (one_calls g _ (k + 2) 20 _ C1.out (by omega) (by omega) (by omega)).mono ?_
  rintro e w2 ⟨b, rfl, hc2, hg2⟩
  have C2 := hide hc2
  have G2 := hide (grown_trans G1.out hg2)
  have lt2 := curS_lt hc2
  clear hc2 hg2 C1
  cases b with
  | true =>
    have RB := hide (rd_build (w := w2) (l := [0, 32, 33]) (g := g) (by omega) (by unfold maxLen; simp))
    go_wp2_with fail
    refine (amongIn_calls g cv _ [0, 32, 33] (k + 4) _ (C2.out.alloc _) (by omega) RB.out (by simp) (by simp)).mono ?_
    rintro e w3 ⟨z, iz, hiz, hz, rfl, hc3, hg3⟩
    obtain ⟨L, hL, hzL⟩ : ∃ L : Nat, L ≤ 33 ∧ z = (L : Int) := by
      match iz, hiz with
      | 0, _ => exact ⟨0, by omega, hz⟩
      | 1, _ => exact ⟨32, by omega, hz⟩
      | 2, _ => exact ⟨33, by omega, hz⟩
    subst hzL
    have C3 : Hid (CurS w3 g cv (k + 6)) := hc3
    have G3 := hide (grown_trans G2.out (grown_trans (World.grownBy_alloc _ _ _) hg3))
    clear hc3 hg3 hz hiz
    go_wp2
    go_loopw [5, 7] (fun vm vi wr => ∃ (i : Nat) (vs : List Value) (m : List (List Int)), i ≤ R ∧ vi = .int .i64 i ∧ (m.length = i ∧ ∀ r ∈ m, r.length = L) ∧ MatV wr w.heap.size wr.heap.size vm vs m ∧ CurS wr g cv (k + 6 + 70 * i) ∧ w.grownBy wr (some g)) (fun _ vi _ => R - (intOf vi).toNat)
    case atStart =>
      obtain ⟨vs, hv⟩ := Mat.nil w3 w.heap.size w3.heap.size
      exact ⟨0, vs, [], Nat.zero_le _, rfl, ⟨rfl, fun r hr => nomatch hr⟩, hv, C3.out, G3.out⟩
    case round =>
      obtain ⟨i, vs, m, hi, rfl, ⟨hml, hmr⟩, hM, hcur, hgr⟩ := hrel
      have MR := hide hmr
      clear hmr
      have M := hide hM
      have C := hide hcur
      have G := hide hgr
      have ML := hide hml
      have s0 := hgr.size
      clear hM hcur hgr hml
      by_cases hlt2 : i < R
      · have hlt' : (i : Int) < (R : Int) := by omega
        obtain ⟨W1, rfl⟩ : ∃ W1, W1 = wr := ⟨_, rfl⟩
        obtain ⟨vm, hvm⟩ : ∃ vm, vm = u5 := ⟨_, rfl⟩
        subst hvm
        go_wp2
        go_loopw [8, 9] (fun vr vj wr => ∃ (j : Nat) (xs : List Int), j ≤ L ∧ vj = .int .i64 j ∧ xs.length = j ∧ Own wr W1.heap.size vr xs ∧ CurS wr g cv (k + 6 + 70 * i + 2 * j) ∧ W1.grownBy wr (some g)) (fun _ vj _ => L - (intOf vj).toNat)
        case atStart => exact ⟨0, [], Nat.zero_le _, rfl, rfl, World.ownsRow_nil _ _ _ _, C.out, World.grownBy.refl _ _⟩
        case round =>
          obtain ⟨j, xs, hj, rfl, hxl, ho, hc, hg⟩ := hrel
          have O := hide ho
          have C2 := hide hc
          have G2 := hide hg
          have XL := hide hxl
          have s1 := hg.size
          clear ho hc hg hxl
          by_cases hltj : j < L
          · have hltj' : (j : Int) < (L : Int) := by omega
            obtain ⟨vr, hvr⟩ : ∃ vr, vr = u8 := ⟨_, rfl⟩
            subst hvr
            go_wp2_with fail
            refine (pick_calls g cv (k + 6 + 70 * i + 2 * j) 256 _ C2.out (by omega) (by omega) (by omega)).mono ?_
            rintro e w4 ⟨q, hq, rfl, hc4, hg4⟩
            have C4 := hide hc4
            have G4 := hide (grown_trans G2.out hg4)
            have O4 := hide (own_keep O.out hg4 (by omega))
            clear hc4 hg4
            have O5 : Hid (Own (w4.alloc (.cells #[.int .i64 (q : Int)] 3)) W1.heap.size vr xs) := O4.out.alloc _
            have XL2 := XL.out
            go_wp2_with (at_builtin; refine wpList_append_rd rfl (.tmp 28) (.tmp 31) rfl W1.heap.size _ xs.length xs [(q : Int)] rfl O5.out _ rfl rd_single (by simp; omega) (by have := G4.out.size; simp; omega) ?_)
            intro v' w5 ho5 hg5
            have hg5' : w4.grownBy w5 vr.ownBlock := Gf.grownBy_trans (World.grownBy_alloc _ _ _) hg5
            have hfar : ∀ b, vr.ownBlock = some b → W1.heap.size ≤ b := fun b hb => (O4.out.lt b hb).1
            have G5 := hide (grown_far G4.out hg5' hfar)
            have C5 : Hid (CurS w5 g cv (k + 6 + 70 * i + 2 * (j + 1))) := by
              refine (CurS.far C4.out hg5' (fun b hb => by have := hfar b hb; omega) (fun w' h' => CB.out w' (grown_low (grown_trans G.out (grown_trans G5.out h')) hlt))).mono ?_
              omega
            have O6 := hide ho5
            clear ho5 hg5 hg5' hfar
            go_wp2
            go_roundw
            case rel => exact ⟨j + 1, xs ++ [(q : Int)], by omega, by go_num, by simp; exact XL2, O6.out, C5.out, G5.out⟩
            case measure => simp [intOf]; omega
          · obtain rfl : j = L := by omega
            have ho := O.out
            obtain ⟨ra, rn, rc, rfl⟩ := ho.shape
            have hM2 := (M.out.chg (grown_chg G2.out) (.inr (by omega))).below ((Below.refl _ _).alloc (Nat.le_refl _) (.cells #[.slice ra rn rc] 31))
            have hS := mat_single ho s1
            have M2 := hide hM2
            have S2 := hide hS
            have GW := hide (grown_trans G.out G2.out)
            have MLi := ML.out
            have low : Hid (∀ b, vm.ownBlock = some b → w.heap.size ≤ b) := fun b hb => (World.ownsRow.lt hM2.head b hb).1
            clear ho hM2 hS
            go_wp2_with (at_builtin; refine wpList_append_mat rfl (.tmp 33) (.tmp 35) rfl w.heap.size w.heap.size W1.heap.size W1.heap.size (wr.heap.size + 1) _ _ vs [.slice ra rn rc] m [xs] rfl rfl M2.out S2.out (Nat.le_refl _) s0 (.inl (Nat.le_refl _)) (by simp) (by simp; omega) (by simp) (by omega) (by simp) (by simp; omega) ?_)
            intro v6 w6 hm6 hg6
            have hg6' : wr.grownBy w6 vm.ownBlock := Gf.grownBy_trans (World.grownBy_alloc _ _ _) hg6
            have G6 := hide (grown_far GW.out hg6' low.out)
            have C6 : Hid (CurS w6 g cv (k + 6 + 70 * (i + 1))) := by
              refine (CurS.far C2.out hg6' (fun b hb => by have := low.out b hb; omega) (fun w' h' => CB.out w' (grown_low (grown_trans G6.out h') hlt))).mono ?_
              omega
            have M6 := hide hm6
            clear hm6 hg6 hg6'
            go_wp2
            go_roundw
            case rel => exact ⟨i + 1, _, _, by omega, by go_num, ⟨by simp; exact MLi, fun r hr => by
              rcases List.mem_append.mp hr with h | h
              · exact MR.out r h
              · simp at h; rw [h]; exact XL.out⟩, M6.out, C6.out, G6.out⟩
            case measure => simp [intOf]; omega
      · obtain rfl : i = R := by omega
        have mli := ML.out
        clear ML
        go_wp2
        go_ret
        exact ⟨_, m, L, rfl, ⟨_, M.out⟩, mli, ⟨hL, MR.out⟩, C.out.mono (by omega), G.out⟩
  | false =>
    obtain ⟨w3, hw3⟩ : ∃ w3, w3 = w2 := ⟨_, rfl⟩
    have C3 : Hid (CurS w3 g cv (k + 6)) := by rw [hw3]; exact C2.out.mono (by omega)
    have G3 : Hid (w.grownBy w3 (some g)) := by rw [hw3]; exact G2.out
    subst hw3
    go_wp2
    obtain ⟨L, hL0⟩ : ∃ L : Nat, L = 1 + p := ⟨_, rfl⟩
    have hLe : (1 : Int) + (p : Int) = (L : Int) := by omega
    rw [hLe]
    have hL : L ≤ 33 := by omega
    clear hL0 hLe
    go_loopw [5, 7] (fun vm vi wr => ∃ (i : Nat) (vs : List Value) (m : List (List Int)), i ≤ R ∧ vi = .int .i64 i ∧ (m.length = i ∧ ∀ r ∈ m, r.length = L) ∧ MatV wr w.heap.size wr.heap.size vm vs m ∧ CurS wr g cv (k + 6 + 70 * i) ∧ w.grownBy wr (some g)) (fun _ vi _ => R - (intOf vi).toNat)
    case atStart =>
      obtain ⟨vs, hv⟩ := Mat.nil w3 w.heap.size w3.heap.size
      exact ⟨0, vs, [], Nat.zero_le _, rfl, ⟨rfl, fun r hr => nomatch hr⟩, hv, C3.out, G3.out⟩
    case round =>
      obtain ⟨i, vs, m, hi, rfl, ⟨hml, hmr⟩, hM, hcur, hgr⟩ := hrel
      have MR := hide hmr
      clear hmr
      have M := hide hM
      have C := hide hcur
      have G := hide hgr
      have ML := hide hml
      have s0 := hgr.size
      clear hM hcur hgr hml
      by_cases hlt2 : i < R
      · have hlt' : (i : Int) < (R : Int) := by omega
        obtain ⟨W1, rfl⟩ : ∃ W1, W1 = wr := ⟨_, rfl⟩
        obtain ⟨vm, hvm⟩ : ∃ vm, vm = u5 := ⟨_, rfl⟩
        subst hvm
        go_wp2
        go_loopw [8, 9] (fun vr vj wr => ∃ (j : Nat) (xs : List Int), j ≤ L ∧ vj = .int .i64 j ∧ xs.length = j ∧ Own wr W1.heap.size vr xs ∧ CurS wr g cv (k + 6 + 70 * i + 2 * j) ∧ W1.grownBy wr (some g)) (fun _ vj _ => L - (intOf vj).toNat)
        case atStart => exact ⟨0, [], Nat.zero_le _, rfl, rfl, World.ownsRow_nil _ _ _ _, C.out, World.grownBy.refl _ _⟩
        case round =>
          obtain ⟨j, xs, hj, rfl, hxl, ho, hc, hg⟩ := hrel
          have O := hide ho
          have C2 := hide hc
          have G2 := hide hg
          have XL := hide hxl
          have s1 := hg.size
          clear ho hc hg hxl
          by_cases hltj : j < L
          · have hltj' : (j : Int) < (L : Int) := by omega
            obtain ⟨vr, hvr⟩ : ∃ vr, vr = u8 := ⟨_, rfl⟩
            subst hvr
            go_wp2_with fail
            refine (pick_calls g cv (k + 6 + 70 * i + 2 * j) 256 _ C2.out (by omega) (by omega) (by omega)).mono ?_
            rintro e w4 ⟨q, hq, rfl, hc4, hg4⟩
            have C4 := hide hc4
            have G4 := hide (grown_trans G2.out hg4)
            have O4 := hide (own_keep O.out hg4 (by omega))
            clear hc4 hg4
            have O5 : Hid (Own (w4.alloc (.cells #[.int .i64 (q : Int)] 3)) W1.heap.size vr xs) := O4.out.alloc _
            have XL2 := XL.out
            go_wp2_with (at_builtin; refine wpList_append_rd rfl (.tmp 28) (.tmp 31) rfl W1.heap.size _ xs.length xs [(q : Int)] rfl O5.out _ rfl rd_single (by simp; omega) (by have := G4.out.size; simp; omega) ?_)
            intro v' w5 ho5 hg5
            have hg5' : w4.grownBy w5 vr.ownBlock := Gf.grownBy_trans (World.grownBy_alloc _ _ _) hg5
            have hfar : ∀ b, vr.ownBlock = some b → W1.heap.size ≤ b := fun b hb => (O4.out.lt b hb).1
            have G5 := hide (grown_far G4.out hg5' hfar)
            have C5 : Hid (CurS w5 g cv (k + 6 + 70 * i + 2 * (j + 1))) := by
              refine (CurS.far C4.out hg5' (fun b hb => by have := hfar b hb; omega) (fun w' h' => CB.out w' (grown_low (grown_trans G.out (grown_trans G5.out h')) hlt))).mono ?_
              omega
            have O6 := hide ho5
            clear ho5 hg5 hg5' hfar
            go_wp2
            go_roundw
            case rel => exact ⟨j + 1, xs ++ [(q : Int)], by omega, by go_num, by simp; exact XL2, O6.out, C5.out, G5.out⟩
            case measure => simp [intOf]; omega
          · obtain rfl : j = L := by omega
            have ho := O.out
            obtain ⟨ra, rn, rc, rfl⟩ := ho.shape
            have hM2 := (M.out.chg (grown_chg G2.out) (.inr (by omega))).below ((Below.refl _ _).alloc (Nat.le_refl _) (.cells #[.slice ra rn rc] 31))
            have hS := mat_single ho s1
            have M2 := hide hM2
            have S2 := hide hS
            have GW := hide (grown_trans G.out G2.out)
            have MLi := ML.out
            have low : Hid (∀ b, vm.ownBlock = some b → w.heap.size ≤ b) := fun b hb => (World.ownsRow.lt hM2.head b hb).1
            clear ho hM2 hS
            go_wp2_with (at_builtin; refine wpList_append_mat rfl (.tmp 33) (.tmp 35) rfl w.heap.size w.heap.size W1.heap.size W1.heap.size (wr.heap.size + 1) _ _ vs [.slice ra rn rc] m [xs] rfl rfl M2.out S2.out (Nat.le_refl _) s0 (.inl (Nat.le_refl _)) (by simp) (by simp; omega) (by simp) (by omega) (by simp) (by simp; omega) ?_)
            intro v6 w6 hm6 hg6
            have hg6' : wr.grownBy w6 vm.ownBlock := Gf.grownBy_trans (World.grownBy_alloc _ _ _) hg6
            have G6 := hide (grown_far GW.out hg6' low.out)
            have C6 : Hid (CurS w6 g cv (k + 6 + 70 * (i + 1))) := by
              refine (CurS.far C2.out hg6' (fun b hb => by have := low.out b hb; omega) (fun w' h' => CB.out w' (grown_low (grown_trans G6.out h') hlt))).mono ?_
              omega
            have M6 := hide hm6
            clear hm6 hg6 hg6'
            go_wp2
            go_roundw
            case rel => exact ⟨i + 1, _, _, by omega, by go_num, ⟨by simp; exact MLi, fun r hr => by
              rcases List.mem_append.mp hr with h | h
              · exact MR.out r h
              · simp at h; rw [h]; exact XL.out⟩, M6.out, C6.out, G6.out⟩
            case measure => simp [intOf]; omega
      · obtain rfl : i = R := by omega
        have mli := ML.out
        clear ML
        go_wp2
        go_ret
        exact ⟨_, m, L, rfl, ⟨_, M.out⟩, mli, ⟨hL, MR.out⟩, C.out.mono (by omega), G.out⟩
end Go.Proofs.YtcmohfckhikejaaDoor

namespace Go.Proofs.YtcmohfckhikejaaDoor
open Go.RowKit

theorem rd_take2 {w : World} {a : Option Addr} {n cap : Nat} {xs : List Int} (h : Rd w (.slice a n cap) xs) (i : Nat) (hi : i ≤ xs.length) : Rd w (.slice a i cap) (xs.take i) := by
  obtain ⟨a', cap', hv, h1, h2, h3⟩ := h
  simp only [Value.slice.injEq] at hv
  obtain ⟨rfl, rfl, rfl⟩ := hv
  have hl : (xs.take i).length = i := by simp; omega
  refine ⟨a, cap, by rw [hl], by rw [hl]; omega, h2, ?_⟩
  rcases h3 with h3 | ⟨b, off, rfl, hlt, hc⟩
  · subst h3; exact .inl (by simp)
  · refine .inr ⟨b, off, rfl, hlt, fun j hj => ?_⟩
    rw [hl] at hj
    rw [hc j (by omega)]
    simp [List.getD_eq_getElem?_getD, hj]
theorem rd_drop2 {w : World} {b off n cap : Nat} {xs : List Int} (h : Rd w (.slice (some ⟨b, off, none⟩) n cap) xs) (p : Nat) (hp : p < xs.length) : Rd w (.slice (some ⟨b, off + p, none⟩) (n - p) (cap - p)) (xs.drop p) := by
  obtain ⟨a', cap', hv, h1, h2, h3⟩ := h
  simp only [Value.slice.injEq] at hv
  obtain ⟨rfl, rfl, rfl⟩ := hv
  have hl : (xs.drop p).length = xs.length - p := List.length_drop
  refine ⟨_, cap - p, by rw [hl], by rw [hl]; omega, ⟨by have := h2.1; omega, fun h => by cases h⟩, ?_⟩
  rcases h3 with h3 | ⟨b', off', he, hlt, hc⟩
  · subst h3; simp at hp
  · simp only [Option.some.injEq, Addr.mk.injEq, and_true] at he
    obtain ⟨rfl, rfl⟩ := he
    refine .inr ⟨b, off + p, rfl, hlt, fun i hi => ?_⟩
    rw [hl] at hi
    have := hc (p + i) (by omega)
    rw [← Nat.add_assoc] at this
    rw [this]
    simp [List.getD_eq_getElem?_getD]

theorem results_four {fn : Func} {t u v x : Tmp} (h : fn.results = #[.tmp t, .tmp u, .tmp v, .tmp x]) (tmps : Array Value) (P : Program) (w : World) :
    (results fn tmps).run P w = .ok (.tuple #[tmps.getD t undef, tmps.getD u undef, tmps.getD v undef, tmps.getD x undef]) w := by
  simp [results, h]
theorem results_five {fn : Func} {t u v x y : Tmp} (h : fn.results = #[.tmp t, .tmp u, .tmp v, .tmp x, .tmp y]) (tmps : Array Value) (P : Program) (w : World) :
    (results fn tmps).run P w = .ok (.tuple #[tmps.getD t undef, tmps.getD u undef, tmps.getD v undef, tmps.getD x undef, tmps.getD y undef]) w := by
  simp [results, h]
theorem put_low {xs : List Int} {n : Int} (hx : ∀ y ∈ xs, 0 ≤ y) (hn : 0 ≤ n) (i j : Nat) : ∀ y ∈ xs.take i ++ n :: xs.drop j, 0 ≤ y := by
  intro y hy
  simp only [List.mem_append, List.mem_cons] at hy
  rcases hy with h | rfl | h
  · exact hx y (List.mem_of_mem_take h)
  · exact hn
  · exact hx y (List.mem_of_mem_drop h)
theorem put_low0 {xs : List Int} {n : Int} (hx : ∀ y ∈ xs, 0 ≤ y) (hn : 0 ≤ n) : ∀ y ∈ xs ++ [n], 0 ≤ y := by
  intro y hy
  simp only [List.mem_append, List.mem_singleton] at hy
  rcases hy with h | rfl
  · exact hx y h
  · exact hn
/-- A list of at most so many numbers and one more. -/
def PutR (w : World) (v : Value) (n B : Nat) : Prop := ∃ ys, Rd w v ys ∧ (ys.length ≤ n + 1 ∧ ∀ y ∈ ys, 0 ≤ y) ∧ ∀ b, v.ownBlock = some b → B ≤ b
theorem rd_far {w w' : World} {v : Value} {xs : List Int} {g : Nat} (h : Rd w v xs) (hg : w.grownBy w' (some g)) (hv : ∀ b, v.ownBlock = some b → b ≠ g) : Rd w' v xs := by
  obtain ⟨a, cap, rfl, h1, h2, h3⟩ := h
  refine ⟨a, cap, rfl, h1, h2, ?_⟩
  rcases h3 with h3 | ⟨b, off, rfl, hlt, hc⟩
  · exact .inl h3
  · refine .inr ⟨b, off, rfl, Nat.lt_of_lt_of_le hlt hg.size, fun i hi => ?_⟩
    rw [← hc i hi]
    unfold World.cell?
    rw [hg.block b hlt (fun e => hv b rfl (by simpa using e))]
set_option maxRecDepth 100000 in
set_option maxHeartbeats 3200000 in
theorem l1Put_calls (v : Value) (xs : List Int) (n : Int) (w : World) (h : Rd w v xs) (hl : xs.length ≤ 64) (hn : 0 ≤ n) (hx : ∀ y ∈ xs, 0 ≤ y) (B : Nat) (hB : B ≤ w.heap.size) (hvB : ∀ b, v.ownBlock = some b → B ≤ b) :
    Calls Tryd.prog 60 #[v, .int .i64 n] w fun e w' => ∃ v' : Value, e = .returned v' ∧ PutR w' v' xs.length B ∧ Below w.heap.size w w' := by
  have R := hide h
  have VB := hide hvB
  have XN := hide hx
  have NN := hide hn
  clear hvB hx hn
  obtain ⟨a, cap, rfl, hcap, hcm, _⟩ := h
  go_enter Tryd.func60, Tryd.ntmps60
  go_wp2
  go_loop [5] (fun vk => ∃ k : Nat, k ≤ xs.length ∧ vk = .int .i64 k) (fun vk => xs.length - (intOf vk).toNat)
  case atStart => exact ⟨0, Nat.zero_le _, rfl⟩
  case round =>
    obtain ⟨k, hk, rfl⟩ := hrel
    by_cases hlt : k < xs.length
    · have hlt' : (k : Int) < (xs.length : Int) := by omega
      obtain ⟨b, off, u, rfl, hc, hu⟩ := R.out.row k hlt
      obtain ⟨x, hx⟩ : ∃ x, x = xs.getD k 0 := ⟨_, rfl⟩
      rw [← hx] at hu
      subst hu
      clear hx
      by_cases hxn : x < n
      · go_wp2
        go_round
        case rel => exact ⟨k + 1, by omega, by go_num⟩
        case measure => simp [intOf]; omega
      · by_cases hxe : x = n
        · have te : (x == n) = true := by simp [hxe]
          have HX := hide hxe
          clear hxe
          go_wp2
          go_ret
          exact ⟨_, rfl, ⟨xs, R.out, ⟨by omega, XN.out⟩, VB.out⟩, Below.refl _ _⟩
        · have te : (x == n) = false := by simp [hxe]
          have RT := hide (rd_take2 R.out k hk)
          have RD := hide (rd_drop2 R.out k hlt)
          have i1 : (k : Int) ≤ (cap : Int) := by omega
          have i2 : ¬ cap = k := by omega
          have i3 : (k : Int) ≤ (xs.length : Int) := by omega
          clear hxe
          go_wp2_with (at_builtin; refine wpList_append_rd rfl (.tmp 34) (.tmp 37) rfl w.heap.size _ 0 [] (xs.take k) rfl (World.ownsRow_nil _ _ _ _) _ rfl RT.out (by rw [List.length_take]; omega) (Nat.le_refl _) ?_)
          intro v1 w1 ho1 hg1
          have b1 : Below w.heap.size w w1 := (Below.refl _ _).grown hg1 (Nat.le_refl _) (fun j hj => by cases hj)
          have ho1 : Own w1 w.heap.size v1 (xs.take k) := ho1
          have B1 := hide b1
          have l1 : (xs.take k).length = k := by rw [List.length_take]; omega
          have O1 := hide (ho1.alloc (.cells #[.int .i64 n] 3))
          have low1 : Hid (∀ j, v1.ownBlock = some j → w.heap.size ≤ j) := fun j hj => (ho1.lt j hj).1
          have L1 := hide l1
          clear ho1 hg1 b1 l1
          go_wp2_with (at_builtin; refine wpList_append_rd rfl (.tmp 39) (.tmp 41) rfl w.heap.size _ (xs.take k).length (xs.take k) [n] rfl O1.out _ rfl rd_single (by rw [L1.out]; simp; omega) (by have := B1.out.size; simp; omega) ?_)
          intro v2 w2 ho2 hg2
          have b2 : Below w.heap.size w w2 := (B1.out.alloc B1.out.size _).grown hg2 (by have := B1.out.size; simp; omega) low1.out
          have B2 := hide b2
          have O2 := hide ho2
          have low2 : Hid (∀ j, v2.ownBlock = some j → w.heap.size ≤ j) := fun j hj => (ho2.lt j hj).1
          have RD2 := hide (RD.out.below b2)
          have L2 : Hid ((xs.take k ++ [n]).length = k + 1) := by show (xs.take k ++ [n]).length = k + 1; rw [List.length_append, L1.out]; rfl
          clear ho2 hg2 b2
          go_wp2_with (at_builtin; refine wpList_append_rd rfl (.tmp 43) (.tmp 46) rfl w.heap.size _ (xs.take k ++ [n]).length (xs.take k ++ [n]) (xs.drop k) rfl O2.out _ rfl RD2.out (by rw [L2.out, List.length_drop]; omega) (by have := B2.out.size; omega) ?_)
          intro v3 w3 ho3 hg3
          have B3 : Hid (Below w.heap.size w w3) := B2.out.grown hg3 B2.out.size low2.out
          have R3 : Hid (PutR w3 v3 xs.length B) := ⟨_, ho3.rd, ⟨by simp only [List.length_append, List.length_cons, List.length_drop, List.length_take]; omega, put_low XN.out NN.out _ _⟩, fun j hj => Nat.le_trans hB (ho3.lt j hj).1⟩
          clear ho3 hg3
          go_wp2
          go_ret
          exact ⟨_, rfl, R3.out, B3.out⟩
    · obtain rfl : k = xs.length := by omega
      have i1 : (xs.length : Int) ≤ (cap : Int) := by omega
      have RT : Hid (Rd w (.slice a xs.length cap) xs) := R.out
      by_cases hce : cap = xs.length
      · obtain rfl : cap = xs.length := hce
        go_wp2_with (at_builtin; refine wpList_append_rd rfl (.tmp 34) (.tmp 37) rfl w.heap.size _ 0 [] xs rfl (World.ownsRow_nil _ _ _ _) _ rfl RT.out (by omega) (Nat.le_refl _) ?_)
        intro v1 w1 ho1 hg1
        have b1 : Below w.heap.size w w1 := (Below.refl _ _).grown hg1 (Nat.le_refl _) (fun j hj => by cases hj)
        have ho1 : Own w1 w.heap.size v1 xs := ho1
        have B1 := hide b1
        have O1 := hide (ho1.alloc (.cells #[.int .i64 n] 3))
        have low1 : Hid (∀ j, v1.ownBlock = some j → w.heap.size ≤ j) := fun j hj => (ho1.lt j hj).1
        clear ho1 hg1 b1
        go_wp2_with (at_builtin; refine wpList_append_rd rfl (.tmp 39) (.tmp 41) rfl w.heap.size _ xs.length xs [n] rfl O1.out _ rfl rd_single (by simp; omega) (by have := B1.out.size; simp; omega) ?_)
        intro v2 w2 ho2 hg2
        have b2 : Below w.heap.size w w2 := (B1.out.alloc B1.out.size _).grown hg2 (by have := B1.out.size; simp; omega) low1.out
        have B2 := hide b2
        have O2 := hide ho2
        have low2 : Hid (∀ j, v2.ownBlock = some j → w.heap.size ≤ j) := fun j hj => (ho2.lt j hj).1
        have L2 : Hid ((xs ++ [n]).length = xs.length + 1) := by show (xs ++ [n]).length = xs.length + 1; simp
        clear ho2 hg2 b2
        go_wp2_with (at_builtin; refine wpList_append_rd rfl (.tmp 43) (.tmp 46) rfl w.heap.size _ (xs ++ [n]).length (xs ++ [n]) [] rfl O2.out _ rfl ⟨_, _, rfl, Nat.zero_le _, ⟨by omega, by intro h; first | rfl | omega | (cases h)⟩, .inl rfl⟩ (by rw [L2.out]; simp; omega) (by have := B2.out.size; omega) ?_)
        intro v3 w3 ho3 hg3
        have B3 : Hid (Below w.heap.size w w3) := B2.out.grown hg3 B2.out.size low2.out
        have R3 : Hid (PutR w3 v3 xs.length B) := ⟨_, ho3.rd, ⟨by simp, put_low0 XN.out NN.out⟩, fun j hj => Nat.le_trans hB (ho3.lt j hj).1⟩
        clear ho3 hg3
        go_wp2
        go_ret
        exact ⟨_, rfl, R3.out, B3.out⟩
      · have ce : ¬ cap = xs.length := hce
        obtain ⟨ad, rfl⟩ : ∃ ad, a = some ad := by
          cases a with
          | none => exact absurd (by have := hcm.2 rfl; omega) ce
          | some ad => exact ⟨ad, rfl⟩
        go_wp2_with (at_builtin; refine wpList_append_rd rfl (.tmp 34) (.tmp 37) rfl w.heap.size _ 0 [] xs rfl (World.ownsRow_nil _ _ _ _) _ rfl RT.out (by omega) (Nat.le_refl _) ?_)
        intro v1 w1 ho1 hg1
        have b1 : Below w.heap.size w w1 := (Below.refl _ _).grown hg1 (Nat.le_refl _) (fun j hj => by cases hj)
        have ho1 : Own w1 w.heap.size v1 xs := ho1
        have B1 := hide b1
        have O1 := hide (ho1.alloc (.cells #[.int .i64 n] 3))
        have low1 : Hid (∀ j, v1.ownBlock = some j → w.heap.size ≤ j) := fun j hj => (ho1.lt j hj).1
        clear ho1 hg1 b1
        go_wp2_with (at_builtin; refine wpList_append_rd rfl (.tmp 39) (.tmp 41) rfl w.heap.size _ xs.length xs [n] rfl O1.out _ rfl rd_single (by simp; omega) (by have := B1.out.size; simp; omega) ?_)
        intro v2 w2 ho2 hg2
        have b2 : Below w.heap.size w w2 := (B1.out.alloc B1.out.size _).grown hg2 (by have := B1.out.size; simp; omega) low1.out
        have B2 := hide b2
        have O2 := hide ho2
        have low2 : Hid (∀ j, v2.ownBlock = some j → w.heap.size ≤ j) := fun j hj => (ho2.lt j hj).1
        have L2 : Hid ((xs ++ [n]).length = xs.length + 1) := by show (xs ++ [n]).length = xs.length + 1; simp
        clear ho2 hg2 b2
        go_wp2_with (at_builtin; refine wpList_append_rd rfl (.tmp 43) (.tmp 46) rfl w.heap.size _ (xs ++ [n]).length (xs ++ [n]) [] rfl O2.out _ rfl ⟨_, _, rfl, Nat.zero_le _, ⟨by omega, by intro h; first | rfl | omega | (cases h)⟩, .inl rfl⟩ (by rw [L2.out]; simp; omega) (by have := B2.out.size; omega) ?_)
        intro v3 w3 ho3 hg3
        have B3 : Hid (Below w.heap.size w w3) := B2.out.grown hg3 B2.out.size low2.out
        have R3 : Hid (PutR w3 v3 xs.length B) := ⟨_, ho3.rd, ⟨by simp, put_low0 XN.out NN.out⟩, fun j hj => Nat.le_trans hB (ho3.lt j hj).1⟩
        clear ho3 hg3
        go_wp2
        go_ret
        exact ⟨_, rfl, R3.out, B3.out⟩
end Go.Proofs.YtcmohfckhikejaaDoor

namespace Go.Proofs.YtcmohfckhikejaaDoor
open Go.RowKit
open Gf (ci nat ciM Sh AllLt invTo solN selM codeN those rowL identN elOk)

theorem sel_el {m : List (List Int)} (h : m.all (fun r : List Int => r.all elOk) = true) {f : List Nat} (hf : ∀ k ∈ f, k < m.length) : (selM m f).all (fun r : List Int => r.all elOk) = true := by
  rw [List.all_eq_true] at h ⊢
  intro r hr
  obtain ⟨k, hk, rfl⟩ := List.mem_map.1 hr
  have hl := hf k hk
  rw [List.getD_eq_getElem?_getD, List.getElem?_eq_getElem hl]
  exact h _ (List.getElem_mem hl)
theorem dec_no {d q : Int} {m : List (List Int)} {xs : List Int} (h : decOk d q m xs = false) : decR d q m xs = ([], false) := by
  unfold decR
  rw [h]
  rfl
theorem those_short (p : Nat → Bool) (n : Nat) : (those p n).length ≤ n := by have := Gf.those_not p n; omega

set_option maxRecDepth 100000 in
set_option maxHeartbeats 3200000 in
theorem decodePieces_calls (d q : Int) (v xv : Value) (m : List (List Int)) (xs : List Int) (w : World) (hT : Gf.Tab w) (h : RdM w v m) (hx : Rd w xv xs) (hel : m.all (fun r : List Int => r.all elOk) = true) :
    Calls Tryd.prog 11 #[.int .i64 d, .int .i64 q, v, xv] w fun e w' => ∃ v', e = .returned (.tuple #[v', .bool (decR d q m xs).2]) ∧ Mat w' w.heap.size w'.heap.size v' (decR d q m xs).1 ∧ Below w.heap.size w w' := by
  have R := hide h
  have X := hide hx
  have T := hide hT
  have EL := hide hel
  have hpc : piecesOk m = asLongOk m := by unfold piecesOk; rw [hel, Bool.and_true]
  have PC := hide hpc
  clear hT hel hpc
  cases hc : ((canR d q xs).1 && (canR d q xs).2) with
  | false =>
    have e : decR d q m xs = ([], false) := dec_no (by unfold decOk; rw [hc]; rfl)
    rw [e]
    clear e
    obtain ⟨a, cap, rfl, _⟩ := h
    obtain ⟨xa, xc, rfl, _⟩ := hx
    obtain ⟨c1, hc1⟩ : ∃ c, c = (canR d q xs).1 := ⟨_, rfl⟩
    obtain ⟨c2, hc2⟩ : ∃ c, c = (canR d q xs).2 := ⟨_, rfl⟩
    rw [← hc1, ← hc2] at hc
    have C1 := hide hc1
    have C2 := hide hc2
    clear hc1 hc2
    cases c1 with
    | false =>
      go_enter Tryd.func11, Tryd.ntmps11
      go_wp2_with fail
      refine (canDecode_calls d q _ xs _ X.out).mono ?_
      rw [← C1.out, ← C2.out]
      rintro e w1 ⟨rfl, b⟩
      have B := hide b
      clear b
      go_wp2
      go_ret2
      exact ⟨_, rfl, Mat.nil _ _ _, B.out⟩
    | true =>
      cases c2 with
      | true => cases hc
      | false =>
        go_enter Tryd.func11, Tryd.ntmps11
        go_wp2_with fail
        refine (canDecode_calls d q _ xs _ X.out).mono ?_
        rw [← C1.out, ← C2.out]
        rintro e w1 ⟨rfl, b⟩
        have B := hide b
        clear b
        go_wp2
        go_ret2
        exact ⟨_, rfl, Mat.nil _ _ _, B.out⟩
  | true =>
    rw [Bool.and_eq_true] at hc
    obtain ⟨hc1, hc2⟩ := hc
    have C1 := hide hc1
    have C2 := hide hc2
    have hcan : codeOk d q = true := by
      cases e : codeOk d q with
      | true => rfl
      | false => simp [canR, canOk, e] at hc2
    obtain ⟨f1, f2, f3, f4⟩ := codeOk_facts hcan
    obtain ⟨D, rfl⟩ := Int.eq_ofNat_of_zero_le (show 0 ≤ d by omega)
    obtain ⟨Q, rfl⟩ := Int.eq_ofNat_of_zero_le (show 0 ≤ q by omega)
    clear hcan
    by_cases hml : m.length = D + Q
    case neg =>
      have e : decR D Q m xs = ([], false) := dec_no (by unfold decOk; rw [hc1, hc2, decide_eq_false (by omega)]; rfl)
      rw [e]
      clear e hc1 hc2
      obtain ⟨a, cap, rfl, _⟩ := h
      obtain ⟨xa, xc, rfl, _⟩ := hx
      have t1 : ((m.length : Int) != (D : Int) + (Q : Int)) = true := by simp; omega
      have t2 : ¬ (m.length : Int) = (D : Int) + (Q : Int) := by omega
      go_enter Tryd.func11, Tryd.ntmps11
      go_wp2_with fail
      refine (canDecode_calls D Q _ xs _ X.out).mono ?_
      rw [C1.out, C2.out]
      rintro e w1 ⟨rfl, b⟩
      have B := hide b
      clear b
      go_wp2
      go_ret2
      exact ⟨_, rfl, Mat.nil _ _ _, B.out⟩
    obtain ⟨N, hN⟩ : ∃ N, N = D + Q := ⟨_, rfl⟩
    have hmN : m.length = N := by omega
    have MN := hide hmN
    have t1 : ((N : Int) != (D : Int) + (Q : Int)) = false := by simp; omega
    have t2 : (N : Int) = (D : Int) + (Q : Int) := by omega
    have HN := hide hN
    have T2 := hide t2
    obtain ⟨a, cap, hv, _⟩ := h
    rw [hmN] at hv
    subst hv
    obtain ⟨xa, xc, rfl, _⟩ := hx
    have hN10 : N ≤ 10 := by omega
    cases hal : asLongOk m with
    | false =>
      have e : decR D Q m xs = ([], false) := dec_no (by unfold decOk; rw [PC.out, hal, Bool.and_false, Bool.and_false])
      rw [e]
      have AL := hide hal
      clear e hc1 hc2 hal hN t2 hmN hml
      go_enter Tryd.func11, Tryd.ntmps11
      go_wp2_with fail
      refine (canDecode_calls D Q _ xs _ X.out).mono ?_
      rw [C1.out, C2.out]
      rintro e w1 ⟨rfl, b⟩
      have B := hide b
      clear b
      go_wp2_with fail
      refine (areAsLong_calls _ m _ (R.out.below B.out)).mono ?_
      rw [AL.out]
      rintro e w2 ⟨rfl, b⟩
      have B2 := hide (B.out.trans (b.mono B.out.size))
      clear b
      go_wp2
      go_ret2
      exact ⟨_, rfl, Mat.nil _ _ _, B2.out⟩
    | true =>
      have hok : decOk D Q m xs = true := by unfold decOk; rw [hc1, hc2, PC.out, hal, decide_eq_true (by omega)]; rfl
      obtain ⟨D', Q', hD', hQ', hF⟩ := dec_open hok
      obtain rfl : D = D' := by omega
      obtain rfl : Q = Q' := by omega
      have e : decR D Q m xs = (decM D Q m xs, true) := by unfold decR; rw [if_pos hok, Int.toNat_natCast, Int.toNat_natCast]
      rw [e]
      obtain ⟨l, hl⟩ : ∃ l, l = (m.getD 0 []).length := ⟨_, rfl⟩
      rw [← hl] at hF
      have FF := hide hF
      have AL := hide hal
      have l32 := hF.l32
      have hxl : xs.length ≤ Q := hF.xl
      have hkl : D ≤ (those (kp xs) N).length := by rw [hN]; exact kept_length xs D Q hxl
      have hks := those_short (kp xs) N
      have KM : Hid (∀ k ∈ those (kp xs) N, k < m.length) := fun k hk => by rw [MN.out]; exact (Gf.those_mem.1 hk).1
      have RI : Hid (rises xs (N : Int) = true) := by show _ = _; rw [HN.out]; exact hF.ris
      have FK : Hid ((those (kp xs) N).take D = firstF xs D Q) := by show _ = _; rw [HN.out]; rfl
      have FM : Hid (∀ k ∈ firstF xs D Q, k < D + Q) := fun k hk => (firstF_mem hk).1
      have FL : Hid ((firstF xs D Q).length = D) := firstF_length xs D Q hxl
      clear e hc1 hc2 hal hN t2 hmN hml hok hF hD' hQ' hl
      go_enter Tryd.func11, Tryd.ntmps11
      go_wp2_with fail
      refine (canDecode_calls D Q _ xs _ X.out).mono ?_
      rw [C1.out, C2.out]
      rintro e w1 ⟨rfl, b⟩
      have B1 := hide b
      clear b
      go_wp2_with fail
      refine (areAsLong_calls _ m _ (R.out.below B1.out)).mono ?_
      rw [AL.out]
      rintro e w2 ⟨rfl, b⟩
      have B2 := hide (B1.out.trans (b.mono B1.out.size))
      clear b B1
      go_wp2_with fail
      refine (notLost_calls N _ xs _ (X.out.below B2.out) RI.out (by omega) (by have := HN.out; omega)).mono ?_
      rintro e w3 ⟨kv, rfl, ok, b⟩
      have B3 := hide (B2.out.trans (b.mono B2.out.size))
      have K3 := hide ok.rd
      clear b ok B2
      go_wp2_with fail
      refine (rowsAt_calls _ _ m (those (kp xs) N) _ (R.out.below B3.out) K3.out (by omega) KM.out).mono ?_
      rintro e w4 ⟨v4, rfl, r4, b⟩
      have B4 := hide (B3.out.trans (b.mono B3.out.size))
      have K4 := hide (K3.out.below b)
      have R4 := hide r4
      clear b r4 B3 K3
      go_wp2_with fail
      refine (allEls_calls _ _ _ R4.out).mono ?_
      rw [sel_el EL.out KM.out]
      rintro e w5 ⟨rfl, rfl⟩
      obtain ⟨ka, kc, hkv, hk1, _⟩ := K4.out
      rw [Gf.ci_length] at hkv hk1
      subst hkv
      have i1 : (D : Int) ≤ (kc : Int) := by omega
      have K5 : Hid (Rd w4 (.slice ka D kc) (ci (firstF xs D Q))) := by
        have := rd_take2 K4.out D (by rw [Gf.ci_length]; exact hkl)
        rw [← FK.out]
        unfold ci at this ⊢
        rw [List.map_take]
        exact this
      clear R4 K4 hk1
      go_wp2_with fail
      refine (codeRows_calls D Q _ (Gf.Tab.below T.out B4.out) (by omega) (by omega) (by omega) (by omega)).mono ?_
      rintro e w6 ⟨v6, rfl, m6, b⟩
      have B6 := hide (B4.out.trans (b.mono B4.out.size))
      have K6 := hide (K5.out.below b)
      have R6 := hide m6.rd
      clear b m6 B4 K5
      go_wp2_with fail
      refine (rowsAt_calls _ _ (codeM D Q) (firstF xs D Q) _ R6.out K6.out (by rw [FL.out]; omega) (fun k hk => by rw [codeM_length]; exact FM.out k hk)).mono ?_
      rintro e w7 ⟨v7, rfl, r7, b⟩
      have B7 := hide (B6.out.trans (b.mono B6.out.size))
      have K7 := hide (K6.out.below b)
      have R7 : Hid (RdM w7 v7 (ciM (selM (codeN D Q) (firstF xs D Q)))) := by rw [← code_ciM, sel_ciM] at r7; exact r7
      clear b r7 B6 K6 R6
      go_wp2_with fail
      refine (rowsAt_calls _ _ m (firstF xs D Q) _ (R.out.below B7.out) K7.out (by rw [FL.out]; omega) (fun k hk => by rw [MN.out, HN.out]; exact FM.out k hk)).mono ?_
      rintro e w8 ⟨v8, rfl, r8, b⟩
      have B8 := hide (B7.out.trans (b.mono B7.out.size))
      have R8 : Hid (RdM w8 v8 (ciM (selM (m.map nat) (firstF xs D Q)))) := by
        rw [← sel_ciM, ciM_natM fun i hi => (piecesOk_at FF.out.ok i hi).2.2]; exact r8
      have R78 := hide (R7.out.below b)
      clear b r8 B7 K7 R7
      have SOL : Hid (Calls Tryd.prog 34 #[v7, v8] w8 fun e w' => ∃ v', e = .returned (.tuple #[v', .bool true]) ∧ Mat w' w8.heap.size w'.heap.size v' (ciM (decX D Q m xs)) ∧ Below w8.heap.size w8 w') := by
        have hs := FF.out.sol.1
        by_cases hl0 : l = 0
        · have sr := FF.out.shR
          rw [hl0] at sr
          have := solveRows0_calls v7 v8 _ _ D w8 (Gf.Tab.below T.out B8.out) R78.out R8.out FF.out.shA.1 sr (by omega) (by omega)
          rw [hs] at this
          exact this
        · have := solveRows_calls v7 v8 _ _ D l w8 (Gf.Tab.below T.out B8.out) R78.out R8.out FF.out.shA.1 FF.out.shR (by omega) (by omega) (by omega) (by omega)
          rw [hs] at this
          exact this
      go_wp2_with fail
      refine SOL.out.mono ?_
      rintro e w9 ⟨v9, rfl, m9, b⟩
      have B9 := hide (B8.out.trans (b.mono B8.out.size))
      have R9 := hide m9.rd
      have XL : Hid ((ciM (decX D Q m xs)).length = D) := by show _ = _; rw [Gf.ciM_length, FF.out.shX.len]
      clear b m9 B8 SOL R78 R8
      go_wp2_with fail
      refine (encode_calls _ (ciM (decX D Q m xs)) Q _ (Gf.Tab.below T.out B9.out) R9.out FF.out.okX (by rw [XL.out]; omega) (by rw [XL.out]; omega) (by omega) (by omega)).mono ?_
      rw [XL.out]
      rintro e w10 ⟨v10, rfl, m10, b⟩
      have B10 := hide (B9.out.trans (b.mono B9.out.size))
      have M10 := hide (m10.wider B9.out.size (Nat.le_refl _))
      clear b m10 B9
      go_wp2
      go_ret2
      exact ⟨_, rfl, M10.out, B10.out⟩

theorem kp_has (xs : List Int) (k : Nat) : kp xs k = !xs.contains (k : Int) := by
  unfold kp
  rw [List.contains_eq_mem]
  by_cases h : (k : Int) ∈ xs <;> simp [h]
theorem first_of {xs : List Int} {D Q k : Nat} (hxl : xs.length ≤ Q) (hk : k ≤ D + Q) (hl : (those (kp xs) k).length ≤ D) (h : k = D + Q ∨ (those (kp xs) k).length = D) : those (kp xs) k = firstF xs D Q := by
  have hd := kept_length xs D Q hxl
  rcases h with h | h
  · subst h
    unfold firstF
    rw [List.take_of_length_le hl]
  · obtain ⟨r, hr⟩ := Gf.those_prefix (kp xs) k (D + Q - k)
    rw [show k + (D + Q - k) = D + Q by omega] at hr
    unfold firstF
    rw [hr, List.take_append_of_le_length (by omega), List.take_of_length_le (by omega)]

set_option maxRecDepth 100000 in
set_option maxHeartbeats 3200000 in
theorem l3Decode_calls (D Q l : Nat) (v xv : Value) (m : List (List Int)) (xs : List Int) (w : World) (h : RdM w v m) (hx : Rd w xv xs) (hF : DecF D Q l m xs) :
    Calls Tryd.prog 38 #[.int .i64 D, .int .i64 Q, v, xv] w fun e w' => ∃ v', e = .returned v' ∧ Mat w' w.heap.size w'.heap.size v' (decM D Q m xs) ∧ Below w.heap.size w w' := by
  have R := hide h
  have X := hide hx
  have FF := hide hF
  have d1 := hF.d1
  have d6 := hF.d6
  have q1 := hF.q1
  have q4 := hF.q4
  have l32 := hF.l32
  have hxl := hF.xl
  obtain ⟨a, cap, rfl, _⟩ := h
  obtain ⟨xa, xc, rfl, _⟩ := hx
  have FM : Hid (∀ k ∈ firstF xs D Q, k < D + Q) := fun k hk => (firstF_mem hk).1
  have FL : Hid ((firstF xs D Q).length = D) := firstF_length xs D Q hxl
  clear hF
  go_enter Tryd.func38, Tryd.ntmps38
  go_wp2
  go_loopw [9, 10] (fun vt vi wr => ∃ k : Nat, k ≤ D + Q ∧ vi = .int .i64 k ∧ (those (kp xs) k).length ≤ D ∧ Own wr w.heap.size vt (ci (those (kp xs) k)) ∧ Below w.heap.size w wr) (fun _ vi _ => D + Q - (intOf vi).toNat)
  case atStart => exact ⟨0, Nat.zero_le _, rfl, Nat.zero_le _, World.ownsRow_nil _ _ _ _, Below.refl _ _⟩
  case round =>
    obtain ⟨k, hk, rfl, htl, ho, hb⟩ := hrel
    have O := hide ho
    have B := hide hb
    obtain ⟨ta, tc, hvt, _⟩ := ho.rd
    rw [Gf.ci_length] at hvt
    subst hvt
    obtain ⟨t, ht⟩ : ∃ t, t = (those (kp xs) k).length := ⟨_, rfl⟩
    rw [← ht] at htl O ⊢
    have HT := hide ht
    clear ho hb ht
    by_cases hlt : k < D + Q ∧ t < D
    · obtain ⟨h1, h2⟩ := hlt
      have h1' : (k : Int) < (D : Int) + (Q : Int) := by omega
      have h2' : (t : Int) < (D : Int) := by omega
      obtain ⟨c, hc⟩ : ∃ c, c = xs.contains (k : Int) := ⟨_, rfl⟩
      have HC := hide hc
      cases c with
      | true =>
        have NX : Hid (those (kp xs) (k + 1) = those (kp xs) k) := by
          show _ = _
          rw [Gf.those_succ, kp_has, ← HC.out]
          simp
        clear hc
        go_wp2_with fail
        refine (l1Has_calls _ xs (k : Int) _ (X.out.below B.out)).mono ?_
        rw [← HC.out]
        rintro e w1 ⟨rfl, rfl⟩
        go_wp2
        go_roundw
        case rel => exact ⟨k + 1, by omega, by go_num, by rw [NX.out, ← HT.out]; exact htl, by rw [NX.out]; exact O.out, B.out⟩
        case measure => simp [intOf]; omega
      | false =>
        have NX : Hid (ci (those (kp xs) (k + 1)) = ci (those (kp xs) k) ++ [(k : Int)]) := by
          show _ = _
          rw [Gf.those_succ, kp_has, ← HC.out, Bool.not_false, if_pos rfl, ci_app]
          rfl
        have NL : Hid ((those (kp xs) (k + 1)).length ≤ D) := by
          show _ ≤ _
          rw [Gf.those_succ, kp_has, ← HC.out, Bool.not_false, if_pos rfl, List.length_append, ← HT.out, List.length_singleton]
          omega
        have O2 := hide (O.out.alloc (.cells #[.int .i64 (k : Int)] 3))
        have CL : Hid ((ci (those (kp xs) k)).length = t) := by show _ = _; rw [Gf.ci_length, ← HT.out]
        clear hc
        go_wp2_with fail
        refine (l1Has_calls _ xs (k : Int) _ (X.out.below B.out)).mono ?_
        rw [← HC.out]
        rintro e w1 ⟨rfl, rfl⟩
        go_wp2_with (at_builtin; refine wpList_append_rd rfl (.tmp 30) (.tmp 32) rfl w.heap.size _ (ci (those (kp xs) k)).length (ci (those (kp xs) k)) [(k : Int)] rfl O2.out _ rfl rd_single (by rw [CL.out]; simp; omega) (by have := B.out.size; simp; omega) ?_)
        intro v' w5 ho5 hg5
        have low : ∀ i, (Value.slice ta t tc).ownBlock = some i → w.heap.size ≤ i := fun i hi => (O.out.lt i hi).1
        have B5 := hide ((B.out.alloc B.out.size _).grown hg5 (by have := B.out.size; simp; omega) low)
        have O6 := hide ho5
        clear ho5 hg5 low
        go_wp2
        go_roundw
        case rel => exact ⟨k + 1, by omega, by go_num, NL.out, by rw [NX.out]; exact O6.out, B5.out⟩
        case measure => simp [intOf]; omega
    · have TF : Hid (those (kp xs) k = firstF xs D Q) := first_of hxl hk (by rw [← HT.out]; exact htl) (by rw [← HT.out]; omega)
      have K1 : Hid (Rd wr (.slice ta t tc) (ci (firstF xs D Q))) := by rw [← TF.out]; exact O.out.rd
      have htD : t = D := by rw [HT.out, TF.out, FL.out]
      subst htD
      clear O HT TF
      by_cases hkk : (k : Int) < (t : Int) + (Q : Int)
      all_goals
        go_wp2_with fail
        refine (l3Matrix_calls t Q _ (by omega) (by omega) (by omega) (by omega)).mono ?_
        rintro e w2 ⟨v2, rfl, m2, b⟩
        have B2 := hide (B.out.trans (b.mono B.out.size))
        have K2 := hide (K1.out.below b)
        have R2 := hide m2.rd
        clear b m2
        go_wp2_with fail
        refine (l2Rows_calls _ _ (ci (firstF xs t Q)) (codeM t Q) _ K2.out R2.out (by rw [Gf.ci_length, FL.out]; omega) (fun i hi => by rw [Gf.ci_length] at hi; rw [Gf.ci_getD, codeM_length]; have := FM.out ((firstF xs t Q).getD i 0) (by rw [List.getD_eq_getElem?_getD, List.getElem?_eq_getElem hi]; exact List.getElem_mem hi); omega) (fun i => by
          by_cases hi : i < (codeM t Q).length
          · rw [(codeM_rows t Q i hi).1]; omega
          · rw [List.getD_eq_getElem?_getD, List.getElem?_eq_none (by omega)]; simp)).mono ?_
        rw [pick_sel]
        rintro e w3 ⟨v3, rfl, m3, b⟩
        have B3 := hide (B2.out.trans (b.mono B2.out.size))
        have K3 := hide (K2.out.below b)
        have R3 : Hid (RdM w3 v3 (ciM (selM (codeN t Q) (firstF xs t Q)))) := by have := m3.rd; rw [← code_ciM, sel_ciM] at this; exact this
        clear b m3 B2 K2 R2
        go_wp2_with fail
        refine (l2Invert_calls _ _ (selM (codeN t Q) (firstF xs t Q)) t _ R3.out rfl FF.out.shA.1 (by omega) (by omega)).mono ?_
        rw [FF.out.shA.2]
        rintro e w4 ⟨v4, rfl, m4, b⟩
        have B4 := hide (B3.out.trans (b.mono B3.out.size))
        have K4 := hide (K3.out.below b)
        have R4 := hide m4.rd
        clear b m4 B3 K3 R3
        go_wp2_with fail
        refine (l2Rows_calls _ _ (ci (firstF xs t Q)) m _ K4.out (R.out.below B4.out) (by rw [Gf.ci_length, FL.out]; omega) (fun i hi => by rw [Gf.ci_length] at hi; rw [Gf.ci_getD, FF.out.ml]; have := FM.out ((firstF xs t Q).getD i 0) (by rw [List.getD_eq_getElem?_getD, List.getElem?_eq_getElem hi]; exact List.getElem_mem hi); omega) (fun i => by
          by_cases hi : i < m.length
          · have := (piecesOk_at FF.out.ok i hi).2.1; omega
          · rw [List.getD_eq_getElem?_getD, List.getElem?_eq_none (by omega)]; simp)).mono ?_
        rw [pick_sel]
        rintro e w5 ⟨v5, rfl, m5, b⟩
        have B5 := hide (B4.out.trans (b.mono B4.out.size))
        have R45 := hide (R4.out.below b)
        have R5 : Hid (RdM w5 v5 (ciM (selM (m.map nat) (firstF xs t Q)))) := by
          rw [← sel_ciM, ciM_natM fun i hi => (piecesOk_at FF.out.ok i hi).2.2]; exact m5.rd
        have IS := hide (sol_sh FF.out.shA.1 (Gf.sh_ident t) FF.out.shA.2)
        have FI : Hid (Fit (ciM (solN (selM (codeN t Q) (firstF xs t Q)) (identN t)).1) (ciM (selM (m.map nat) (firstF xs t Q))) l) := by
          have s1 := IS.out
          have s2 := FF.out.shR
          refine ⟨?_, ?_, ?_, ?_, by omega, fun i hi => ?_, fun i hi => ?_⟩
          · rw [Gf.ciM_length, s1.len]; omega
          · rw [Gf.ciM_length, s1.len]; omega
          · rw [Gf.ciM_length, s2.len]; omega
          · rw [Gf.ciM_length, s2.len]; omega
          · rw [Gf.ciM_length, s1.len] at hi
            rw [Gf.ciM_get, Gf.ci_length, s1.row i hi, Gf.ciM_length, s2.len]
            exact ⟨rfl, elOk_lt (s1.lt i hi)⟩
          · rw [Gf.ciM_length, s2.len] at hi
            rw [Gf.ciM_get, Gf.ci_length, s2.row i hi]
            exact ⟨rfl, elOk_lt (s2.lt i hi)⟩
        have ME : Hid (mulM (ciM (solN (selM (codeN t Q) (firstF xs t Q)) (identN t)).1) (ciM (selM (m.map nat) (firstF xs t Q))) = ciM (decX t Q m xs)) := by
          show _ = _
          rw [mul_row IS.out FF.out.shR (by omega), FF.out.sol.2]
        clear b m5 B4 K4 R4
        go_wp2_with fail
        refine (l3Times_calls _ _ _ _ l _ R45.out R5.out FI.out).mono ?_
        rw [ME.out]
        rintro e w6 ⟨v6, rfl, m6, b⟩
        have B6 := hide (B5.out.trans (b.mono B5.out.size))
        have R6 := hide m6.rd
        have XL : Hid ((ciM (decX t Q m xs)).length = t) := by show _ = _; rw [Gf.ciM_length, FF.out.shX.len]
        clear b m6 B5 R45 R5 FI ME IS
        go_wp2_with fail
        refine (l3Encode_calls _ (ciM (decX t Q m xs)) Q _ R6.out FF.out.okX (by rw [XL.out]; omega) (by rw [XL.out]; omega) (by omega) (by omega)).mono ?_
        rw [XL.out]
        rintro e w7 ⟨v7, rfl, m7, b⟩
        have B7 := hide (B6.out.trans (b.mono B6.out.size))
        have M7 := hide (m7.wider B6.out.size (Nat.le_refl _))
        clear b m7 B6 R6
        go_wp2
        go_ret
        exact ⟨_, rfl, M7.out, B7.out⟩
end Go.Proofs.YtcmohfckhikejaaDoor

namespace Go.Proofs.YtcmohfckhikejaaDoor
open Go.RowKit
open Gf (ci nat ciM Sh AllLt invTo solN selM codeN those rowL identN elOk)

set_option maxRecDepth 100000 in
set_option maxHeartbeats 800000 in
theorem has_calls (v : Value) (xs : List Int) (x : Int) (w : World) (h : Rd w v xs) :
    Calls Tryd.prog 10 #[v, .int .i64 x] w fun e w' => e = .returned (.bool (xs.contains x)) ∧ w = w' := by
  have R := hide h
  obtain ⟨a, cap, rfl, q1, q2, q3⟩ := h
  have hm : xs.length ≤ maxLen := by omega
  unfold maxLen at hm
  clear q1 q2 q3
  obtain ⟨r, hr⟩ : ∃ r, r = xs.contains x := ⟨_, rfl⟩
  rw [← hr]
  have HR := hide hr
  clear hr
  go_enter Tryd.func10, Tryd.ntmps10
  go_wp2
  go_loop [9] (fun vi => ∃ (k : Nat), k ≤ xs.length ∧ vi = .int .i64 k ∧ ∀ i, i < k → xs.getD i 0 ≠ x) (fun vi => xs.length - (intOf vi).toNat)
  case atStart => exact ⟨0, Nat.zero_le _, rfl, fun i hi => by omega⟩
  case round =>
    obtain ⟨k, hk, rfl, hall⟩ := hrel
    have A := hide hall
    clear hall
    by_cases hlt : k < xs.length
    · have hlt' : (k : Int) < (xs.length : Int) := by omega
      obtain ⟨b, off, u, rfl, hc, hu⟩ := R.out.row k hlt
      obtain ⟨y, hy⟩ : ∃ y, y = xs.getD k 0 := ⟨_, rfl⟩
      rw [← hy] at hu
      subst hu
      have Y := hide hy
      clear hy
      by_cases e : y = x
      · have e1 : (y == x) = true := by simp [e]
        have E := hide e
        clear e
        go_wp2
        go_ret
        exact ⟨Gf.ret_bool (by rw [HR.out, contains_at hlt (by rw [← Y.out, E.out])]), rfl⟩
      · have e1 : (y == x) = false := by simp [e]
        have E := hide e
        clear e
        go_wp2
        go_round
        case rel =>
          refine ⟨k + 1, by omega, by go_num, fun i hi => ?_⟩
          by_cases ee : i = k
          · subst ee; rw [← Y.out]; exact E.out
          · exact A.out i (by omega)
        case measure => simp [intOf]; omega
    · obtain rfl : k = xs.length := by omega
      go_wp2
      go_ret
      exact ⟨Gf.ret_bool (by rw [HR.out, contains_no A.out]), rfl⟩

set_option maxRecDepth 100000 in
set_option maxHeartbeats 1600000 in
theorem sDecodePieces_calls (d q : Int) (v xv : Value) (m : List (List Int)) (xs : List Int) (w : World) (h : RdM w v m) (hx : Rd w xv xs) :
    Calls Tryd.prog 13 #[.int .i64 d, .int .i64 q, v, xv] w fun e w' => ∃ v', e = .returned (.tuple #[v', .bool (decR d q m xs).2]) ∧ Mat w' w.heap.size w'.heap.size v' (decR d q m xs).1 ∧ Below w.heap.size w w' := by
  have R := hide h
  have X := hide hx
  obtain ⟨a, cap, rfl, _⟩ := h
  obtain ⟨xa, xc, rfl, _⟩ := hx
  cases hc : ((canR d q xs).1 && (canR d q xs).2) with
  | false =>
    have e : decR d q m xs = ([], false) := dec_no (by unfold decOk; rw [hc]; rfl)
    rw [e]
    clear e
    obtain ⟨c1, hc1⟩ : ∃ c, c = (canR d q xs).1 := ⟨_, rfl⟩
    obtain ⟨c2, hc2⟩ : ∃ c, c = (canR d q xs).2 := ⟨_, rfl⟩
    rw [← hc1, ← hc2] at hc
    have C1 := hide hc1
    have C2 := hide hc2
    clear hc1 hc2
    cases c2 with
    | false =>
      go_enter Tryd.func13, Tryd.ntmps13
      go_wp2_with fail
      refine (sCanDecode_calls d q _ xs _ X.out).mono ?_
      rw [← C1.out, ← C2.out]
      rintro e w1 ⟨rfl, b⟩
      have B := hide b
      clear b
      go_wp2
      go_ret2
      exact ⟨_, rfl, Mat.nil _ _ _, B.out⟩
    | true =>
      cases c1 with
      | true => cases hc
      | false =>
        go_enter Tryd.func13, Tryd.ntmps13
        go_wp2_with fail
        refine (sCanDecode_calls d q _ xs _ X.out).mono ?_
        rw [← C1.out, ← C2.out]
        rintro e w1 ⟨rfl, b⟩
        have B := hide b
        clear b
        go_wp2
        go_ret2
        exact ⟨_, rfl, Mat.nil _ _ _, B.out⟩
  | true =>
    have hcc := hc
    rw [Bool.and_eq_true] at hc
    obtain ⟨hc1, hc2⟩ := hc
    have C1 := hide hc1
    have C2 := hide hc2
    have hcan : codeOk d q = true := by
      cases e : codeOk d q with
      | true => rfl
      | false => simp [canR, canOk, e] at hc2
    obtain ⟨f1, f2, f3, f4⟩ := codeOk_facts hcan
    obtain ⟨ok, hok⟩ : ∃ ok, ok = (decide ((m.length : Int) = d + q) && piecesOk m) := ⟨_, rfl⟩
    have HOK := hide hok
    have e : decOk d q m xs = ok := by unfold decOk; rw [hcc, Bool.true_and, ← hok]
    cases ok with
    | false =>
      rw [dec_no e]
      clear e hc1 hc2 hcan hok hcc
      go_enter Tryd.func13, Tryd.ntmps13
      go_wp2_with fail
      refine (sCanDecode_calls d q _ xs _ X.out).mono ?_
      rw [C1.out, C2.out]
      rintro e w1 ⟨rfl, b⟩
      have B := hide b
      clear b
      go_wp2_with fail
      refine (l3Pieces_calls _ m (d + q) _ (R.out.below B.out)).mono ?_
      rw [Bool.and_comm, ← HOK.out]
      rintro e w2 ⟨rfl, rfl⟩
      go_wp2
      go_ret2
      exact ⟨_, rfl, Mat.nil _ _ _, B.out⟩
    | true =>
      obtain ⟨D, Q, rfl, rfl, hF⟩ := dec_open e
      have e2 : decR D Q m xs = (decM D Q m xs, true) := by unfold decR; rw [if_pos e, Int.toNat_natCast, Int.toNat_natCast]
      rw [e2]
      have FF := hide hF
      clear e e2 hc1 hc2 hcan hok hF hcc
      go_enter Tryd.func13, Tryd.ntmps13
      go_wp2_with fail
      refine (sCanDecode_calls D Q _ xs _ X.out).mono ?_
      rw [C1.out, C2.out]
      rintro e w1 ⟨rfl, b⟩
      have B := hide b
      clear b
      go_wp2_with fail
      refine (l3Pieces_calls _ m ((D : Int) + (Q : Int)) _ (R.out.below B.out)).mono ?_
      rw [Bool.and_comm, ← HOK.out]
      rintro e w2 ⟨rfl, rfl⟩
      go_wp2_with fail
      refine (l3Decode_calls D Q _ _ _ m xs _ (R.out.below B.out) (X.out.below B.out) FF.out).mono ?_
      rintro e w3 ⟨v3, rfl, m3, b⟩
      have B3 := hide (B.out.trans (b.mono B.out.size))
      have M3 := hide (m3.wider B.out.size (Nat.le_refl _))
      clear b m3
      go_wp2
      go_ret2
      exact ⟨_, rfl, M3.out, B3.out⟩
end Go.Proofs.YtcmohfckhikejaaDoor

namespace Go.Proofs.YtcmohfckhikejaaDoor
open Go.RowKit

set_option maxRecDepth 100000 in
set_option maxHeartbeats 6400000 in
theorem piecesE_calls (g : Nat) (cv : Value) (k R : Nat) (w : World) (h : CurS w g cv k) (hk : k ≤ 1000000) (hR : R ≤ 12) (hcb : ∀ w', Below g w w' → RdB w' cv) :
    Calls Tryd.prog 17 #[.pointer (some ⟨g, 0, none⟩), .int .i64 R] w fun e w' => ∃ v m L, e = .returned v ∧ Mat w' w.heap.size w'.heap.size v m ∧ m.length = R ∧ (L ≤ 33 ∧ ∀ r ∈ m, r.length = L ∧ r.all Gf.elOk = true) ∧ CurS w' g cv (k + 2000) ∧ w.grownBy w' (some g) := by
  have hlt := curS_lt h
  have H := hide h
  have CB := hide hcb
  clear h hcb
  go_enter Tryd.func17, Tryd.ntmps17
  go_wp2_with fail
  refine (pick_calls g _ k 4 _ H.out (by omega) (by omega) (by omega)).mono ?_
  rintro e w1 ⟨p, hp, rfl, hc1, hg1⟩
  have C1 := hide hc1
  have G1 := hide hg1
  clear hc1 hg1 H
  go_wp2_with fail
  refine (one_calls g _ (k + 2) 20 _ C1.out (by omega) (by omega) (by omega)).mono ?_
  rintro e w2 ⟨b, rfl, hc2, hg2⟩
  have C2 := hide hc2
  have G2 := hide (grown_trans G1.out hg2)
  have lt2 := curS_lt hc2
  clear hc2 hg2 C1
  cases b with
  | true =>
    have RB := hide (rd_build (w := w2) (l := [0, 32, 33]) (g := g) (by omega) (by unfold maxLen; simp))
    go_wp2_with fail
    refine (amongIn_calls g cv _ [0, 32, 33] (k + 4) _ (C2.out.alloc _) (by omega) RB.out (by simp) (by simp)).mono ?_
    rintro e w3 ⟨z, iz, hiz, hz, rfl, hc3, hg3⟩
    obtain ⟨L, hL, hzL⟩ : ∃ L : Nat, L ≤ 33 ∧ z = (L : Int) := by
      match iz, hiz with
      | 0, _ => exact ⟨0, by omega, hz⟩
      | 1, _ => exact ⟨32, by omega, hz⟩
      | 2, _ => exact ⟨33, by omega, hz⟩
    subst hzL
    have C3 : Hid (CurS w3 g cv (k + 6)) := hc3
    have G3 := hide (grown_trans G2.out (grown_trans (World.grownBy_alloc _ _ _) hg3))
    clear hc3 hg3 hz hiz
    go_wp2
    go_loopw [5, 7] (fun vm vi wr => ∃ (i : Nat) (vs : List Value) (m : List (List Int)), i ≤ R ∧ vi = .int .i64 i ∧ (m.length = i ∧ ∀ r ∈ m, r.length = L ∧ r.all Gf.elOk = true) ∧ MatV wr w.heap.size wr.heap.size vm vs m ∧ CurS wr g cv (k + 6 + 70 * i) ∧ w.grownBy wr (some g)) (fun _ vi _ => R - (intOf vi).toNat)
    case atStart =>
      obtain ⟨vs, hv⟩ := Mat.nil w3 w.heap.size w3.heap.size
      exact ⟨0, vs, [], Nat.zero_le _, rfl, ⟨rfl, fun r hr => nomatch hr⟩, hv, C3.out, G3.out⟩
    case round =>
      obtain ⟨i, vs, m, hi, rfl, ⟨hml, hmr⟩, hM, hcur, hgr⟩ := hrel
      have MR := hide hmr
      clear hmr
      have M := hide hM
      have C := hide hcur
      have G := hide hgr
      have ML := hide hml
      have s0 := hgr.size
      clear hM hcur hgr hml
      by_cases hlt2 : i < R
      · have hlt' : (i : Int) < (R : Int) := by omega
        obtain ⟨W1, rfl⟩ : ∃ W1, W1 = wr := ⟨_, rfl⟩
        obtain ⟨vm, hvm⟩ : ∃ vm, vm = u5 := ⟨_, rfl⟩
        subst hvm
        go_wp2
        go_loopw [8, 9] (fun vr vj wr => ∃ (j : Nat) (xs : List Int), j ≤ L ∧ vj = .int .i64 j ∧ (xs.length = j ∧ xs.all Gf.elOk = true) ∧ Own wr W1.heap.size vr xs ∧ CurS wr g cv (k + 6 + 70 * i + 2 * j) ∧ W1.grownBy wr (some g)) (fun _ vj _ => L - (intOf vj).toNat)
        case atStart => exact ⟨0, [], Nat.zero_le _, rfl, ⟨rfl, rfl⟩, World.ownsRow_nil _ _ _ _, C.out, World.grownBy.refl _ _⟩
        case round =>
          obtain ⟨j, xs, hj, rfl, ⟨hxl, hxe⟩, ho, hc, hg⟩ := hrel
          have XE := hide hxe
          clear hxe
          have O := hide ho
          have C2 := hide hc
          have G2 := hide hg
          have XL := hide hxl
          have s1 := hg.size
          clear ho hc hg hxl
          by_cases hltj : j < L
          · have hltj' : (j : Int) < (L : Int) := by omega
            obtain ⟨vr, hvr⟩ : ∃ vr, vr = u8 := ⟨_, rfl⟩
            subst hvr
            go_wp2_with fail
            refine (pick_calls g cv (k + 6 + 70 * i + 2 * j) 256 _ C2.out (by omega) (by omega) (by omega)).mono ?_
            rintro e w4 ⟨q, hq, rfl, hc4, hg4⟩
            have C4 := hide hc4
            have G4 := hide (grown_trans G2.out hg4)
            have O4 := hide (own_keep O.out hg4 (by omega))
            clear hc4 hg4
            have O5 : Hid (Own (w4.alloc (.cells #[.int .i64 (q : Int)] 3)) W1.heap.size vr xs) := O4.out.alloc _
            have XL2 := XL.out
            go_wp2_with (at_builtin; refine wpList_append_rd rfl (.tmp 28) (.tmp 31) rfl W1.heap.size _ xs.length xs [(q : Int)] rfl O5.out _ rfl rd_single (by simp; omega) (by have := G4.out.size; simp; omega) ?_)
            intro v' w5 ho5 hg5
            have hg5' : w4.grownBy w5 vr.ownBlock := Gf.grownBy_trans (World.grownBy_alloc _ _ _) hg5
            have hfar : ∀ b, vr.ownBlock = some b → W1.heap.size ≤ b := fun b hb => (O4.out.lt b hb).1
            have G5 := hide (grown_far G4.out hg5' hfar)
            have C5 : Hid (CurS w5 g cv (k + 6 + 70 * i + 2 * (j + 1))) := by
              refine (CurS.far C4.out hg5' (fun b hb => by have := hfar b hb; omega) (fun w' h' => CB.out w' (grown_low (grown_trans G.out (grown_trans G5.out h')) hlt))).mono ?_
              omega
            have O6 := hide ho5
            clear ho5 hg5 hg5' hfar
            go_wp2
            go_roundw
            case rel => exact ⟨j + 1, xs ++ [(q : Int)], by omega, by go_num, ⟨by simp; exact XL2, by rw [List.all_append, XE.out]; simp [Gf.elOk]; omega⟩, O6.out, C5.out, G5.out⟩
            case measure => simp [intOf]; omega
          · obtain rfl : j = L := by omega
            have ho := O.out
            obtain ⟨ra, rn, rc, rfl⟩ := ho.shape
            have hM2 := (M.out.chg (grown_chg G2.out) (.inr (by omega))).below ((Below.refl _ _).alloc (Nat.le_refl _) (.cells #[.slice ra rn rc] 31))
            have hS := mat_single ho s1
            have M2 := hide hM2
            have S2 := hide hS
            have GW := hide (grown_trans G.out G2.out)
            have MLi := ML.out
            have low : Hid (∀ b, vm.ownBlock = some b → w.heap.size ≤ b) := fun b hb => (World.ownsRow.lt hM2.head b hb).1
            clear ho hM2 hS
            go_wp2_with (at_builtin; refine wpList_append_mat rfl (.tmp 33) (.tmp 35) rfl w.heap.size w.heap.size W1.heap.size W1.heap.size (wr.heap.size + 1) _ _ vs [.slice ra rn rc] m [xs] rfl rfl M2.out S2.out (Nat.le_refl _) s0 (.inl (Nat.le_refl _)) (by simp) (by simp; omega) (by simp) (by omega) (by simp) (by simp; omega) ?_)
            intro v6 w6 hm6 hg6
            have hg6' : wr.grownBy w6 vm.ownBlock := Gf.grownBy_trans (World.grownBy_alloc _ _ _) hg6
            have G6 := hide (grown_far GW.out hg6' low.out)
            have C6 : Hid (CurS w6 g cv (k + 6 + 70 * (i + 1))) := by
              refine (CurS.far C2.out hg6' (fun b hb => by have := low.out b hb; omega) (fun w' h' => CB.out w' (grown_low (grown_trans G6.out h') hlt))).mono ?_
              omega
            have M6 := hide hm6
            clear hm6 hg6 hg6'
            go_wp2
            go_roundw
            case rel => exact ⟨i + 1, _, _, by omega, by go_num, ⟨by simp; exact MLi, fun r hr => by
              rcases List.mem_append.mp hr with h | h
              · exact MR.out r h
              · simp at h; rw [h]; exact ⟨XL.out, XE.out⟩⟩, M6.out, C6.out, G6.out⟩
            case measure => simp [intOf]; omega
      · obtain rfl : i = R := by omega
        have mli := ML.out
        clear ML
        go_wp2
        go_ret
        exact ⟨_, m, L, rfl, ⟨_, M.out⟩, mli, ⟨hL, MR.out⟩, C.out.mono (by omega), G.out⟩
  | false =>
    obtain ⟨w3, hw3⟩ : ∃ w3, w3 = w2 := ⟨_, rfl⟩
    have C3 : Hid (CurS w3 g cv (k + 6)) := by rw [hw3]; exact C2.out.mono (by omega)
    have G3 : Hid (w.grownBy w3 (some g)) := by rw [hw3]; exact G2.out
    subst hw3
    go_wp2
    obtain ⟨L, hL0⟩ : ∃ L : Nat, L = 1 + p := ⟨_, rfl⟩
    have hLe : (1 : Int) + (p : Int) = (L : Int) := by omega
    rw [hLe]
    have hL : L ≤ 33 := by omega
    clear hL0 hLe
    go_loopw [5, 7] (fun vm vi wr => ∃ (i : Nat) (vs : List Value) (m : List (List Int)), i ≤ R ∧ vi = .int .i64 i ∧ (m.length = i ∧ ∀ r ∈ m, r.length = L ∧ r.all Gf.elOk = true) ∧ MatV wr w.heap.size wr.heap.size vm vs m ∧ CurS wr g cv (k + 6 + 70 * i) ∧ w.grownBy wr (some g)) (fun _ vi _ => R - (intOf vi).toNat)
    case atStart =>
      obtain ⟨vs, hv⟩ := Mat.nil w3 w.heap.size w3.heap.size
      exact ⟨0, vs, [], Nat.zero_le _, rfl, ⟨rfl, fun r hr => nomatch hr⟩, hv, C3.out, G3.out⟩
    case round =>
      obtain ⟨i, vs, m, hi, rfl, ⟨hml, hmr⟩, hM, hcur, hgr⟩ := hrel
      have MR := hide hmr
      clear hmr
      have M := hide hM
      have C := hide hcur
      have G := hide hgr
      have ML := hide hml
      have s0 := hgr.size
      clear hM hcur hgr hml
      by_cases hlt2 : i < R
      · have hlt' : (i : Int) < (R : Int) := by omega
        obtain ⟨W1, rfl⟩ : ∃ W1, W1 = wr := ⟨_, rfl⟩
        obtain ⟨vm, hvm⟩ : ∃ vm, vm = u5 := ⟨_, rfl⟩
        subst hvm
        go_wp2
        go_loopw [8, 9] (fun vr vj wr => ∃ (j : Nat) (xs : List Int), j ≤ L ∧ vj = .int .i64 j ∧ (xs.length = j ∧ xs.all Gf.elOk = true) ∧ Own wr W1.heap.size vr xs ∧ CurS wr g cv (k + 6 + 70 * i + 2 * j) ∧ W1.grownBy wr (some g)) (fun _ vj _ => L - (intOf vj).toNat)
        case atStart => exact ⟨0, [], Nat.zero_le _, rfl, ⟨rfl, rfl⟩, World.ownsRow_nil _ _ _ _, C.out, World.grownBy.refl _ _⟩
        case round =>
          obtain ⟨j, xs, hj, rfl, ⟨hxl, hxe⟩, ho, hc, hg⟩ := hrel
          have XE := hide hxe
          clear hxe
          have O := hide ho
          have C2 := hide hc
          have G2 := hide hg
          have XL := hide hxl
          have s1 := hg.size
          clear ho hc hg hxl
          by_cases hltj : j < L
          · have hltj' : (j : Int) < (L : Int) := by omega
            obtain ⟨vr, hvr⟩ : ∃ vr, vr = u8 := ⟨_, rfl⟩
            subst hvr
            go_wp2_with fail
            refine (pick_calls g cv (k + 6 + 70 * i + 2 * j) 256 _ C2.out (by omega) (by omega) (by omega)).mono ?_
            rintro e w4 ⟨q, hq, rfl, hc4, hg4⟩
            have C4 := hide hc4
            have G4 := hide (grown_trans G2.out hg4)
            have O4 := hide (own_keep O.out hg4 (by omega))
            clear hc4 hg4
            have O5 : Hid (Own (w4.alloc (.cells #[.int .i64 (q : Int)] 3)) W1.heap.size vr xs) := O4.out.alloc _
            have XL2 := XL.out
            go_wp2_with (at_builtin; refine wpList_append_rd rfl (.tmp 28) (.tmp 31) rfl W1.heap.size _ xs.length xs [(q : Int)] rfl O5.out _ rfl rd_single (by simp; omega) (by have := G4.out.size; simp; omega) ?_)
            intro v' w5 ho5 hg5
            have hg5' : w4.grownBy w5 vr.ownBlock := Gf.grownBy_trans (World.grownBy_alloc _ _ _) hg5
            have hfar : ∀ b, vr.ownBlock = some b → W1.heap.size ≤ b := fun b hb => (O4.out.lt b hb).1
            have G5 := hide (grown_far G4.out hg5' hfar)
            have C5 : Hid (CurS w5 g cv (k + 6 + 70 * i + 2 * (j + 1))) := by
              refine (CurS.far C4.out hg5' (fun b hb => by have := hfar b hb; omega) (fun w' h' => CB.out w' (grown_low (grown_trans G.out (grown_trans G5.out h')) hlt))).mono ?_
              omega
            have O6 := hide ho5
            clear ho5 hg5 hg5' hfar
            go_wp2
            go_roundw
            case rel => exact ⟨j + 1, xs ++ [(q : Int)], by omega, by go_num, ⟨by simp; exact XL2, by rw [List.all_append, XE.out]; simp [Gf.elOk]; omega⟩, O6.out, C5.out, G5.out⟩
            case measure => simp [intOf]; omega
          · obtain rfl : j = L := by omega
            have ho := O.out
            obtain ⟨ra, rn, rc, rfl⟩ := ho.shape
            have hM2 := (M.out.chg (grown_chg G2.out) (.inr (by omega))).below ((Below.refl _ _).alloc (Nat.le_refl _) (.cells #[.slice ra rn rc] 31))
            have hS := mat_single ho s1
            have M2 := hide hM2
            have S2 := hide hS
            have GW := hide (grown_trans G.out G2.out)
            have MLi := ML.out
            have low : Hid (∀ b, vm.ownBlock = some b → w.heap.size ≤ b) := fun b hb => (World.ownsRow.lt hM2.head b hb).1
            clear ho hM2 hS
            go_wp2_with (at_builtin; refine wpList_append_mat rfl (.tmp 33) (.tmp 35) rfl w.heap.size w.heap.size W1.heap.size W1.heap.size (wr.heap.size + 1) _ _ vs [.slice ra rn rc] m [xs] rfl rfl M2.out S2.out (Nat.le_refl _) s0 (.inl (Nat.le_refl _)) (by simp) (by simp; omega) (by simp) (by omega) (by simp) (by simp; omega) ?_)
            intro v6 w6 hm6 hg6
            have hg6' : wr.grownBy w6 vm.ownBlock := Gf.grownBy_trans (World.grownBy_alloc _ _ _) hg6
            have G6 := hide (grown_far GW.out hg6' low.out)
            have C6 : Hid (CurS w6 g cv (k + 6 + 70 * (i + 1))) := by
              refine (CurS.far C2.out hg6' (fun b hb => by have := low.out b hb; omega) (fun w' h' => CB.out w' (grown_low (grown_trans G6.out h') hlt))).mono ?_
              omega
            have M6 := hide hm6
            clear hm6 hg6 hg6'
            go_wp2
            go_roundw
            case rel => exact ⟨i + 1, _, _, by omega, by go_num, ⟨by simp; exact MLi, fun r hr => by
              rcases List.mem_append.mp hr with h | h
              · exact MR.out r h
              · simp at h; rw [h]; exact ⟨XL.out, XE.out⟩⟩, M6.out, C6.out, G6.out⟩
            case measure => simp [intOf]; omega
      · obtain rfl : i = R := by omega
        have mli := ML.out
        clear ML
        go_wp2
        go_ret
        exact ⟨_, m, L, rfl, ⟨_, M.out⟩, mli, ⟨hL, MR.out⟩, C.out.mono (by omega), G.out⟩
end Go.Proofs.YtcmohfckhikejaaDoor

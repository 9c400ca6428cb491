/-
  What is not lost, and rows by their places: the program's functions, call by call. Each contract says what it asks. What is decoded of pieces, and that it is what was coded: plain mathematics over the program's and its model's rows. No call is walked here. Two rows swapped, and a row swapped up: the program's function and its model's, call by call. Each contract says what it asks.
-/
import Derived.Test.YtbgadbokejaomaaGreatDoorDamageOfB25
import Derived.Test.YtbgadbokejaomaaGreatDoorDamageOfB22
import Derived.Test.YtbgadbokejaomaaGreatDoorDamageOfB24
namespace Go.Proofs.YtbgadbokejaomaaGreatDoor
open Go.RowKit

/-- Whether a number is not among some. -/
def kp (xs : List Int) (k : Nat) : Bool := decide ((k : Int) ∉ xs)
theorem risesM_lt {xs : List Int} {e : Int} (h : risesM xs e = true) : ∀ j, j < xs.length → ∀ i, i < j → xs.getD i 0 < xs.getD j 0 := by
  intro j
  induction j with
  | zero => intro _ i hi; omega
  | succ j ih =>
    intro hj i hi
    have h1 := risesM_at h (j + 1) hj
    simp only [risAtM, decide_eq_true_eq] at h1
    have h2 : xs.getD j 0 < xs.getD (j + 1) 0 := by
      rcases h1.2.2 with h | h
      · omega
      · exact h
    by_cases e : i = j
    · subst e; exact h2
    · have := ih (by omega) i (by omega); omega
theorem kp_no {xs : List Int} {k j : Nat} (hj : j < xs.length) (h : xs.getD j 0 = (k : Int)) : kp xs k = false := by
  unfold kp
  refine decide_eq_false (fun hn => hn ?_)
  rw [← h, List.getD_eq_getElem?_getD, List.getElem?_eq_getElem hj]
  exact List.getElem_mem hj
theorem kp_yes {xs : List Int} {k j : Nat} (lo : ∀ i, i < j → xs.getD i 0 < (k : Int)) (hi : ∀ i, j ≤ i → i < xs.length → (k : Int) < xs.getD i 0) : kp xs k = true := by
  unfold kp
  refine decide_eq_true (fun hm => ?_)
  obtain ⟨i, hil, he⟩ := List.getElem_of_mem hm
  have hg : xs.getD i 0 = (k : Int) := by rw [List.getD_eq_getElem?_getD, List.getElem?_eq_getElem hil]; exact he
  by_cases h : i < j
  · have := lo i h; omega
  · have := hi i (by omega) hil; omega
theorem ci_app (a b : List Nat) : Gf.ci (a ++ b) = Gf.ci a ++ Gf.ci b := by simp [Gf.ci]
theorem rd_tail {w : World} {b off n cap : Nat} {ys : List Int} (h : Rd w (.slice (some ⟨b, off, none⟩) n cap) ys) (hl : 1 ≤ ys.length) : Rd w (.slice (some ⟨b, off + 1, none⟩) (n - 1) (cap - 1)) (ys.drop 1) := by
  obtain ⟨a', cap', hv, h1, h2, h3⟩ := h
  simp only [Value.slice.injEq] at hv
  obtain ⟨rfl, rfl, rfl⟩ := hv
  have hd : (ys.drop 1).length = ys.length - 1 := List.length_drop
  refine ⟨_, cap - 1, by rw [hd], by rw [hd]; omega, ⟨by have := h2.1; omega, fun h => by cases h⟩, ?_⟩
  rcases h3 with h3 | ⟨b', off', he, hlt, hc⟩
  · subst h3; simp at hl
  · simp only [Option.some.injEq, Addr.mk.injEq, and_true] at he
    obtain ⟨rfl, rfl⟩ := he
    refine .inr ⟨b, off + 1, rfl, hlt, fun i hi => ?_⟩
    rw [hd] at hi
    have := hc (1 + i) (by omega)
    rw [← Nat.add_assoc] at this
    rw [this]
    simp [List.getD_eq_getElem?_getD, Nat.add_comm]
theorem rd_last {w : World} {b off n cap : Nat} {ys : List Int} (h : Rd w (.slice (some ⟨b, off, none⟩) n cap) ys) (hl : 1 ≤ ys.length) (hc : cap = 1) : Rd w (.slice (some ⟨b, off, none⟩) (n - 1) 0) (ys.drop 1) := by
  obtain ⟨a', cap', hv, h1, h2, h3⟩ := h
  simp only [Value.slice.injEq] at hv
  obtain ⟨rfl, rfl, rfl⟩ := hv
  have e : ys.drop 1 = [] := List.drop_eq_nil_of_le (by omega)
  rw [e]
  exact ⟨_, 0, by rw [show ys.length - 1 = 0 by omega]; rfl, Nat.le_refl _, ⟨Nat.zero_le _, fun h => by cases h⟩, .inl rfl⟩

set_option maxRecDepth 100000 in
set_option maxHeartbeats 1600000 in
theorem notLost_calls (n : Nat) (v : Value) (xs : List Int) (w : World) (h : Rd w v xs) (hr : risesM xs n = true) (hn : n ≤ 4096) (hxl : xs.length ≤ n) :
    Calls Tryz.prog 187 #[.int .i64 n, v] w fun e w' => ∃ v', e = .returned v' ∧ Own w' w.heap.size v' (Gf.ci (Gf.those (kp xs) n)) ∧ Below w.heap.size w w' := by
  have R := hide h
  have RS := hide hr
  obtain ⟨a, cap, rfl, _⟩ := h
  obtain ⟨i0, hi, hz0, hz1, hz2⟩ := info_parts infoInt
  clear hr
  have hsub : (n : Int) - (xs.length : Int) = ((n - xs.length : Nat) : Int) := by omega
  go_enter Tryz.func187, Tryz.ntmps187
  go_wp2_with (at_make; refine wpList_make_own _ rfl _ _ 27 rfl w.heap.size 3 i0 (.int .i64 0) 1 Tryz.underlying27 hi hz0 hz1 _ _ _ (n - xs.length) rfl rfl (by omega) ?b2 ?b3 (Nat.le_refl _) ?_)
  case b2 => rw [hz2]; omega
  case b3 => unfold maxLen; omega
  intro w0 hown0 hg0
  have O0 := hide hown0
  have B0 := hide ((Below.refl w.heap.size w).grown hg0 (Nat.le_refl _) (fun k h => by cases h))
  clear hown0 hg0 hsub
  go_wp2
  go_loopw [1, 5, 6, 13] (fun vl vk _ vi wr => ∃ (k j : Nat) (ys : List Int), k ≤ n ∧ vi = .int .i64 k ∧ (j ≤ xs.length ∧ ys = xs.drop j) ∧ Rd w vl ys ∧ (∀ i, i < j → xs.getD i 0 < (k : Int)) ∧ (∀ i, j ≤ i → i < xs.length → (k : Int) ≤ xs.getD i 0) ∧ Own wr w.heap.size vk (Gf.ci (Gf.those (kp xs) k)) ∧ Below w.heap.size w wr) (fun _ _ _ vi _ => n - (intOf vi).toNat)
  case atStart =>
    refine ⟨0, 0, xs, Nat.zero_le _, rfl, ⟨Nat.zero_le _, rfl⟩, R.out, fun i hi => by omega, fun i _ hi => ?_, O0.out, B0.out⟩
    have := risesM_at RS.out i hi
    simp only [risAtM, decide_eq_true_eq] at this
    exact this.1
  case round =>
    obtain ⟨k, j, ys, hk, rfl, ⟨hj, hys⟩, hrd, hlo, hhi, ho, hb⟩ := hrel
    have RD := hide hrd
    have LO := hide hlo
    have HI := hide hhi
    have O := hide ho
    have B := hide hb
    have hyl : ys.length = xs.length - j := by rw [hys, List.length_drop]
    have YL := hide hyl
    have YS := hide hys
    obtain ⟨va, vc, rfl, hvc, hvm, _⟩ := hrd
    obtain ⟨vk, hvk⟩ : ∃ vk, vk = u5 := ⟨_, rfl⟩
    subst hvk
    clear hlo hhi ho hb hyl hys
    by_cases hlt : k < n
    · have hlt' : (k : Int) < (n : Int) := by omega
      by_cases hje : 0 < ys.length
      · have hje2 : j < xs.length := by have := YL.out; omega
        have hdl' : (0 : Int) < (ys.length : Int) := by omega
        obtain ⟨b, off, u, rfl, hc, hu⟩ := (RD.out.below B.out).row 0 hje
        rw [Nat.add_zero] at hc
        obtain ⟨x, hx⟩ : ∃ x, x = xs.getD j 0 := ⟨_, rfl⟩
        have hxy : ys.getD 0 0 = x := by rw [hx, YS.out]; simp [List.getD_eq_getElem?_getD]
        rw [hxy] at hu
        subst hu
        have hkx : (k : Int) ≤ x := by rw [hx]; exact HI.out j (Nat.le_refl _) hje2
        have HX := hide hx
        clear hx hxy
        by_cases hxk : x = (k : Int)
        · have te : (x == (k : Int)) = true := by simp [hxk]
          have XK := hide hxk
          have i1 : (1 : Int) ≤ (ys.length : Int) := by omega
          have i2 : (1 : Int) ≤ (vc : Int) := by omega
          have NX : Hid (Gf.those (kp xs) (k + 1) = Gf.those (kp xs) k) := by
            show _ = _
            rw [Gf.those_succ, kp_no hje2 (by rw [← HX.out, XK.out])]
            simp
          have LO2 : Hid (∀ i, i < j + 1 → xs.getD i 0 < ((k + 1 : Nat) : Int)) := fun i hi => by
            by_cases e : i = j
            · subst e; rw [← HX.out, XK.out]; omega
            · have := LO.out i (by omega); omega
          have HI2 : Hid (∀ i, j + 1 ≤ i → i < xs.length → ((k + 1 : Nat) : Int) ≤ xs.getD i 0) := fun i h1 h2 => by
            have := risesM_lt RS.out i h2 j (by omega)
            rw [← HX.out, XK.out] at this
            omega
          have YS2 : Hid (ys.drop 1 = xs.drop (j + 1)) := by show _ = _; rw [YS.out, List.drop_drop]
          clear hxk
          by_cases hc1 : vc = 1
          · have RD2 := hide (rd_last RD.out hje hc1)
            go_wp2
            go_roundw
            case rel => exact ⟨k + 1, j + 1, ys.drop 1, by omega, by go_num, ⟨by omega, YS2.out⟩, RD2.out, LO2.out, HI2.out, by rw [NX.out]; exact O.out, B.out⟩
            case measure => simp [intOf]; omega
          · have RD2 := hide (rd_tail RD.out hje)
            go_wp2
            go_roundw
            case rel => exact ⟨k + 1, j + 1, ys.drop 1, by omega, by go_num, ⟨by omega, YS2.out⟩, RD2.out, LO2.out, HI2.out, by rw [NX.out]; exact O.out, B.out⟩
            case measure => simp [intOf]; omega
        · have te : (x == (k : Int)) = false := by simp [hxk]
          have HI2 : Hid (∀ i, j ≤ i → i < xs.length → (k : Int) < xs.getD i 0) := fun i h1 h2 => by
            by_cases e : i = j
            · subst e; rw [← HX.out]; omega
            · have := risesM_lt RS.out i h2 j (by omega)
              rw [← HX.out] at this
              omega
          have NX : Hid (Gf.ci (Gf.those (kp xs) (k + 1)) = Gf.ci (Gf.those (kp xs) k) ++ [(k : Int)]) := by
            show _ = _
            rw [Gf.those_succ, kp_yes LO.out HI2.out, if_pos rfl, ci_app]
            rfl
          have O2 := hide (O.out.alloc (.cells #[.int .i64 (k : Int)] 3))
          have tl : (Gf.ci (Gf.those (kp xs) k)).length ≤ 4096 := by
            have := Gf.those_not (kp xs) k
            rw [Gf.ci_length]
            omega
          have TL := hide tl
          clear tl hxk
          go_wp2_with (at_builtin; refine wpList_append_rd rfl (.tmp 28) (.tmp 30) rfl w.heap.size _ (Gf.ci (Gf.those (kp xs) k)).length (Gf.ci (Gf.those (kp xs) k)) [(k : Int)] rfl O2.out _ rfl rd_single (by have := TL.out; simp; omega) (by have := B.out.size; simp; omega) ?_)
          intro v' w5 ho5 hg5
          have low : ∀ i, vk.ownBlock = some i → w.heap.size ≤ i := fun i hi => (O.out.lt i hi).1
          have B5 := hide ((B.out.alloc B.out.size _).grown hg5 (by have := B.out.size; simp; omega) low)
          have O6 := hide ho5
          clear ho5 hg5 low
          go_wp2
          go_roundw
          case rel => exact ⟨k + 1, j, ys, by omega, by go_num, ⟨hj, YS.out⟩, RD.out, fun i hi => by have := LO.out i hi; omega, fun i h1 h2 => by have := HI2.out i h1 h2; omega, by rw [NX.out]; exact O6.out, B5.out⟩
          case measure => simp [intOf]; omega
      · have hdl' : ¬ (0 : Int) < (ys.length : Int) := by omega
        have HI2 : Hid (∀ i, j ≤ i → i < xs.length → (k : Int) < xs.getD i 0) := fun i h1 h2 => by have := YL.out; omega
        have NX : Hid (Gf.ci (Gf.those (kp xs) (k + 1)) = Gf.ci (Gf.those (kp xs) k) ++ [(k : Int)]) := by
          show _ = _
          rw [Gf.those_succ, kp_yes LO.out HI2.out, if_pos rfl, ci_app]
          rfl
        have O2 := hide (O.out.alloc (.cells #[.int .i64 (k : Int)] 3))
        have tl : (Gf.ci (Gf.those (kp xs) k)).length ≤ 4096 := by
          have := Gf.those_not (kp xs) k
          rw [Gf.ci_length]
          omega
        have TL := hide tl
        clear tl
        go_wp2_with (at_builtin; refine wpList_append_rd rfl (.tmp 28) (.tmp 30) rfl w.heap.size _ (Gf.ci (Gf.those (kp xs) k)).length (Gf.ci (Gf.those (kp xs) k)) [(k : Int)] rfl O2.out _ rfl rd_single (by have := TL.out; simp; omega) (by have := B.out.size; simp; omega) ?_)
        intro v' w5 ho5 hg5
        have low : ∀ i, vk.ownBlock = some i → w.heap.size ≤ i := fun i hi => (O.out.lt i hi).1
        have B5 := hide ((B.out.alloc B.out.size _).grown hg5 (by have := B.out.size; simp; omega) low)
        have O6 := hide ho5
        clear ho5 hg5 low
        go_wp2
        go_roundw
        case rel => exact ⟨k + 1, j, ys, by omega, by go_num, ⟨hj, YS.out⟩, RD.out, fun i hi => by have := LO.out i hi; omega, fun i h1 h2 => by have := HI2.out i h1 h2; omega, by rw [NX.out]; exact O6.out, B5.out⟩
        case measure => simp [intOf]; omega
    · obtain rfl : k = n := by omega
      go_wp2
      go_ret
      exact ⟨_, rfl, O.out, B.out⟩

/-- Rows by their places, the places told by integers. -/
theorem pick_sel (m : List (List Int)) (f : List Nat) : pickR m (Gf.ci f) = Gf.selM m f := by
  unfold pickR Gf.ci Gf.selM
  rw [List.map_map]
  exact List.map_congr_left fun k _ => by simp

set_option maxRecDepth 100000 in
set_option maxHeartbeats 800000 in
theorem rowAt_calls (k : Nat) (v : Value) (m : List (List Int)) (g : Nat) (w0 w : World) (h : RdM w0 v m) (hb : Below w0.heap.size w0 w) (hg : w.cell? ⟨g, 0, none⟩ = some v) (h1 : k < m.length) :
    Calls Tryz.prog 218 #[.int .i64 k, .pointer (some ⟨g, 0, none⟩)] w fun e w' => ∃ u, e = .returned u ∧ Rd w0 u (m.getD k []) ∧ w = w' := by
  have R := hide h
  obtain ⟨a, cap, rfl, _⟩ := h
  obtain ⟨b, off, u, rfl, hbl, hc0, hu⟩ := R.out.rowAt k h1
  have hc1 : w.cell? ⟨b, off + k, none⟩ = some u := (hb.cell (p := ⟨b, off + k, none⟩) hbl).trans hc0
  have U := hide hu
  have hk : (k : Int) < (m.length : Int) := by omega
  clear hu hc0
  go_enter Tryz.func218, Tryz.ntmps218
  go_wp2
  go_ret
  exact ⟨_, rfl, U.out, rfl⟩
/-- Some values, and behind them empty rows. -/
def padV (us : List Value) (n : Nat) : List Value := us ++ List.replicate (n - us.length) nilRow
theorem padV_length (us : List Value) (n : Nat) (h : us.length ≤ n) : (padV us n).length = n := by simp [padV]; omega
theorem padV_set (us : List Value) (n : Nat) (u : Value) (h : us.length < n) : (padV us n).set us.length u = padV (us ++ [u]) n := by
  unfold padV
  rw [List.set_append_right _ _ (Nat.le_refl _), Nat.sub_self]
  obtain ⟨m, hm⟩ : ∃ m, n - us.length = m + 1 := ⟨n - us.length - 1, by omega⟩
  have hm2 : n - (us ++ [u]).length = m := by simp; omega
  rw [hm, hm2, List.replicate_succ, List.set_cons_zero, List.append_assoc]
  rfl

set_option maxRecDepth 100000 in
set_option maxHeartbeats 1600000 in
theorem eachAt_calls (kv v : Value) (f : List Nat) (m : List (List Int)) (g : Nat) (w : World) (hk : Rd w kv (Gf.ci f)) (h : RdM w v m) (hgc : w.cell? ⟨g, 0, none⟩ = some v) (hgl : g < w.heap.size) (hn : f.length ≤ 4096)
    (hr : ∀ k ∈ f, k < m.length) :
    Calls Tryz.prog 217 #[kv, .func (.func 218) #[] #[.pointer (some ⟨g, 0, none⟩)]] w fun e w' => ∃ v', e = .returned v' ∧ RdM w' v' (Gf.selM m f) ∧ Below w.heap.size w w' := by
  have R := hide h
  have KR := hide hk
  obtain ⟨a, cap, hv, _⟩ := hk
  rw [Gf.ci_length] at hv
  subst hv
  have HR := hide hr
  have GC := hide hgc
  clear hr hgc
  go_enter Tryz.func217, Tryz.ntmps217
  go_wp2_with (at_make; refine wpList_make_rows rfl _ _ rfl _ _ f.length rfl rfl (by omega) (by omega) (by omega) ?_)
  intro w0 hm0 hg0
  have M0 := hide hm0.head
  have B0 := hide ((Below.refl w.heap.size w).grown hg0 (Nat.le_refl _) (fun k h => by cases h))
  clear hm0 hg0
  go_wp2
  go_loopw [6, 7, 13] (fun _ _ vi wr => ∃ us : List Value, us.length ≤ f.length ∧ vi = .int .i64 us.length ∧ wr.ownsRow w.heap.size 27 1 (.slice (some ⟨w.heap.size, 0, none⟩) f.length f.length) f.length (padV us f.length) ∧ (∀ i, i < us.length → Rd w (us.getD i nilRow) (m.getD (f.getD i 0) [])) ∧ Below w.heap.size w wr) (fun _ _ vi _ => f.length - (intOf vi).toNat)
  case atStart =>
    refine ⟨[], Nat.zero_le _, rfl, ?_, fun i hi => by simp at hi, B0.out⟩
    have := M0.out
    rw [List.length_replicate] at this
    exact this
  case round =>
    obtain ⟨us, hk, rfl, ho, hus, hb⟩ := hrel
    have O := hide ho
    have US := hide hus
    have B := hide hb
    clear ho hus hb
    by_cases hlt : us.length < f.length
    · have hlt' : (us.length : Int) < (f.length : Int) := by omega
      obtain ⟨b, off, u, rfl, hc1, hu⟩ := (KR.out.below B.out).row us.length (by rw [Gf.ci_length]; exact hlt)
      obtain ⟨z, hz⟩ : ∃ z, z = f.getD us.length 0 := ⟨_, rfl⟩
      rw [Gf.ci_getD, ← hz] at hu
      subst hu
      have Z := hide hz
      have hzm : z < m.length := by rw [hz, List.getD_eq_getElem?_getD, List.getElem?_eq_getElem hlt]; exact HR.out _ (List.getElem_mem hlt)
      clear hz
      have hgc2 : wr.cell? ⟨g, 0, none⟩ = some v := (B.out.cell (p := ⟨g, 0, none⟩) hgl).trans GC.out
      have GC2 := hide hgc2
      clear hgc2
      go_wp2_with fail
      refine (rowAt_calls z v m g w _ R.out B.out GC2.out hzm).mono ?_
      rintro e w1 ⟨x, rfl, hx, rfl⟩
      have X := hide hx
      obtain ⟨xa, xc, rfl, _⟩ := hx
      generalize (m.getD z []).length = xn at X ⊢
      have hpl : us.length < (padV us f.length).length := by rw [padV_length _ _ hk]; exact hlt
      have hc2 : wr.frozen? ⟨w.heap.size, us.length, none⟩ = false := O.out.frozenAt us.length
      obtain ⟨old, hc3⟩ : ∃ old, wr.cell? ⟨w.heap.size, us.length, none⟩ = some old := by
        rw [O.out.cellAt us.length (by omega)]
        exact ⟨_, List.getElem?_eq_getElem hpl⟩
      have ST := hide (O.out.stored us.length (.slice xa xn xc))
      go_wp2
      go_roundw
      case rel =>
        refine ⟨us ++ [.slice xa xn xc], by simp; omega, by simp, ?_, fun i hi => ?_, B.out.setCell (Nat.le_refl _) _⟩
        · have := ST.out.1
          rw [padV_set us f.length _ hlt] at this
          exact this
        · rw [getD_app]
          by_cases e : i < us.length
          · rw [if_pos e]; exact US.out i e
          · have e2 : i = us.length := by simp at hi; omega
            rw [if_neg e, e2, Nat.sub_self, ← Z.out]
            exact X.out
      case measure => simp [intOf]; omega
    · have e : us.length = f.length := by omega
      go_wp2
      go_ret
      refine ⟨_, rfl, ?_, B.out⟩
      have ho := O.out
      have ep : padV us f.length = us := by unfold padV; rw [show f.length - us.length = 0 by omega, List.replicate_zero, List.append_nil]
      rw [ep] at ho
      have hc : f.length ≤ maxLen := by unfold maxLen; omega
      have hlt : w.heap.size < wr.heap.size := (World.ownsRow.lt ho w.heap.size rfl).2
      refine ⟨some ⟨w.heap.size, 0, none⟩, f.length, by rw [Gf.selM_length]; rfl, by rw [Gf.selM_length]; exact Nat.le_refl _, ⟨hc, fun h => by cases h⟩, .inr ⟨w.heap.size, 0, rfl, hlt, fun i hi => ?_⟩⟩
      rw [Gf.selM_length] at hi
      refine ⟨us.getD i nilRow, ?_, ?_⟩
      · rw [Nat.zero_add, World.ownsRow.cellAt ho i (by omega), List.getD_eq_getElem?_getD, List.getElem?_eq_getElem (by omega)]
        rfl
      · rw [Gf.selM_get _ _ _ hi]
        exact (US.out i (by omega)).below B.out

set_option maxRecDepth 100000 in
set_option maxHeartbeats 800000 in
theorem rowsAt_calls (v kv : Value) (m : List (List Int)) (f : List Nat) (w : World) (h : RdM w v m) (hk : Rd w kv (Gf.ci f)) (hn : f.length ≤ 4096) (hr : ∀ k ∈ f, k < m.length) :
    Calls Tryz.prog 189 #[v, kv] w fun e w' => ∃ v', e = .returned v' ∧ RdM w' v' (Gf.selM m f) ∧ Below w.heap.size w w' := by
  have R := hide h
  have KR := hide hk
  obtain ⟨a, cap, rfl, _⟩ := h
  have B0 := hide ((Below.refl w.heap.size w).alloc (Nat.le_refl _) (.cells #[.slice a m.length cap] 115))
  have hc : (w.alloc (.cells #[.slice a m.length cap] 115)).cell? ⟨w.heap.size, 0, none⟩ = some (.slice a m.length cap) := by
    rw [cell_of_row _ _ _ _ _ _ (heap_alloc_new w _)]
    rfl
  have HC := hide hc
  clear hc
  go_enter Tryz.func189, Tryz.ntmps189
  go_wp2_with fail
  refine (eachAt_calls kv _ f m w.heap.size _ (KR.out.below B0.out) (R.out.below B0.out) HC.out (by simp) hn hr).mono ?_
  rintro e w1 ⟨v1, rfl, hr1, hb1⟩
  have R1 := hide hr1
  have B1 := hide (B0.out.trans (hb1.mono B0.out.size))
  clear hr1 hb1
  go_wp2
  go_ret
  exact ⟨_, rfl, R1.out, B1.out⟩
end Go.Proofs.YtbgadbokejaomaaGreatDoor

namespace Go.Proofs.YtbgadbokejaomaaGreatDoor
open Go.RowKit
open Gf (ci nat ciM Sh AllLt invTo solN selM codeN those rowL identN elOk)

theorem those_one (p : Nat → Bool) (x : Int) : ∀ n : Nat, (those (fun k => decide ((k : Int) = x) || p k) n).length ≤ (those p n).length + (if x < (n : Int) then 1 else 0) := by
  intro n
  induction n with
  | zero => simp [those]
  | succ n ih =>
    rw [Gf.those_succ, Gf.those_succ, List.length_append, List.length_append]
    by_cases e : (n : Int) = x
    · subst e
      rw [if_neg (show ¬ (n : Int) < (n : Int) by omega)] at ih
      have t : (decide ((n : Int) = (n : Int)) || p n) = true := by simp
      rw [t, show (if (n : Int) < ((n + 1 : Nat) : Int) then 1 else 0) = 1 from if_pos (by omega)]
      simp only [if_true, List.length_singleton]
      omega
    · have e2 : (decide ((n : Int) = x) || p n) = p n := by rw [decide_eq_false e, Bool.false_or]
      rw [e2]
      by_cases h : x < (n : Int)
      · rw [if_pos h] at ih
        rw [show (if x < ((n + 1 : Nat) : Int) then 1 else 0) = 1 from if_pos (by omega)]
        omega
      · rw [if_neg h] at ih
        omega
theorem those_in (xs : List Int) (n : Nat) : (those (fun k => !kp xs k) n).length ≤ xs.length := by
  induction xs with
  | nil =>
    have e : (fun k : Nat => !kp [] k) = fun _ => false := by funext k; simp [kp]
    rw [e]
    simp [those]
  | cons x xs ih =>
    have e : (fun k : Nat => !kp (x :: xs) k) = fun k : Nat => decide ((k : Int) = x) || !kp xs k := by
      funext k
      simp only [kp, List.mem_cons, not_or]
      by_cases h1 : (k : Int) = x <;> by_cases h2 : (k : Int) ∈ xs <;> simp [h1, h2]
    rw [e, List.length_cons]
    have := those_one (fun k => !kp xs k) x n
    split at this <;> omega
theorem kept_length (xs : List Int) (D Q : Nat) (h : xs.length ≤ Q) : D ≤ (those (kp xs) (D + Q)).length := by
  have h1 := Gf.those_not (kp xs) (D + Q)
  have h2 := those_in xs (D + Q)
  omega
/-- The first places, as many as data, that are not lost. -/
def firstF (xs : List Int) (D Q : Nat) : List Nat := (those (kp xs) (D + Q)).take D
theorem firstF_length (xs : List Int) (D Q : Nat) (h : xs.length ≤ Q) : (firstF xs D Q).length = D := by
  unfold firstF
  rw [List.length_take]
  have := kept_length xs D Q h
  omega
theorem firstF_mem {xs : List Int} {D Q k : Nat} (h : k ∈ firstF xs D Q) : k < D + Q ∧ (k : Int) ∉ xs := by
  obtain ⟨h1, h2⟩ := Gf.those_mem.1 (List.mem_of_mem_take h)
  exact ⟨h1, by simpa [kp] using h2⟩
theorem first_inv {xs : List Int} {D Q : Nat} (hD : 0 < D) (hDQ : D + Q ≤ 16) (h : xs.length ≤ Q) : Sh (selM (codeN D Q) (firstF xs D Q)) D D ∧ (solN (selM (codeN D Q) (firstF xs D Q)) (identN D)).2 = true := by
  have hl := firstF_length xs D Q h
  unfold firstF at hl ⊢
  rw [Gf.those_take] at hl ⊢
  exact Gf.code_inv hD hDQ hl
theorem sh_pieces {m : List (List Int)} (h : piecesOk m = true) : Sh (m.map nat) m.length (m.getD 0 []).length := by
  refine ⟨by rw [List.length_map], fun i hi => ?_, fun i hi => ?_⟩
  · rw [natM_get, Gf.nat_length]; exact (piecesOk_at h i hi).1
  · rw [natM_get]; exact Gf.nat_allLt (piecesOk_at h i hi).2.2
theorem ci_nat {l : List Int} (h : l.all elOk = true) : ci (nat l) = l := by
  unfold ci nat
  rw [List.map_map]
  conv => rhs; rw [← List.map_id l]
  refine List.map_congr_left fun x hx => ?_
  have := Gf.elOk_iff.1 (List.all_eq_true.1 h x hx)
  show ((x.toNat : Nat) : Int) = x
  omega
theorem nat_ciE (l : List Nat) : nat (ci l) = l := by
  unfold nat ci
  rw [List.map_map]
  conv => rhs; rw [← List.map_id l]
  exact List.map_congr_left fun x _ => by simp
theorem ciM_natM {m : List (List Int)} (h : ∀ i, i < m.length → (m.getD i []).all elOk = true) : ciM (m.map nat) = m := by
  unfold ciM
  rw [List.map_map]
  conv => rhs; rw [← List.map_id m]
  refine List.map_congr_left fun r hr => ?_
  obtain ⟨i, hi, rfl⟩ := List.getElem_of_mem hr
  have := h i hi
  rw [List.getD_eq_getElem?_getD, List.getElem?_eq_getElem hi] at this
  exact ci_nat this
theorem natM_ciM (M : List (List Nat)) : (ciM M).map nat = M := by
  unfold ciM
  rw [List.map_map]
  conv => rhs; rw [← List.map_id M]
  exact List.map_congr_left fun r _ => nat_ciE r
theorem elOk_lt {l : List Nat} (h : AllLt l) : (ci l).all elOk = true := by
  rw [List.all_eq_true]
  intro x hx
  obtain ⟨k, hk, rfl⟩ := List.mem_map.1 hx
  obtain ⟨i, hi, rfl⟩ := List.getElem_of_mem hk
  have := h i
  rw [List.getD_eq_getElem?_getD, List.getElem?_eq_getElem hi, Option.getD_some] at this
  exact Gf.elOk_iff.2 (by omega)
theorem pieces_sh {X : List (List Nat)} {n l : Nat} (h : Sh X n l) (hl : l ≤ 32) : piecesOk (ciM X) = true := by
  refine piecesOk_yes fun i hi => ?_
  rw [Gf.ciM_length, h.len] at hi
  have h0 : 0 < n := by omega
  unfold pieceAt
  rw [Gf.ciM_get, Gf.ciM_get, Gf.ci_length, Gf.ci_length, h.row i hi, h.row 0 h0, decide_eq_true ⟨rfl, hl⟩, elOk_lt (h.lt i hi)]
  rfl
theorem sel_ciM (M : List (List Nat)) (f : List Nat) : selM (ciM M) f = ciM (selM M f) := by
  unfold selM ciM
  rw [List.map_map]
  refine List.map_congr_left fun k _ => ?_
  show (M.map ci).getD k [] = ci (M.getD k [])
  simp only [List.getD_eq_getElem?_getD, List.getElem?_map]
  cases M[k]? <;> rfl
theorem code_ciM (D Q : Nat) : ciM (codeN D Q) = codeM D Q := ciM_natM fun i hi => (codeM_rows D Q i hi).2
theorem mul_row {A R : List (List Nat)} {n l k : Nat} (ha : Sh A k n) (hr : Sh R n l) (hn : 0 < n) : mulM (ciM A) (ciM R) = ciM (A.map (rowL R l n)) := by
  unfold mulM
  rw [natM_ciM, Gf.ciM_get, Gf.ci_length, hr.row 0 hn]
  unfold ciM
  rw [List.map_map, List.map_map]
  refine List.map_congr_left fun r hx => ?_
  obtain ⟨i, hi, rfl⟩ := List.getElem_of_mem hx
  have hl : A[i].length = n := by
    have := ha.row i (by rw [← ha.len]; exact hi)
    rw [List.getD_eq_getElem?_getD, List.getElem?_eq_getElem hi] at this
    exact this
  show ci (mulRow R l (nat (ci A[i])) (ci A[i]).length) = ci (rowL R l n A[i])
  rw [nat_ciE, Gf.ci_length, hl]
  rfl
theorem sh_mul {A R : List (List Nat)} {n l k : Nat} (ha : Sh A k n) (_ : Sh R n l) : Sh (A.map (rowL R l n)) k l := by
  refine ⟨by rw [List.length_map, ha.len], fun i hi => ?_, fun i hi => ?_⟩
  · rw [Gf.map_get _ _ _ _ (by rw [ha.len]; exact hi), Gf.rowL_length]
  · rw [Gf.map_get _ _ _ _ (by rw [ha.len]; exact hi)]
    exact mulRow_lt (ha.lt i hi) _

/-- What is decoded: the data, as plain numbers. -/
def decX (D Q : Nat) (m : List (List Int)) (xs : List Int) : List (List Nat) := (solN (selM (codeN D Q) (firstF xs D Q)) (selM (m.map nat) (firstF xs D Q))).1
/-- What is decoded: all pieces. -/
def decM (D Q : Nat) (m : List (List Int)) (xs : List Int) : List (List Int) := mulM (codeM D Q) (ciM (decX D Q m xs))
def decOk (d q : Int) (m : List (List Int)) (xs : List Int) : Bool := ((canR d q xs).1 && (canR d q xs).2) && (decide ((m.length : Int) = d + q) && piecesOk m)
def decR (d q : Int) (m : List (List Int)) (xs : List Int) : List (List Int) × Bool := if decOk d q m xs = true then (decM d.toNat q.toNat m xs, true) else ([], false)
/-- What decoding rests on. -/
structure DecF (D Q l : Nat) (m : List (List Int)) (xs : List Int) : Prop where
  d1 : 1 ≤ D
  d6 : D ≤ 6
  q1 : 1 ≤ Q
  q4 : Q ≤ 4
  ris : risesM xs ((D + Q : Nat) : Int) = true
  xl : xs.length ≤ Q
  ml : m.length = D + Q
  l0 : (m.getD 0 []).length = l
  l32 : l ≤ 32
  ok : piecesOk m = true
theorem dec_open {d q : Int} {m : List (List Int)} {xs : List Int} (h : decOk d q m xs = true) : ∃ D Q : Nat, d = D ∧ q = Q ∧ DecF D Q (m.getD 0 []).length m xs := by
  unfold decOk at h
  rw [Bool.and_eq_true, Bool.and_eq_true, Bool.and_eq_true, decide_eq_true_eq] at h
  obtain ⟨⟨h1, h2⟩, h3, h4⟩ := h
  have hc : canOk d q xs = true := by
    cases e : canOk d q xs with
    | true => rfl
    | false => simp [canR, e] at h2
  rw [canR, if_pos hc] at h1
  have hx : (xs.length : Int) ≤ q := of_decide_eq_true h1
  unfold canOk at hc
  rw [Bool.and_eq_true] at hc
  obtain ⟨c1, c2, c3, c4⟩ := codeOk_facts hc.1
  obtain ⟨D, rfl⟩ := Int.eq_ofNat_of_zero_le (show 0 ≤ d by omega)
  obtain ⟨Q, rfl⟩ := Int.eq_ofNat_of_zero_le (show 0 ≤ q by omega)
  have hm : m.length = D + Q := by omega
  exact ⟨D, Q, rfl, rfl, by omega, by omega, by omega, by omega, by rw [Int.natCast_add]; exact hc.2, by omega, hm, rfl, (piecesOk_at h4 0 (by omega)).2.1, h4⟩
theorem DecF.shA {D Q l : Nat} {m : List (List Int)} {xs : List Int} (h : DecF D Q l m xs) : Sh (selM (codeN D Q) (firstF xs D Q)) D D ∧ (solN (selM (codeN D Q) (firstF xs D Q)) (identN D)).2 = true :=
  first_inv (by have := h.d1; omega) (by have := h.d6; have := h.q4; omega) h.xl
theorem DecF.shR {D Q l : Nat} {m : List (List Int)} {xs : List Int} (h : DecF D Q l m xs) : Sh (selM (m.map nat) (firstF xs D Q)) D l := by
  have hs := sh_pieces h.ok
  rw [h.l0, h.ml] at hs
  have := Gf.sh_sel hs (f := firstF xs D Q) (fun k hk => (firstF_mem hk).1)
  rw [firstF_length xs D Q h.xl] at this
  exact this
theorem DecF.sol {D Q l : Nat} {m : List (List Int)} {xs : List Int} (h : DecF D Q l m xs) : solN (selM (codeN D Q) (firstF xs D Q)) (selM (m.map nat) (firstF xs D Q)) = (decX D Q m xs, true) ∧
    decX D Q m xs = ((solN (selM (codeN D Q) (firstF xs D Q)) (identN D)).1).map (rowL (selM (m.map nat) (firstF xs D Q)) l D) := by
  have e := Gf.solN_inv h.shA.1 h.shR h.shA.2
  unfold decX
  rw [e]
  exact ⟨rfl, rfl⟩
theorem sol_sh {A S : List (List Nat)} {n d : Nat} (ha : Sh A n n) (hs : Sh S n d) (hok : (solN A S).2 = true) : Sh (solN A S).1 n d := by
  unfold solN at hok ⊢
  rw [ha.len] at hok ⊢
  cases e : invTo A S n with
  | none => rw [e] at hok; cases hok
  | some q => exact (Gf.invTo_sh ha hs n (Nat.le_refl _) q e).2
theorem DecF.shX {D Q l : Nat} {m : List (List Int)} {xs : List Int} (h : DecF D Q l m xs) : Sh (decX D Q m xs) D l := by
  have := sol_sh h.shA.1 h.shR (by rw [h.sol.1])
  rw [h.sol.1] at this
  exact this
theorem DecF.okX {D Q l : Nat} {m : List (List Int)} {xs : List Int} (h : DecF D Q l m xs) : piecesOk (ciM (decX D Q m xs)) = true := pieces_sh h.shX h.l32

/-- Where the first pieces that are not lost are those of a code, all of it is decoded. -/
theorem dec_back {D Q l : Nat} {m c : List (List Int)} {xs : List Int} (h : DecF D Q l m xs) (hc : piecesOk c = true) (hcl : c.length = D) (hc0 : (c.getD 0 []).length = l) (hm : ∀ k, k < D + Q → (k : Int) ∉ xs → m.getD k [] = (mulM (codeM D Q) c).getD k []) : decX D Q m xs = c.map nat := by
  have hs := sh_pieces hc
  rw [hcl, hc0] at hs
  have e : selM (m.map nat) (firstF xs D Q) = (selM (codeN D Q) (firstF xs D Q)).map (rowL (c.map nat) l D) := by
    unfold selM
    rw [List.map_map]
    refine List.map_congr_left fun k hk => ?_
    obtain ⟨hk1, hk2⟩ := firstF_mem hk
    have he : mulM (codeM D Q) c = ciM ((codeN D Q).map (rowL (c.map nat) l D)) := by
      rw [← mul_row (Gf.sh_code D Q) hs (by have := h.d1; omega), code_ciM, ciM_natM fun i hi => (piecesOk_at hc i hi).2.2]
    show (m.map nat).getD k [] = rowL (c.map nat) l D ((codeN D Q).getD k [])
    rw [natM_get, hm k hk1 hk2, he, Gf.ciM_get, nat_ciE, Gf.map_get _ _ _ _ (by rw [(Gf.sh_code D Q).len]; exact hk1)]
  unfold decX
  rw [e, Gf.solN_back h.shA.1 hs h.shA.2]
theorem dec_code {D Q l : Nat} {m c : List (List Int)} {xs : List Int} (h : DecF D Q l m xs) (hc : piecesOk c = true) (hcl : c.length = D) (hc0 : (c.getD 0 []).length = l) (hm : ∀ k, k < D + Q → (k : Int) ∉ xs → m.getD k [] = (mulM (codeM D Q) c).getD k []) : decM D Q m xs = mulM (codeM D Q) c := by
  unfold decM
  rw [dec_back h hc hcl hc0 hm, ciM_natM fun i hi => (piecesOk_at hc i hi).2.2]
end Go.Proofs.YtbgadbokejaomaaGreatDoor

namespace Go.Proofs.YtbgadbokejaomaaGreatDoor
open Go.RowKit
open Gf (ci ciM swapM pf piv Sh AllLt)

/-- The rows, with row p (where there is one) swapped up. -/
def upM (M : List (List Nat)) (at_ : Nat) : Option Nat → List (List Nat)
  | some p => swapM M at_ p
  | none => M
theorem MatV.swap {w : World} {lo hi g n cap : Nat} {vs : List Value} {m : List (List Int)} (h : MatV w lo hi (.slice (some ⟨g, 0, none⟩) n cap) vs m) (a b : Nat) (ha : a < m.length) (hb : b < m.length) :
    MatV ((w.setCell ⟨g, a, none⟩ (vs.getD b nilRow)).setCell ⟨g, b, none⟩ (vs.getD a nilRow)) lo hi (.slice (some ⟨g, 0, none⟩) n cap) ((vs.set a (vs.getD b nilRow)).set b (vs.getD a nilRow)) ((m.set a (m.getD b [])).set b (m.getD a [])) ∧
      w.grownBy ((w.setCell ⟨g, a, none⟩ (vs.getD b nilRow)).setCell ⟨g, b, none⟩ (vs.getD a nilRow)) (some g) := by
  obtain rfl := h.lenEq
  have st1 := World.ownsRow.stored h.head a (vs.getD b nilRow)
  have st2 := World.ownsRow.stored st1.1 b (vs.getD a nilRow)
  have hg : w.grownBy ((w.setCell ⟨g, a, none⟩ (vs.getD b nilRow)).setCell ⟨g, b, none⟩ (vs.getD a nilRow)) (some g) := Gf.grownBy_trans st1.2 st2.2
  have hla : a < vs.length := by rw [h.len]; exact ha
  have hlb : b < vs.length := by rw [h.len]; exact hb
  have gv : ∀ i, ((vs.set a (vs.getD b nilRow)).set b (vs.getD a nilRow)).getD i nilRow = vs.getD (if i = b then a else if i = a then b else i) nilRow := by
    intro i
    rw [getD_set _ _ _ _ _ (by rw [List.length_set]; exact hlb), getD_set _ _ _ _ _ hla]
    split
    · rfl
    · split <;> rfl
  have gm : ∀ i, ((m.set a (m.getD b [])).set b (m.getD a [])).getD i [] = m.getD (if i = b then a else if i = a then b else i) [] := by
    intro i
    rw [getD_set _ _ _ _ _ (by rw [List.length_set]; exact hb), getD_set _ _ _ _ _ ha]
    split
    · rfl
    · split <;> rfl
  have sl : ∀ i, i < m.length → (if i = b then a else if i = a then b else i) < m.length := by
    intro i hi
    split
    · exact ha
    · split
      · exact hb
      · exact hi
  have ml : ((m.set a (m.getD b [])).set b (m.getD a [])).length = m.length := by simp
  refine ⟨⟨by simp [h.len], by rw [ml]; exact st2.1, ?_, h.top, ?_, ?_⟩, hg⟩
  · intro i hi
    rw [ml] at hi
    rw [gv, gm]
    exact World.ownsRow.kept (h.row _ (sl i hi)) hg (heads_apart' h.head (h.row _ (sl i hi)))
  · intro i k hi hk
    rw [ml] at hi
    rw [gv] at hk
    exact h.tops _ k (sl i hi) hk
  · intro i j hi hj hij
    rw [ml] at hi hj
    rw [gv, gv]
    refine h.apart _ _ (sl i hi) (sl j hj) ?_
    split <;> split <;> (try split) <;> (try split) <;> omega
theorem MatV.swapN {w : World} {lo hi g n cap : Nat} {vs : List Value} {M : List (List Nat)} (h : MatV w lo hi (.slice (some ⟨g, 0, none⟩) n cap) vs (ciM M)) (a b : Nat) (ha : a < M.length) (hb : b < M.length) :
    MatV ((w.setCell ⟨g, a, none⟩ (vs.getD b nilRow)).setCell ⟨g, b, none⟩ (vs.getD a nilRow)) lo hi (.slice (some ⟨g, 0, none⟩) n cap) ((vs.set a (vs.getD b nilRow)).set b (vs.getD a nilRow)) (ciM (swapM M a b)) ∧
      w.grownBy ((w.setCell ⟨g, a, none⟩ (vs.getD b nilRow)).setCell ⟨g, b, none⟩ (vs.getD a nilRow)) (some g) := by
  have := h.swap a b (by rw [Gf.ciM_length]; exact ha) (by rw [Gf.ciM_length]; exact hb)
  rw [Gf.ciM_get, Gf.ciM_get, Gf.ciM_set, Gf.ciM_set] at this
  exact this
theorem MatV.headChg {w w' : World} {lo hi g n cap : Nat} {vs : List Value} {m : List (List Int)} (h : MatV w lo hi (.slice (some ⟨g, 0, none⟩) n cap) vs m) (hg : w.grownBy w' (some g)) : Chg lo hi w w' :=
  Chg.ofGrown hg (fun k hk => by cases hk; exact ⟨(World.ownsRow.lt h.head g rfl).1, h.top g rfl⟩)
theorem MatV.shape {w : World} {lo hi : Nat} {v : Value} {vs : List Value} {m : List (List Int)} (h : MatV w lo hi v vs m) (i : Nat) (hi' : i < m.length) : ∃ a n c, vs.getD i nilRow = .slice a n c := (h.row i hi').shape

set_option maxRecDepth 100000 in
set_option maxHeartbeats 800000 in
theorem l2Swap_calls (v : Value) (M : List (List Nat)) (a b lo hi : Nat) (w : World) (h : Mat w lo hi v (ciM M)) (ha : a < M.length) (hb : b < M.length) (hn : M.length ≤ 1048576) :
    Calls Tryz.prog 245 #[v, .int .i64 a, .int .i64 b] w fun e w' => e = .returned (.tuple #[]) ∧ Mat w' lo hi v (ciM (swapM M a b)) ∧ Chg lo hi w w' := by
  obtain ⟨vs, h⟩ := h
  obtain ⟨g, cap, rfl, _, _, _, _⟩ := h.open (by rw [Gf.ciM_length]; omega)
  have hl : (ciM M).length = M.length := Gf.ciM_length M
  have ha' : (a : Int) < ((ciM M).length : Int) := by omega
  have hb' : (b : Int) < ((ciM M).length : Int) := by omega
  have hca := h.cell a (by omega)
  have hcb := h.cell b (by omega)
  have hfa : w.frozen? ⟨g, a, none⟩ = false := World.ownsRow.frozenAt h.head a
  have hfb : w.frozen? ⟨g, b, none⟩ = false := World.ownsRow.frozenAt h.head b
  obtain ⟨aa, an, ac, hsa⟩ := h.shape a (by omega)
  obtain ⟨ba, bn, bc, hsb⟩ := h.shape b (by omega)
  have SW := h.swapN a b ha hb
  rw [hsa] at hca
  rw [hsb] at hcb
  rw [hsa, hsb] at SW
  have CH := hide (h.headChg SW.2)
  have SW1 := hide SW.1
  have st1 := World.ownsRow.stored h.head a (.slice ba bn bc)
  have hfb2 : (w.setCell ⟨g, a, none⟩ (.slice ba bn bc)).frozen? ⟨g, b, none⟩ = false := World.ownsRow.frozenAt st1.1 b
  have hcb2 : ∃ o, (w.setCell ⟨g, a, none⟩ (.slice ba bn bc)).cell? ⟨g, b, none⟩ = some o := by
    rw [World.ownsRow.cellAt st1.1 b (by omega)]
    exact ⟨_, List.getElem?_eq_getElem (by rw [List.length_set, h.len]; omega)⟩
  obtain ⟨o2, hcb2⟩ := hcb2
  clear h SW st1 hsa hsb
  go_enter Tryz.func245, Tryz.ntmps245
  go_wp2
  go_end0
  exact ⟨rfl, ⟨_, SW1.out⟩, CH.out⟩

set_option maxRecDepth 100000 in
set_option maxHeartbeats 1600000 in
theorem swapUp_calls (v : Value) (M : List (List Nat)) (n c at_ col lo hi : Nat) (w : World) (h : Mat w lo hi v (ciM M)) (hs : Sh M n c) (ha : at_ < n) (hc : col < c) (hn : n ≤ 1048576) (hcn : c ≤ 1048576) :
    Calls Tryz.prog 247 #[v, .int .i64 at_, .int .i64 col] w fun e w' => e = .returned (.bool (piv M at_ col).isSome) ∧ Mat w' lo hi v (ciM (upM M at_ (piv M at_ col))) ∧ Chg lo hi w w' := by
  obtain ⟨vs, h⟩ := h
  have hlen := hs.len
  obtain ⟨g, cap, hv, _, _, _, _⟩ := h.open (by rw [Gf.ciM_length, hlen]; omega)
  rw [Gf.ciM_length, hlen] at hv
  subst hv
  obtain ⟨pv, hpv⟩ : ∃ pv, pv = piv M at_ col := ⟨_, rfl⟩
  rw [← hpv]
  have PV := hide hpv
  have H := hide h
  have S := hide hs
  have HL := hide hlen
  have hc' : (col : Int) < (c : Int) := by omega
  clear hpv h hs hlen
  go_enter Tryz.func247, Tryz.ntmps247
  go_wp2
  go_loop [7] (fun vi => ∃ j : Nat, at_ ≤ j ∧ j ≤ n ∧ vi = .int .i64 j ∧ pv = pf M col (M.length - j) j) (fun vi => n - (intOf vi).toNat)
  case atStart => exact ⟨at_, Nat.le_refl _, by omega, rfl, PV.out⟩
  case round =>
    obtain ⟨j, hj1, hj2, rfl, hj3⟩ := hrel
    have J := hide hj3
    clear hj3
    by_cases hlt : j < n
    · have hlt' : (j : Int) < (n : Int) := by omega
      have hjl : j < (ciM M).length := by rw [Gf.ciM_length, HL.out]; exact hlt
      have hal : at_ < (ciM M).length := by rw [Gf.ciM_length, HL.out]; exact ha
      have hc1 := H.out.cell j hjl
      have hro := H.out.row j hjl
      rw [Gf.ciM_get] at hro
      obtain ⟨g2, cap2, hu, _, _, _, _⟩ := hro.open1 (by rw [Gf.ci_length, S.out.row j hlt]; omega)
      rw [Gf.ci_length, S.out.row j hlt] at hu
      have hel := hro
      rw [hu] at hel hc1
      obtain ⟨_, hce⟩ := hel.at col (by rw [Gf.ci_length, S.out.row j hlt]; exact hc)
      rw [Gf.ci_getD] at hce
      obtain ⟨x, hx⟩ : ∃ x, x = (M.getD j []).getD col 0 := ⟨_, rfl⟩
      rw [← hx] at hce
      have X := hide hx
      have HU := hide hu
      clear hel hro hx hu
      by_cases h0 : x = 0
      · subst h0
        go_wp2
        go_round
        case rel =>
          refine ⟨j + 1, by omega, by omega, by go_num, ?_⟩
          have := J.out
          rw [Gf.pf_step (by rw [HL.out]; exact hlt), ← X.out, if_neg (by simp)] at this
          exact this
        case measure => simp [intOf]; omega
      · have h0' : ((x : Int) == 0) = false := by simp; exact h0
        have hpv : pv = some j := by
          have := J.out
          rw [Gf.pf_step (by rw [HL.out]; exact hlt), ← X.out, if_pos h0] at this
          exact this
        have PJ := hide hpv
        clear hpv
        have hca := H.out.cell at_ hal
        have hfa : w.frozen? ⟨g, at_, none⟩ = false := World.ownsRow.frozenAt (by have := H.out.head; rwa [Gf.ciM_length, HL.out] at this) at_
        have hfj : w.frozen? ⟨g, j, none⟩ = false := World.ownsRow.frozenAt (by have := H.out.head; rwa [Gf.ciM_length, HL.out] at this) j
        obtain ⟨aa, an, ac, hsa⟩ := H.out.shape at_ hal
        have SW := H.out.swapN at_ j (by rw [HL.out]; exact ha) (by rw [HL.out]; exact hlt)
        rw [hsa] at hca
        rw [hsa, HU.out] at SW
        have CH := hide (H.out.headChg SW.2)
        have SW1 := hide SW.1
        have hd := H.out.head
        rw [Gf.ciM_length, HL.out] at hd
        have st1 := World.ownsRow.stored hd at_ (.slice (some ⟨g2, 0, none⟩) c cap2)
        have hfb2 : (w.setCell ⟨g, at_, none⟩ (.slice (some ⟨g2, 0, none⟩) c cap2)).frozen? ⟨g, j, none⟩ = false := World.ownsRow.frozenAt st1.1 j
        have hcb2 : ∃ o, (w.setCell ⟨g, at_, none⟩ (.slice (some ⟨g2, 0, none⟩) c cap2)).cell? ⟨g, j, none⟩ = some o := by
          rw [World.ownsRow.cellAt st1.1 j (by omega)]
          exact ⟨_, List.getElem?_eq_getElem (by rw [List.length_set, H.out.len]; exact hjl)⟩
        obtain ⟨o2, hcb2⟩ := hcb2
        have ha' : (at_ : Int) < (n : Int) := by omega
        have i0 : (0 : Int) ≤ (at_ : Int) := by omega
        have i1 : (0 : Int) ≤ (j : Int) := by omega
        clear SW st1 hsa hd
        go_wp2
        go_region
        all_goals (try go_wp2)
        all_goals
          go_ret
          have e := PJ.out
          subst e
          exact ⟨rfl, ⟨_, SW1.out.below (below_drew' (Below.refl _ _))⟩, CH.out.trans (Chg.ofBelow (below_drew' (Below.refl _ _)))⟩
    · obtain rfl : j = n := by omega
      have hpv : pv = none := by
        have := J.out
        rw [Gf.pf_end (by rw [HL.out]; exact Nat.le_refl _)] at this
        exact this
      subst hpv
      go_wp2
      go_ret
      exact ⟨rfl, ⟨_, H.out⟩, Chg.refl _ _ _⟩
end Go.Proofs.YtbgadbokejaomaaGreatDoor

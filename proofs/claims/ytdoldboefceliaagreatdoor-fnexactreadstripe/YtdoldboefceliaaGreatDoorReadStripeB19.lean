/-
  The rows of a code: the program's functions and its model's, call by call. The program's table of rests must hold its seven numbers where the program's own functions are called. The program's product of rows that fit, in one call: however many rows, however long. The contract says what it asks. Which rows are pieces: the program's functions and its model's, call by call. No condition.
-/
import Derived.Test.YtdoldboefceliaaGreatDoorReadStripeB18
import Derived.Test.YtdoldboefceliaaGreatDoorReadStripeB17
namespace Go.Proofs.YtdoldboefceliaaGreatDoor
open Go.RowKit

def cnt (f n : Nat) : List Int := (List.range n).map fun k : Nat => ((f + k : Nat) : Int)
theorem cnt_length (f n : Nat) : (cnt f n).length = n := by simp [cnt]
theorem cnt_get (f n k : Nat) (h : k < n) : (cnt f n).getD k 0 = ((f + k : Nat) : Int) := by simp [cnt, h]
def codeM (d q : Nat) : List (List Int) := identM d ++ cauM (cnt 0 q) (cnt q d)
theorem codeM_length (d q : Nat) : (codeM d q).length = d + q := by simp [codeM, identM_length, cauM_length, cnt_length]
theorem cnt_ok : Gf.allB 6 (fun d => Gf.allB 4 (fun q => cauOk (cnt 0 (q + 1)) (cnt (q + 1) (d + 1)))) = true := by decide +kernel
theorem cauOk_cnt {d q : Nat} (h1 : 1 ≤ d) (h2 : d ≤ 6) (h3 : 1 ≤ q) (h4 : q ≤ 4) : cauOk (cnt 0 q) (cnt q d) = true := by
  obtain ⟨a, rfl⟩ : ∃ a, d = a + 1 := ⟨d - 1, by omega⟩
  obtain ⟨b, rfl⟩ : ∃ b, q = b + 1 := ⟨q - 1, by omega⟩
  exact Gf.allB_of (Gf.allB_of cnt_ok a (by omega)) b (by omega)
theorem codeM_rows (d q : Nat) : ∀ i, i < (codeM d q).length → ((codeM d q).getD i []).length = d ∧ ((codeM d q).getD i []).all Gf.elOk = true := by
  intro i hi
  rw [codeM_length] at hi
  unfold codeM
  rw [getD_app, identM_length]
  split
  · rename_i h
    rw [identM_get _ _ h]
    refine ⟨unitRow_length _ _, Gf.all_of_getD.2 fun j hj => ?_⟩
    rw [unitRow_length] at hj
    unfold unitRow
    rw [getD_set _ _ _ _ _ (by simp; exact h)]
    split
    · rfl
    · simp [List.getD_eq_getElem?_getD, hj, Gf.elOk]
  · rw [cauM_get _ _ _ (by rw [cnt_length]; omega)]
    refine ⟨by rw [cauRow_length, cnt_length], Gf.all_of_getD.2 fun j hj => ?_⟩
    rw [cauRow_length] at hj
    rw [cauRow_get _ _ _ hj]
    have := Gf.inv_lt (((cnt 0 q).getD (i - d) 0).toNat ^^^ ((cnt q d).getD j 0).toNat)
    simp only [Gf.elOk, decide_eq_true_eq]
    omega

set_option maxRecDepth 100000 in
set_option maxHeartbeats 800000 in
theorem countFrom_calls (f n : Nat) (w : World) (hf : f ≤ 4096) (hn : n ≤ 4096) :
    Calls Tryz.prog 68 #[.int .i64 f, .int .i64 n] w fun e w' => ∃ v', e = .returned v' ∧ Own w' w.heap.size v' (cnt f n) ∧ Below w.heap.size w w' := by
  obtain ⟨xs, hxs⟩ : ∃ xs, xs = cnt f n := ⟨_, rfl⟩
  rw [← hxs]
  have hl : xs.length = n := by rw [hxs, cnt_length]
  have hg : ∀ k, k < n → xs.getD k 0 = ((f + k : Nat) : Int) := fun k hk => by rw [hxs, cnt_get _ _ _ hk]
  have HL := hide hl
  have HG := hide hg
  clear hxs hl hg
  go_enter Tryz.func68, Tryz.ntmps68
  go_wp2_with (at_make; refine wpList_make_ints rfl _ _ rfl w.heap.size _ _ n rfl rfl (by omega) (by omega) (by omega) (Nat.le_refl _) ?_)
  intro w0 ho0 hg0
  have hb0 : Below w.heap.size w w0 := (Below.refl _ _).grown hg0 (Nat.le_refl _) (fun k h => by cases h)
  have O0 := hide ho0
  have B0 := hide hb0
  clear ho0 hg0 hb0
  go_wp2
  go_loopw [11] (fun vi wr => ∃ k : Nat, k ≤ n ∧ vi = .int .i64 k ∧ Own wr w.heap.size (.slice (some ⟨w.heap.size, 0, none⟩) n n) (cpTo xs k) ∧ Below w.heap.size w wr) (fun vi _ => n - (intOf vi).toNat)
  case atStart =>
    refine ⟨0, Nat.zero_le _, rfl, ?_, B0.out⟩
    rw [cpTo_zero, HL.out]
    exact O0.out
  case round =>
    obtain ⟨k, hk, rfl, ho, hb⟩ := hrel
    by_cases hlt : k < n
    · have hlt' : (k : Int) < (n : Int) := by omega
      have hcl : (cpTo xs k).length = n := by rw [cpTo_length xs k (by rw [HL.out]; exact hk), HL.out]
      obtain ⟨hfz, hcell⟩ := ho.at k (by rw [hcl]; exact hlt)
      obtain ⟨old, hold⟩ : ∃ o, o = (cpTo xs k).getD k 0 := ⟨_, rfl⟩
      rw [← hold] at hcell
      have hst : (cpTo xs k).set k ((f : Int) + (k : Int)) = cpTo xs (k + 1) := by
        have := cpTo_step xs k (by rw [HL.out]; exact hlt)
        rw [HG.out k hlt] at this
        rw [← this]
        congr 1
      have W := hide (ho.put k ((f : Int) + (k : Int)))
      have ST := hide hst
      have B := hide hb
      clear hold ho hb hst hcl
      go_wp2
      go_roundw
      case rel =>
        refine ⟨k + 1, by omega, by go_num, ?_, B.out.setCell (Nat.le_refl _) _⟩
        have := W.out.1
        rw [ST.out] at this
        exact this
      case measure => simp [intOf]; omega
    · obtain rfl : k = n := by omega
      have O := hide ho
      have B := hide hb
      clear ho hb
      go_wp2
      go_ret
      have h := O.out
      have e := cpTo_end xs
      rw [HL.out] at e
      rw [e] at h
      exact ⟨_, rfl, h, B.out⟩

set_option maxRecDepth 100000 in
set_option maxHeartbeats 800000 in
theorem codeRows_calls (d q : Nat) (w : World) (hT : Gf.Tab w) (h1 : 1 ≤ d) (h2 : d ≤ 6) (h3 : 1 ≤ q) (h4 : q ≤ 4) :
    Calls Tryz.prog 157 #[.int .i64 d, .int .i64 q] w fun e w' => ∃ v', e = .returned v' ∧ Mat w' w.heap.size w'.heap.size v' (codeM d q) ∧ Below w.heap.size w w' := by
  have T := hide hT
  clear hT
  obtain ⟨xs, hxs⟩ : ∃ xs, xs = cnt 0 q := ⟨_, rfl⟩
  obtain ⟨ys, hys⟩ : ∃ ys, ys = cnt q d := ⟨_, rfl⟩
  have hR : cauR xs ys = (cauM xs ys, true) := by
    rw [hxs, hys]
    simp [cauR, cauOk_cnt h1 h2 h3 h4]
  have hC : codeM d q = identM d ++ cauM xs ys := by rw [hxs, hys]; rfl
  have hcl : (cauM xs ys).length = q := by rw [hxs, cauM_length, cnt_length]
  obtain ⟨R, hRR⟩ : ∃ R, R = cauM xs ys := ⟨_, rfl⟩
  rw [← hRR] at hR hC hcl
  rw [hC]
  have XS := hide hxs
  have YS := hide hys
  have HR := hide hR
  have CL := hide hcl
  clear hxs hys hR hC hcl hRR
  go_enter Tryz.func157, Tryz.ntmps157
  go_wp2_with fail
  refine (countFrom_calls 0 q _ (by omega) (by omega)).mono ?_
  rw [← XS.out]
  rintro e w1 ⟨v1, rfl, ho1, hb1⟩
  have RX := hide ho1.rd
  have B1 := hide hb1
  clear ho1 hb1
  go_wp2_with fail
  refine (countFrom_calls q d _ (by omega) (by omega)).mono ?_
  rw [← YS.out]
  rintro e w2 ⟨v2, rfl, ho2, hb2⟩
  have RY := hide ho2.rd
  have RX2 := hide (RX.out.below hb2)
  have B2 := hide (B1.out.trans (hb2.mono B1.out.size))
  clear ho2 hb2
  go_wp2_with fail
  refine (cauchy_calls _ _ xs ys _ (Gf.Tab.below T.out B2.out) RX2.out RY.out).mono ?_
  rw [HR.out]
  rintro e w3 ⟨v3, rfl, hm3, hb3⟩
  have M3 := hide hm3
  have B3 := hide (B2.out.trans (hb3.mono B2.out.size))
  have s3 := hb3.size
  clear hm3 hb3
  go_wp2_with fail
  refine (identity_calls d _ h1 (by omega)).mono ?_
  rintro e w4 ⟨v4, rfl, ⟨vs4, hm4⟩, hb4⟩
  obtain ⟨vs3, hm3⟩ := M3.out.below hb4
  have V4 := hide hm4.vals
  have V3 := hide hm3.vals
  have M4 := hide hm4
  have M34 := hide hm3
  have B4 := hide (B3.out.trans (hb4.mono B3.out.size))
  have s4 := hb4.size
  have l4 := hm4.len
  have l3 := hm3.len
  rw [identM_length] at l4
  rw [CL.out] at l3
  have L4 := hide l4
  have L3 := hide l3
  have s0 : w.heap.size ≤ w2.heap.size := B2.out.size
  clear hm4 hb4 hm3 l4 l3
  go_wp2_with fail
  refine (joinLists_calls _ _ vs4 vs3 _ V4.out V3.out (by rw [L4.out]; omega) (by rw [L3.out]; omega) (by rw [L3.out]; omega)).mono ?_
  rintro e w5 ⟨rfl, ho5, hg5⟩
  have hb5 : Below w4.heap.size w4 w5 := (Below.refl _ _).grown hg5 (Nat.le_refl _) (fun k h => by cases h)
  have hown : w5.ownsRow w.heap.size 27 1 (.slice (some ⟨w4.heap.size, 0, none⟩) (vs4.length + vs3.length) (vs4.length + vs3.length)) ((identM d).length + R.length) (vs4 ++ vs3) := by
    rw [identM_length, CL.out]
    rw [L4.out, L3.out] at ho5 ⊢
    refine ⟨ho5.1, ?_⟩
    rcases ho5.2 with hn | ⟨g, cap, cur, hv, hb', rest⟩
    · exact .inl hn
    · exact .inr ⟨g, cap, cur, hv, by omega, rest⟩
  have hM := M4.out.cat M34.out (B := w.heap.size) (by omega) (by omega) (.inr (Nat.le_refl _)) (by omega) (Nat.le_refl _) none hg5 (fun i _ => by cases (vs4.getD i nilRow).ownBlock <;> simp) (fun i _ => by cases (vs3.getD i nilRow).ownBlock <;> simp) hown
  have MM := hide hM
  have B5 := hide (B4.out.trans (hb5.mono B4.out.size))
  clear ho5 hg5 hb5 hown hM
  go_wp2
  go_ret
  exact ⟨_, rfl, ⟨_, MM.out⟩, B5.out⟩

set_option maxRecDepth 100000 in
set_option maxHeartbeats 1600000 in
theorem l3Matrix_calls (d q : Nat) (w : World) (h1 : 1 ≤ d) (h2 : d ≤ 6) (h3 : 1 ≤ q) (h4 : q ≤ 4) :
    Calls Tryz.prog 145 #[.int .i64 d, .int .i64 q] w fun e w' => ∃ v', e = .returned v' ∧ Mat w' w.heap.size w'.heap.size v' (codeM d q) ∧ Below w.heap.size w w' := by
  obtain ⟨xs, hxs⟩ : ∃ xs, xs = cnt 0 q := ⟨_, rfl⟩
  obtain ⟨ys, hys⟩ : ∃ ys, ys = cnt q d := ⟨_, rfl⟩
  have hok := cauOk_cnt h1 h2 h3 h4
  rw [← hxs, ← hys] at hok
  obtain ⟨ex, ey⟩ := unl_parts (cauOk_facts hok).2.2
  have hC : codeM d q = identM d ++ cauM xs ys := by rw [hxs, hys]; rfl
  have hxl : xs.length = q := by rw [hxs, cnt_length]
  have hyl : ys.length = d := by rw [hys, cnt_length]
  have hcl : (cauM xs ys).length = q := by rw [cauM_length, hxl]
  have hxg : ∀ k, k < q → xs.getD k 0 = ((k : Nat) : Int) := fun k hk => by rw [hxs, cnt_get _ _ _ hk, Nat.zero_add]
  have hyg : ∀ k, k < d → ys.getD k 0 = (q : Int) + (k : Int) := fun k hk => by rw [hys, cnt_get _ _ _ hk]; omega
  rw [hC]
  have EX := hide ex
  have EY := hide ey
  have XL := hide hxl
  have YL := hide hyl
  have CL := hide hcl
  have XG := hide hxg
  have YG := hide hyg
  clear hxs hys hok ex ey hC hxl hyl hcl hxg hyg
  go_enter Tryz.func145, Tryz.ntmps145
  go_wp2
  go_loopw [5, 7] (fun vx vk wr => ∃ k : Nat, k ≤ q ∧ vk = .int .i64 k ∧ Own wr w.heap.size vx (xs.take k) ∧ Below w.heap.size w wr) (fun _ vk _ => q - (intOf vk).toNat)
  case atStart => exact ⟨0, Nat.zero_le _, rfl, World.ownsRow_nil _ _ _ _, Below.refl _ _⟩
  case round =>
    obtain ⟨k, hk, rfl, ho, hb⟩ := hrel
    have O := hide ho
    have B := hide hb
    clear ho hb
    by_cases hlt : k < q
    · have hlt' : (k : Int) < (q : Int) := by omega
      have O2 := hide (O.out.alloc (.cells #[.int .i64 ((k : Nat) : Int)] 3))
      have HL2 : Hid ((xs.take k).length = k) := by show (xs.take k).length = k; rw [List.length_take, XL.out]; omega
      go_wp2_with (at_builtin; refine wpList_append_rd rfl _ _ rfl w.heap.size _ (xs.take k).length (xs.take k) [((k : Nat) : Int)] rfl O2.out _ rfl rd_single (by rw [HL2.out]; simp; omega) (by have := B.out.size; simp; omega) ?_)
      intro v' w3 ho3 hg3
      have hb3 : Below w.heap.size w w3 := (B.out.alloc B.out.size _).grown hg3 (by have := B.out.size; simp; omega) (fun i hi => (O.out.lt i hi).1)
      have e : xs.take k ++ [((k : Nat) : Int)] = xs.take (k + 1) := by rw [take_snocM xs 0 k (by rw [XL.out]; exact hlt), XG.out k hlt]
      rw [e] at ho3
      have O3 := hide ho3
      have B3 := hide hb3
      clear ho3 hg3 hb3 e
      go_wp2
      go_roundw
      case rel => exact ⟨k + 1, by omega, by go_num, O3.out, B3.out⟩
      case measure => simp [intOf]; omega
    · obtain rfl : k = q := by omega
      have ho := O.out
      rw [List.take_of_length_le (by rw [XL.out]; exact Nat.le_refl _)] at ho
      have OX := hide ho
      clear ho O
      obtain ⟨W1, rfl⟩ : ∃ W1, W1 = wr := ⟨_, rfl⟩
      go_wp2
      go_loopw [6, 8] (fun vy vk wr => ∃ j : Nat, j ≤ d ∧ vk = .int .i64 j ∧ Own wr W1.heap.size vy (ys.take j) ∧ Below W1.heap.size W1 wr) (fun _ vk _ => d - (intOf vk).toNat)
      case atStart => exact ⟨0, Nat.zero_le _, rfl, World.ownsRow_nil _ _ _ _, Below.refl _ _⟩
      case round =>
        obtain ⟨j, hj, rfl, ho, hb⟩ := hrel
        have O := hide ho
        have B2 := hide hb
        clear ho hb
        by_cases hltj : j < d
        · have hltj' : (j : Int) < (d : Int) := by omega
          have O2 := hide (O.out.alloc (.cells #[.int .i64 ((k : Int) + (j : Int))] 3))
          have HL2 : Hid ((ys.take j).length = j) := by show (ys.take j).length = j; rw [List.length_take, YL.out]; omega
          go_wp2_with (at_builtin; refine wpList_append_rd rfl _ _ rfl W1.heap.size _ (ys.take j).length (ys.take j) [(k : Int) + (j : Int)] rfl O2.out _ rfl rd_single (by rw [HL2.out]; simp; omega) (by have := B2.out.size; simp; omega) ?_)
          intro v' w3 ho3 hg3
          have hb3 : Below W1.heap.size W1 w3 := (B2.out.alloc B2.out.size _).grown hg3 (by have := B2.out.size; simp; omega) (fun i hi => (O.out.lt i hi).1)
          have e : ys.take j ++ [(k : Int) + (j : Int)] = ys.take (j + 1) := by rw [take_snocM ys 0 j (by rw [YL.out]; exact hltj), YG.out j hltj]
          rw [e] at ho3
          have O3 := hide ho3
          have B3 := hide hb3
          clear ho3 hg3 hb3 e
          go_wp2
          go_roundw
          case rel => exact ⟨j + 1, by omega, by go_num, O3.out, B3.out⟩
          case measure => simp [intOf]; omega
        · obtain rfl : j = d := by omega
          have ho := O.out
          rw [List.take_of_length_le (by rw [YL.out]; exact Nat.le_refl _)] at ho
          have RY := hide ho.rd
          have RX := hide (OX.out.rd.below B2.out)
          have B02 := hide (B.out.trans (B2.out.mono B.out.size))
          obtain ⟨W2, rfl⟩ : ∃ W2, W2 = wr := ⟨_, rfl⟩
          clear ho O
          go_wp2_with fail
          refine (l2Identity_calls j _ h1 (by omega)).mono ?_
          rintro e w4 ⟨v4, rfl, hm4, hb4⟩
          have M4 := hide hm4
          have B4 := hide hb4
          have s4 := hb4.size
          clear hm4 hb4
          go_wp2_with fail
          refine (l2Cauchy_calls _ _ xs ys _ (RX.out.below B4.out) (RY.out.below B4.out) EX.out EY.out (by rw [XL.out]; omega) (by rw [YL.out]; omega)).mono ?_
          rintro e w5 ⟨v5, rfl, ⟨vs5, hm5⟩, hb5⟩
          obtain ⟨vs4, hm4⟩ := M4.out.below hb5
          have M5 := hide hm5
          have M45 := hide hm4
          have B5 := hide (B4.out.trans (hb5.mono B4.out.size))
          have s5 := hb5.size
          have s0 := B02.out.size
          have low : Hid (∀ k, v4.ownBlock = some k → W2.heap.size ≤ k) := fun k hk => (World.ownsRow.lt hm4.head k hk).1
          clear hm5 hb5 hm4
          go_wp2_with (at_builtin; refine wpList_append_mat rfl (.tmp 30) (.tmp 33) rfl W2.heap.size W2.heap.size w4.heap.size w4.heap.size w5.heap.size _ _ vs4 vs5 (identM j) (cauM xs ys) rfl rfl M45.out M5.out (Nat.le_refl _) s4 (.inl (Nat.le_refl _)) (Nat.le_refl _) s5 (by rw [CL.out]; omega) (by rw [identM_length]; omega) (by rw [CL.out]; omega) (by omega) ?_)
          intro v6 w6 hm6 hg6
          have hb6 : Below W2.heap.size W2 w6 := B5.out.grown hg6 (by omega) low.out
          have MM := hide (hm6.wider s0 (Nat.le_refl _))
          have B6 := hide (B02.out.trans (hb6.mono s0))
          clear hm6 hg6 hb6
          go_wp2
          go_ret
          exact ⟨_, rfl, ⟨_, MM.out⟩, B6.out⟩

def codeR (d q : Int) : List (List Int) × Bool := if codeOk d q = true then (codeM d.toNat q.toNat, true) else ([], false)
theorem codeR_tot (d q : Int) : (codeR d q).1.length + tot (codeR d q).1 ≤ 1048576 := by
  unfold codeR
  split
  · rename_i h
    obtain ⟨h1, h2, h3, h4⟩ := codeOk_facts h
    simp only []
    have hr := codeM_rows d.toNat q.toNat
    have : ∀ k, k ≤ (codeM d.toNat q.toNat).length → tot ((codeM d.toNat q.toNat).take k) ≤ 8 * k := by
      intro k
      induction k with
      | zero => intro _; simp [tot]
      | succ k ih =>
        intro hk
        rw [tot_take_succ _ k (by omega), (hr k (by omega)).1]
        have := ih (by omega)
        omega
    have := this _ (Nat.le_refl _)
    rw [List.take_of_length_le (Nat.le_refl _), codeM_length] at this
    rw [codeM_length]
    omega
  · simp [tot]

end Go.Proofs.YtdoldboefceliaaGreatDoor

namespace Go.Proofs.YtdoldboefceliaaGreatDoor
open Go.RowKit
open Gf (ci nat amTo AllLt)

set_option maxRecDepth 100000 in
theorem addMultiple_nil (sv qv : Value) (f a : Int) (w : World) (hq : Rd w qv []) :
    Calls Tryz.prog 209 #[sv, qv, .int .i64 f, .int .i64 a] w fun e w' => e = .returned (.tuple #[]) ∧ w = w' := by
  obtain ⟨x, cap, rfl, h1, h2, h3⟩ := hq
  clear h1 h2 h3
  go_enter Tryz.func209, Tryz.ntmps209
  go_wp2
  go_loop [12] (fun vi => vi = .int .i64 0) (fun _ => 0)
  case atStart => rfl
  case round =>
    subst hrel
    go_wp2
    go_end0
    exact ⟨rfl, rfl⟩
theorem addMultiple_any (sv qv : Value) (s q : List Nat) (f a : Int) (base : Nat) (w : World) (hT : ∀ w', w.grownBy w' sv.ownBlock → Gf.Tab w') (hs : Own w base sv (ci s)) (hq : ∀ w', w.grownBy w' sv.ownBlock → Rd w' qv (ci q))
    (hf0 : 0 ≤ f) (hf : f < 256) (ha0 : 0 ≤ a) (hfit : a + q.length ≤ s.length) (hsl : s.length ≤ 1048576) (hsa : AllLt s) (hqa : AllLt q) :
    Calls Tryz.prog 209 #[sv, qv, .int .i64 f, .int .i64 a] w fun e w' => e = .returned (.tuple #[]) ∧ Own w' base sv (ci (amTo s q f.toNat a.toNat q.length)) ∧ w.grownBy w' sv.ownBlock := by
  by_cases h0 : 0 < s.length
  · exact Gf.addMultiple_calls sv qv s q f a base w hT hs hq hf0 hf ha0 hfit hsl hsa hqa h0
  · have hq0 : q = [] := List.eq_nil_of_length_eq_zero (by omega)
    subst hq0
    refine (addMultiple_nil sv qv f a w (hq w (World.grownBy.refl _ _))).mono ?_
    rintro e w' ⟨rfl, rfl⟩
    exact ⟨rfl, hs, World.grownBy.refl _ _⟩
structure Fit (a b : List (List Int)) (l : Nat) : Prop where
  a1 : 1 ≤ a.length
  aN : a.length ≤ 4096
  b1 : 1 ≤ b.length
  bN : b.length ≤ 4096
  lN : l ≤ 4096
  ar : ∀ i, i < a.length → (a.getD i []).length = b.length ∧ (a.getD i []).all Gf.elOk = true
  br : ∀ i, i < b.length → (b.getD i []).length = l ∧ (b.getD i []).all Gf.elOk = true

set_option maxRecDepth 100000 in
set_option maxHeartbeats 1600000 in
theorem productOf_calls (av bv : Value) (a b : List (List Int)) (l : Nat) (w : World) (hT : Gf.Tab w) (ha : RdM w av a) (hb : RdM w bv b) (hf : Fit a b l) :
    Calls Tryz.prog 179 #[av, bv] w fun e w' => ∃ v', e = .returned v' ∧ Mat w' w.heap.size w'.heap.size v' (mulM a b) ∧ Below w.heap.size w w' := by
  have RA := hide ha
  have RB := hide hb
  have T := hide hT
  have FI := hide hf
  obtain ⟨aa, acap, rfl, _⟩ := ha
  obtain ⟨ba, bcap, rfl, _⟩ := hb
  have hal : 1 ≤ a.length := hf.a1
  have hal8 : a.length ≤ 4096 := hf.aN
  have hbl : 1 ≤ b.length := hf.b1
  have hbl8 : b.length ≤ 4096 := hf.bN
  have hl8 : l ≤ 4096 := hf.lN
  have hl : l = (b.getD 0 []).length := (hf.br 0 (by omega)).1.symm
  have HL := hide hl
  clear hT hl hf
  obtain ⟨bb, boff, bu0, rfl, hbb0, hbc0, hbu0⟩ := RB.out.rowAt 0 (by omega)
  rw [Nat.add_zero] at hbc0
  obtain ⟨bua, bucap, hbu, _⟩ := hbu0
  rw [← HL.out] at hbu
  subst hbu
  obtain ⟨P, hP⟩ : ∃ P, P = mulM a b := ⟨_, rfl⟩
  rw [← hP]
  have hPl : P.length = a.length := by rw [hP, mulM_length]
  have hPg : ∀ k, k < a.length → P.getD k [] = ci (mulRow (b.map nat) l (nat (a.getD k [])) (a.getD k []).length) := fun k hk => by rw [hP, mulM_get _ _ _ hk, HL.out]
  have PL := hide hPl
  have PG := hide hPg
  clear hP hPl hPg
  go_enter Tryz.func179, Tryz.ntmps179
  go_wp2_with fail
  refine (newRows_calls a.length l _ (by omega) (by omega)).mono ?_
  rintro e w3 ⟨v3, rfl, ⟨vs, hm⟩, hb3⟩
  rw [← PL.out, ← gTo_zero] at hm
  obtain ⟨g, cap, hv3, hg1, hg2, hg3, hg4⟩ := hm.open (by rw [gTo_length _ _ _ (Nat.zero_le _), PL.out]; omega)
  rw [gTo_length _ _ _ (Nat.zero_le _), PL.out] at hv3 hg3
  subst hv3
  have M3 := hide hm
  have B3 := hide hb3
  have S2 : 1 < w.heap.size := Gf.tab_pos T.out
  clear hm hb3 hbc0
  go_wp2
  go_loopw [19] (fun vi wr => ∃ (k : Nat), k ≤ a.length ∧ vi = .int .i64 k ∧ MatV wr w.heap.size w3.heap.size (.slice (some ⟨g, 0, none⟩) a.length cap) vs (gTo P (List.replicate l 0) k) ∧ Chg w.heap.size w3.heap.size w3 wr) (fun vi _ => a.length - (intOf vi).toNat)
  case atStart => exact ⟨0, Nat.zero_le _, rfl, M3.out, Chg.refl _ _ _⟩
  case round =>
    obtain ⟨k, hk, rfl, hM, hC⟩ := hrel
    by_cases hlt : k < a.length
    · have hlt' : (k : Int) < (a.length : Int) := by omega
      obtain ⟨ab, aoff, au, haa, hab1, hac, hau⟩ := RA.out.rowAt k hlt
      subst haa
      obtain ⟨r, hr⟩ : ∃ r, r = a.getD k [] := ⟨_, rfl⟩
      rw [← hr] at hau
      have hrl : r.length = b.length := by rw [hr, (FI.out.ar k hlt).1]
      have hre : r.all Gf.elOk = true := by rw [hr]; exact (FI.out.ar k hlt).2
      have hpg := PG.out k hlt
      rw [← hr] at hpg
      have PK := hide hpg
      have RE := hide hre
      clear hr hpg hre
      have BW := hide (B3.out.trans (hC.below (Nat.le_refl _) B3.out.size))
      have hac2 : wr.cell? ⟨ab, aoff + k, none⟩ = some au := (BW.out.cell (p := ⟨ab, aoff + k, none⟩) hab1).trans hac
      have AU := hide hau
      obtain ⟨aua, auc, hauv, _⟩ := hau
      rw [hrl] at hauv
      subst hauv
      have M := hide hM
      have C := hide hC
      clear hM hC hac
      have hkl : k < (gTo P (List.replicate l 0) k).length := by rw [gTo_length _ _ _ (by rw [PL.out]; exact hk), PL.out]; exact hlt
      have KL := hide hkl
      clear hkl
      go_wp2
      go_loopw [26] (fun vi wr2 => ∃ (j : Nat), j ≤ b.length ∧ vi = .int .i64 j ∧ MatV wr2 w.heap.size w3.heap.size (.slice (some ⟨g, 0, none⟩) a.length cap) vs ((gTo P (List.replicate l 0) k).set k (ci (mulRow (b.map nat) l (nat r) j))) ∧ Chg w.heap.size w3.heap.size w3 wr2) (fun vi _ => b.length - (intOf vi).toNat)
      case atStart =>
        refine ⟨0, Nat.zero_le _, rfl, ?_, C.out⟩
        have e := gTo_get P (List.replicate l 0) k (by rw [PL.out]; exact hlt)
        have e2 := set_same _ k [] KL.out
        rw [e] at e2
        rw [mulRow, Gf.ci_zeros, e2]
        exact M.out
      case round =>
        obtain ⟨j, hj, rfl, hM2, hC2⟩ := hrel
        by_cases hltj : j < b.length
        · have hltj' : (j : Int) < (b.length : Int) := by omega
          have BW2 := hide (B3.out.trans (hC2.below (Nat.le_refl _) B3.out.size))
          obtain ⟨bb', boff', bu, hbb', hbb1, hbc, hbu⟩ := RB.out.rowAt j hltj
          simp only [Option.some.injEq, Addr.mk.injEq, and_true] at hbb'
          obtain ⟨rfl, rfl⟩ := hbb'
          have hbc2 : wr.cell? ⟨bb, boff + j, none⟩ = some bu := (BW2.out.cell (p := ⟨bb, boff + j, none⟩) hbb1).trans hbc
          obtain ⟨q, hq⟩ : ∃ q, q = nat (b.getD j []) := ⟨_, rfl⟩
          have hqe := (FI.out.br j hltj).2
          have hql : q.length = l := by rw [hq, Gf.nat_length, (FI.out.br j hltj).1]
          have hqlt : AllLt q := by rw [hq]; exact Gf.nat_lt hqe
          rw [← Gf.ci_nat hqe, ← hq] at hbu
          have hq2 : (b.map nat).getD j [] = q := by rw [natM_get, hq]
          obtain ⟨rb, roff, ru, rfl, hrc, hru⟩ := (AU.out.below BW2.out).row j (by omega)
          obtain ⟨x, hx⟩ : ∃ x, x = (nat r).getD j 0 := ⟨_, rfl⟩
          have hx2 : r.getD j 0 = ((x : Nat) : Int) := by
            have := Gf.ci_getD (nat r) j
            rw [Gf.ci_nat RE.out] at this
            rw [this, hx]
          rw [hx2] at hru
          subst hru
          have hx256 : x < 256 := by rw [hx]; exact Gf.nat_lt RE.out j
          obtain ⟨s, hs⟩ : ∃ s, s = mulRow (b.map nat) l (nat r) j := ⟨_, rfl⟩
          have hsl : s.length = l := by rw [hs, mulRow_length]
          have hslt : AllLt s := by rw [hs]; exact mulRow_lt (Gf.nat_lt RE.out) j
          have hnext : mulRow (b.map nat) l (nat r) (j + 1) = amTo s q x 0 q.length := by rw [mulRow, hq2, ← hs, ← hx]
          rw [← hs] at hM2
          have hkl2 : k < ((gTo P (List.replicate l 0) k).set k (ci s)).length := by rw [List.length_set]; exact KL.out
          have hcu := hM2.cell k hkl2
          have hro := hM2.row k hkl2
          rw [getD_set _ _ _ _ _ KL.out, if_pos rfl] at hro
          obtain ⟨u, hu⟩ : ∃ u, u = vs.getD k nilRow := ⟨_, rfl⟩
          rw [← hu] at hcu hro
          have U := hide hu
          have O := hide hro
          have M2 := hide hM2
          have C2 := hide hC2
          have NX := hide hnext
          have BU := hide hbu
          have QL := hide hql
          have QLT := hide hqlt
          have SL := hide hsl
          have SLT := hide hslt
          have KL2 := hide hkl2
          have TT := hide (Gf.Tab.below T.out BW2.out)
          clear hu hro hM2 hC2 hnext hbu hql hqlt hsl hslt hkl2 hq hqe hq2 hx hx2 hs hbc
          have TG : Hid (∀ w', wr.grownBy w' u.ownBlock → Gf.Tab w') := fun w' hg => Gf.tab_grown TT.out hg (fun k hk => by have := (World.ownsRow.lt O.out k hk).1; omega)
          have QG : Hid (∀ w', wr.grownBy w' u.ownBlock → Rd w' bu (ci q)) := fun w' hg => BU.out.below (BW2.out.grown hg BW2.out.size (fun k hk => by have := (World.ownsRow.lt O.out k hk).1; omega))
          have i0 : (0 : Int) ≤ (k : Int) := by omega
          have i1 : (0 : Int) ≤ (j : Int) := by omega
          go_wp2
          go_region_with (go_at_call 209; refine (addMultiple_any u bu s q x 0 w.heap.size wr.drew (fun w' hg => TG.out w' ⟨hg.os, hg.tape, hg.output, hg.size, hg.block⟩) (by exact O.out.drew) (fun w' hg => QG.out w' ⟨hg.os, hg.tape, hg.output, hg.size, hg.block⟩) (by omega) (by omega) (by omega) (by rw [QL.out, SL.out]; omega) (by rw [SL.out]; omega) SLT.out QLT.out).mono ?_; rintro e w' ⟨rfl, ho, hg⟩)
          all_goals
            have ho2 : Own w' w.heap.size (vs.getD k nilRow) (ci (mulRow (b.map nat) l (nat r) (j + 1))) := by
              rw [NX.out, ← U.out]
              simpa using ho
            have hg2' : wr.grownBy w' (vs.getD k nilRow).ownBlock := by
              rw [← U.out]
              exact ⟨hg.os, hg.tape, hg.output, hg.size, hg.block⟩
            have W2 := hide (M2.out.write k KL2.out _ ho2 hg2')
            have C3 := hide (C2.out.trans (M2.out.writeChg k KL2.out hg2'))
            clear ho hg ho2 hg2'
            go_wp2
            go_roundw
            case rel =>
              refine ⟨j + 1, by omega, by go_num, ?_, C3.out⟩
              have := W2.out
              rw [List.set_set] at this
              exact this
            case measure => simp [intOf]; omega
        · obtain rfl : j = b.length := by omega
          have M2 := hide hM2
          have C2 := hide hC2
          have RL := hide hrl
          clear hM2 hC2 hrl
          go_wp2
          go_roundw
          case rel =>
            refine ⟨k + 1, by omega, by go_num, ?_, C2.out⟩
            have := M2.out
            rw [← RL.out, ← PK.out, gTo_step _ _ k (by rw [PL.out]; exact hlt)] at this
            exact this
          case measure => simp [intOf]; omega
    · obtain rfl : k = a.length := by omega
      have M := hide hM
      have C := hide hC
      clear hM hC
      go_wp2
      go_ret
      have hm := M.out
      have e := gTo_end P (List.replicate l 0)
      rw [PL.out] at e
      rw [e] at hm
      exact ⟨_, rfl, ⟨_, hm.wider (Nat.le_refl _) C.out.size⟩, B3.out.trans (C.out.below (Nat.le_refl _) B3.out.size)⟩
end Go.Proofs.YtdoldboefceliaaGreatDoor

namespace Go.Proofs.YtdoldboefceliaaGreatDoor
open Go.RowKit

def asLongOk (m : List (List Int)) : Bool := decide (m.length = 0) || (decide (((m.getD 0 []).length : Int) ≤ 32) && m.all (fun r : List Int => decide ((r.length : Int) = ((m.getD 0 []).length : Int))))
def piecesOk (m : List (List Int)) : Bool := asLongOk m && m.all (fun r : List Int => r.all Gf.elOk)
def pieceAt (m : List (List Int)) (i : Nat) : Bool := decide ((m.getD i []).length = (m.getD 0 []).length ∧ (m.getD i []).length ≤ 32) && (m.getD i []).all Gf.elOk
theorem piecesOk_at {m : List (List Int)} (h : piecesOk m = true) (i : Nat) (hi : i < m.length) : (m.getD i []).length = (m.getD 0 []).length ∧ (m.getD i []).length ≤ 32 ∧ (m.getD i []).all Gf.elOk = true := by
  simp only [piecesOk, asLongOk, Bool.and_eq_true, Bool.or_eq_true, decide_eq_true_eq] at h
  obtain ⟨h1, h2⟩ := h
  have he := all_at (d := []) h2 i hi
  rcases h1 with h1 | ⟨h1, h3⟩
  · omega
  · have hl := all_at (d := []) h3 i hi
    simp only [decide_eq_true_eq] at hl
    exact ⟨by omega, by omega, he⟩
theorem piecesOk_yes {m : List (List Int)} (h : ∀ i, i < m.length → pieceAt m i = true) : piecesOk m = true := by
  have f : ∀ i, i < m.length → (m.getD i []).length = (m.getD 0 []).length ∧ (m.getD i []).length ≤ 32 ∧ (m.getD i []).all Gf.elOk = true := fun i hi => by
    have := h i hi
    simp only [pieceAt, Bool.and_eq_true, decide_eq_true_eq] at this
    exact ⟨this.1.1, this.1.2, this.2⟩
  unfold piecesOk asLongOk
  rw [all_yes (d := []) (p := fun r : List Int => r.all Gf.elOk) (fun i hi => (f i hi).2.2), all_yes (d := []) (p := fun r : List Int => decide ((r.length : Int) = ((m.getD 0 []).length : Int))) (fun i hi => by have := (f i hi).1; simp only [decide_eq_true_eq]; omega)]
  by_cases h0 : m.length = 0
  · rw [decide_eq_true h0]; rfl
  · have := (f 0 (by omega)).2.1
    rw [decide_eq_true (show ((m.getD 0 []).length : Int) ≤ 32 by omega)]
    simp
theorem piecesOk_no {m : List (List Int)} {k : Nat} (hk : k < m.length) (h : pieceAt m k = false) : piecesOk m = false := by
  cases hh : piecesOk m with
  | false => rfl
  | true =>
    obtain ⟨h1, h2, h3⟩ := piecesOk_at hh k hk
    rw [pieceAt, decide_eq_true ⟨h1, h2⟩, h3] at h
    cases h

set_option maxRecDepth 100000 in
set_option maxHeartbeats 800000 in
theorem areAsLong_calls (v : Value) (m : List (List Int)) (w : World) (h : RdM w v m) :
    Calls Tryz.prog 152 #[v] w fun e w' => e = .returned (.bool (asLongOk m)) ∧ Below w.heap.size w w' := by
  have R := hide h
  obtain ⟨a, cap, rfl, _⟩ := h
  by_cases h0 : m.length = 0
  · have e : asLongOk m = true := by unfold asLongOk; rw [decide_eq_true h0]; rfl
    rw [e]
    have e1 : ((m.length : Int) == 0) = true := by simp; simpa using h0
    clear e h0
    go_enter Tryz.func152, Tryz.ntmps152
    go_wp2
    go_ret
    exact ⟨rfl, Below.refl _ _⟩
  · have hl : 0 < m.length := by omega
    have hl' : (0 : Int) < (m.length : Int) := by omega
    obtain ⟨b, off, u, rfl, hc1, hu⟩ := R.out.row 0 hl
    rw [Nat.add_zero] at hc1
    obtain ⟨r, hr⟩ : ∃ r, r = m.getD 0 [] := ⟨_, rfl⟩
    rw [← hr] at hu
    obtain ⟨b3, hb3⟩ : ∃ b, b = m.all (fun q : List Int => decide ((q.length : Int) = (r.length : Int))) := ⟨_, rfl⟩
    have e : asLongOk m = (decide ((r.length : Int) ≤ 32) && b3) := by
      rw [asLongOk, decide_eq_false h0, Bool.false_or, ← hr, hb3]
    rw [e]
    have e1 : ((m.length : Int) == 0) = false := by simp; intro h; rw [h] at hl; simp at hl
    have B3 := hide hb3
    clear e hr hb3 h0
    obtain ⟨ua, uc, rfl, _⟩ := hu
    by_cases h32 : (r.length : Int) ≤ 32
    · rw [decide_eq_true h32]
      go_enter Tryz.func152, Tryz.ntmps152
      go_wp2_with fail
      refine (areAllLong_calls _ m _ _ R.out).mono ?_
      rw [← B3.out]
      rintro e w1 ⟨rfl, hb⟩
      have B := hide hb
      clear hb
      go_wp2
      go_ret
      exact ⟨by simp, B.out⟩
    · rw [decide_eq_false h32]
      go_enter Tryz.func152, Tryz.ntmps152
      go_wp2
      go_ret
      exact ⟨rfl, Below.refl _ _⟩

set_option maxRecDepth 100000 in
set_option maxHeartbeats 800000 in
theorem arePieces_calls (v : Value) (m : List (List Int)) (w : World) (h : RdM w v m) :
    Calls Tryz.prog 130 #[v] w fun e w' => e = .returned (.bool (piecesOk m)) ∧ Below w.heap.size w w' := by
  have R := hide h
  obtain ⟨a, cap, rfl, _⟩ := h
  obtain ⟨b1, hb1⟩ : ∃ b, b = asLongOk m := ⟨_, rfl⟩
  obtain ⟨b2, hb2⟩ : ∃ b, b = m.all (fun r : List Int => r.all Gf.elOk) := ⟨_, rfl⟩
  have e : piecesOk m = (b1 && b2) := by rw [piecesOk, hb1, hb2]
  rw [e]
  have B1 := hide hb1
  have B2 := hide hb2
  clear e hb1 hb2
  cases b1 with
  | false =>
    go_enter Tryz.func130, Tryz.ntmps130
    go_wp2_with fail
    refine (areAsLong_calls _ m _ R.out).mono ?_
    rw [← B1.out]
    rintro e w1 ⟨rfl, hb⟩
    have B := hide hb
    clear hb
    go_wp2
    go_ret
    exact ⟨rfl, B.out⟩
  | true =>
    go_enter Tryz.func130, Tryz.ntmps130
    go_wp2_with fail
    refine (areAsLong_calls _ m _ R.out).mono ?_
    rw [← B1.out]
    rintro e w1 ⟨rfl, hb⟩
    have B := hide hb
    clear hb
    go_wp2_with fail
    refine (allEls_calls _ m _ (R.out.below B.out)).mono ?_
    rw [← B2.out]
    rintro e w' ⟨rfl, rfl⟩
    go_wp2
    go_ret
    exact ⟨rfl, B.out⟩

set_option maxRecDepth 100000 in
set_option maxHeartbeats 1600000 in
theorem l3Pieces_calls (v : Value) (m : List (List Int)) (n : Int) (w : World) (h : RdM w v m) :
    Calls Tryz.prog 92 #[v, .int .i64 n] w fun e w' => e = .returned (.bool (piecesOk m && decide ((m.length : Int) = n))) ∧ w = w' := by
  have R := hide h
  obtain ⟨a, cap, rfl, q1, q2, q3⟩ := h
  have hm : m.length ≤ maxLen := by omega
  unfold maxLen at hm
  clear q1 q2 q3
  obtain ⟨res, hres⟩ : ∃ r, r = (piecesOk m && decide ((m.length : Int) = n)) := ⟨_, rfl⟩
  rw [← hres]
  have hno : ∀ k, k < m.length → pieceAt m k = false → res = false := fun k hk h => by rw [hres, piecesOk_no hk h]; rfl
  have RES := hide hres
  have NO := hide hno
  clear hres hno
  go_enter Tryz.func92, Tryz.ntmps92
  go_wp2
  go_loop [9] (fun vi => ∃ (k : Nat), k ≤ m.length ∧ vi = .int .i64 k ∧ ∀ i, i < k → pieceAt m i = true) (fun vi => m.length - (intOf vi).toNat)
  case atStart => exact ⟨0, Nat.zero_le _, rfl, fun i hi => by omega⟩
  case round =>
    obtain ⟨k, hk, rfl, hall⟩ := hrel
    have A := hide hall
    clear hall
    by_cases hlt : k < m.length
    · have hlt' : (k : Int) < (m.length : Int) := by omega
      have hl0 : (0 : Int) < (m.length : Int) := by omega
      obtain ⟨b, off, u, rfl, hc, hu⟩ := R.out.row k hlt
      obtain ⟨b', off', u0, hb', hc0, hu0⟩ := R.out.row 0 (by omega)
      simp only [Option.some.injEq, Addr.mk.injEq, and_true] at hb'
      obtain ⟨rfl, rfl⟩ := hb'
      rw [Nat.add_zero] at hc0
      obtain ⟨r, hr⟩ : ∃ r, r = m.getD k [] := ⟨_, rfl⟩
      obtain ⟨r0, hr0⟩ : ∃ r, r = m.getD 0 [] := ⟨_, rfl⟩
      rw [← hr] at hu
      rw [← hr0] at hu0
      have hpa : pieceAt m k = (decide (r.length = r0.length ∧ r.length ≤ 32) && r.all Gf.elOk) := by rw [pieceAt, hr, hr0]
      have PA := hide hpa
      have U := hide hu
      obtain ⟨ua, uc, rfl, _⟩ := hu
      have hcc : u0 = u0 := rfl
      obtain ⟨va, vc, rfl, _⟩ := hu0
      clear hr hr0 hpa hcc
      by_cases e1 : r.length = r0.length
      · have t1 : ((r.length : Int) != (r0.length : Int)) = false := by simp; omega
        by_cases e2 : r.length ≤ 32
        · have t2 : ¬ (32 : Int) < (r.length : Int) := by omega
          obtain ⟨b4, hb4⟩ : ∃ b, b = r.all Gf.elOk := ⟨_, rfl⟩
          have hpk : pieceAt m k = b4 := by rw [PA.out, decide_eq_true ⟨e1, e2⟩, hb4]; rfl
          have B4 := hide hb4
          have PK := hide hpk
          have E1 := hide e1
          clear hb4 hpk e1
          cases b4 with
          | false =>
            have hf : res = false := NO.out k hlt PK.out
            have F := hide hf
            clear hf
            go_wp2_with fail
            refine (Gf.l1All_calls _ r _ U.out).mono ?_
            rw [← B4.out]
            rintro e w' ⟨rfl, rfl⟩
            go_wp2
            go_ret
            exact ⟨Gf.ret_bool F.out.symm, rfl⟩
          | true =>
            go_wp2_with fail
            refine (Gf.l1All_calls _ r _ U.out).mono ?_
            rw [← B4.out]
            rintro e w' ⟨rfl, rfl⟩
            go_wp2
            go_round
            case rel =>
              refine ⟨k + 1, by omega, by go_num, fun i hi => ?_⟩
              by_cases ee : i = k
              · subst ee; exact PK.out
              · exact A.out i (by omega)
            case measure => simp [intOf]; omega
        · have t2 : (32 : Int) < (r.length : Int) := by omega
          have hf : res = false := NO.out k hlt (by rw [PA.out, decide_eq_false (fun h => e2 h.2)]; rfl)
          have F := hide hf
          have E1 := hide e1
          clear hf e1
          go_wp2
          go_ret
          exact ⟨Gf.ret_bool F.out.symm, rfl⟩
      · have t1 : ((r.length : Int) != (r0.length : Int)) = true := by simp; omega
        have hf : res = false := NO.out k hlt (by rw [PA.out, decide_eq_false (fun h => e1 h.1)]; rfl)
        have F := hide hf
        clear hf
        go_wp2
        go_ret
        exact ⟨Gf.ret_bool F.out.symm, rfl⟩
    · obtain rfl : k = m.length := by omega
      have hf : res = decide ((m.length : Int) = n) := by rw [RES.out, piecesOk_yes A.out]; rfl
      have F := hide hf
      clear hf
      go_wp2
      go_ret
      rw [F.out]
      exact ⟨Gf.ret_bool (by rw [Bool.eq_iff_iff]; simp), rfl⟩
end Go.Proofs.YtdoldboefceliaaGreatDoor

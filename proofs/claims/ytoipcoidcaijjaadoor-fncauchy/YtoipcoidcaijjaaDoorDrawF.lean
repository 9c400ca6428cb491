/-
  What the law of Cauchy's matrices draws: two lists. Each contract says what it asks.
-/
import Derived.Test.YtoipcoidcaijjaaDoorDrawM
namespace Go.Proofs.YtoipcoidcaijjaaDoor
open Go.RowKit

theorem rd_drop {w : World} {b off n cap : Nat} {xs : List Int} (h : Rd w (.slice (some ⟨b, off, none⟩) n cap) xs) (i : Nat) (hi : i < xs.length) : Rd w (.slice (some ⟨b, off + i, none⟩) (n - i) (cap - i)) (xs.drop i) := by
  obtain ⟨a', cap', hv, h1, h2, h3⟩ := h
  simp only [Value.slice.injEq] at hv
  obtain ⟨rfl, rfl, rfl⟩ := hv
  have hl : (xs.drop i).length = xs.length - i := by simp
  refine ⟨_, cap - i, by rw [hl], by rw [hl]; omega, ⟨by omega, by simp⟩, ?_⟩
  rcases h3 with h3 | ⟨b', off', he, hlt, hc⟩
  · subst h3; simp at hi
  · simp only [Option.some.injEq, Addr.mk.injEq, and_true] at he
    obtain ⟨rfl, rfl⟩ := he
    refine .inr ⟨b, off + i, rfl, hlt, fun j hj => ?_⟩
    rw [hl] at hj
    rw [Nat.add_assoc, hc (i + j) (by omega)]
    simp [List.getD_eq_getElem?_getD]

set_option maxRecDepth 100000 in
set_option maxHeartbeats 3200000 in
theorem drawCauchyMatrix_calls (cv : Value) (w : World) (h : RdB w cv) :
    Calls Tryd.prog 31 #[cv] w fun e w' => ∃ (v u : Value) (xs ys : List Int), e = .returned (.tuple #[v, u]) ∧ Rd w' v xs ∧ Rd w' u ys ∧ (xs.length ≤ 8 ∧ ys.length ≤ 8) ∧ Below w.heap.size w w' := by
  have C0 := hide (cur_new h)
  have LO := hide (draw_low h)
  obtain ⟨a0, cap0, zs0, rfl, _⟩ := h
  go_enter Tryd.func31, Tryd.ntmps31
  go_wp2_with fail
  refine (pick_calls w.heap.size _ 0 4 _ C0.out (by omega) (by omega) (by omega)).mono ?_
  rintro e w0 ⟨p, hp, rfl, hc0, hg0⟩
  have C1 := hide hc0
  have G0 := hide hg0
  clear hc0 hg0 C0
  go_wp2_with fail
  refine (pick_calls w.heap.size _ 2 4 _ C1.out (by omega) (by omega) (by omega)).mono ?_
  rintro e w1 ⟨p2, hp2, rfl, hc1, hg1⟩
  replace C1 := hide hc1
  have G1 := hide (grown_trans G0.out hg1)
  have lt1 := curS_lt hc1
  clear hc1 hg1 G0
  go_wp2_with fail
  obtain ⟨A, hA⟩ : ∃ N : Nat, N = 1 + p := ⟨_, rfl⟩
  have eA : (1 : Int) + (p : Int) = (A : Int) := by omega
  obtain ⟨n, hn⟩ : ∃ N : Nat, N = A + 1 + p2 := ⟨_, rfl⟩
  have en : (A : Int) + 1 + (p2 : Int) = (n : Int) := by omega
  rw [eA, en]
  refine (unlike_calls w.heap.size _ 4 n _ C1.out (by omega) (by omega) (fun w' hb => LO.out w' ((grown_low G1.out (by simp)).trans hb))).mono ?_
  rintro e w2 ⟨v, xs, rfl, ho, hxl, hc2, hg2⟩
  have C2 := hide hc2
  have G2 := hide (grown_trans G1.out hg2)
  have A1 : 1 ≤ A := by omega
  have A4 : A ≤ 4 := by omega
  have An : A < n := by omega
  have n8 : n ≤ A + 4 := by omega
  have s2 := hg2.size
  clear hc2 hg2 eA en hn hA hp hp2
  obtain ⟨gl, cap, rfl, hgl, hgl2, hcap, hcap2⟩ := ho.open1 (by omega)
  have O2 := hide ho
  rw [hxl] at O2 hcap
  have lt1' : w.heap.size + 1 ≤ w1.heap.size := lt1
  have XL := hide hxl
  rw [hxl]
  clear ho hxl
  go_wp2_with fail
  refine (one_calls w.heap.size _ (4 + 1000 * n) 30 _ C2.out (by omega) (by omega) (by omega)).mono ?_
  rintro e w3 ⟨b3, rfl, hc3, hg3⟩
  have C3 := hide hc3
  have G3 := hide (grown_trans G2.out hg3)
  have O3 := hide (own_keep O2.out hg3 (by omega))
  have s3 := hg3.size
  have lt3 := curS_lt hc3
  clear hc3 hg3
  have j1 : (A : Int) ≤ (cap : Int) := by omega
  have j2 : (A : Int) ≤ (n : Int) := by omega
  have j3 : (0 : Int) < (n : Int) := by omega
  cases b3 with
  | false =>
    have xl := XL.out
    have RX := hide (rd_take O3.out.rd A (by omega))
    have RY := hide (rd_drop O3.out.rd A (by omega))
    have BB := hide (cur_below G3.out)
    rw [Nat.zero_add] at RY
    go_wp2_with fail
    go_quiet (fail)
    go_wp2
    go_ret2
    exact ⟨_, _, xs.take A, xs.drop A, rfl, RX.out.below (below_drewN' _), RY.out.below (below_drewN' _), ⟨by simp; omega, by simp; omega⟩, below_drewN BB.out _⟩
  | true =>
    have RB := hide (rd_build (w := w3) (l := [-1, 256]) (g := w.heap.size) (by omega) (by unfold maxLen; simp))
    go_wp2_with fail
    refine (among_calls w.heap.size _ _ [-1, 256] (4 + 1000 * n + 2) _ (C3.out.alloc _) (by omega) RB.out (by simp) (by simp)).mono ?_
    rintro e w4 ⟨z, rfl, hc4, hg4⟩
    have G4 := hide (grown_trans G3.out (grown_trans (World.grownBy_alloc _ _ _) hg4))
    have O4 := hide (own_keep (O3.out.alloc _) hg4 (by omega))
    have xl := XL.out
    have hat := O4.out.at 0 (by omega)
    have hfz := hat.1
    have hce := hat.2
    have hput := O4.out.put 0 z
    have RL := hide hput.1.rd
    have BB := hide (cur_below (grown_far G4.out hput.2 (fun j hj => by cases hj; simp; omega)))
    have RX := hide (rd_take RL.out A (by simp; omega))
    have RY := hide (rd_drop RL.out A (by simp; omega))
    rw [Nat.zero_add] at RY
    have sl : Hid ((xs.set 0 z).length = n) := by show _ = _; simp; exact xl
    clear hc4 hg4 hat hput
    go_wp2_with fail
    go_quiet (fail)
    go_wp2
    go_ret2
    exact ⟨_, _, (xs.set 0 z).take A, (xs.set 0 z).drop A, rfl, RX.out.below (below_drewN' _), RY.out.below (below_drewN' _), ⟨by simp; omega, by simp; omega⟩, below_drewN BB.out _⟩
end Go.Proofs.YtoipcoidcaijjaaDoor

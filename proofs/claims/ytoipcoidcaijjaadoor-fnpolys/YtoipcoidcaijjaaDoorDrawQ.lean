/-
  The model's further draws of polynomials, and the laws' comparison of two lists: what each returns; what was there stays as it was. Each draw asks that its bytes can be read.
-/
import Derived.Test.YtoipcoidcaijjaaDoorDrawP
namespace Go.Proofs.YtoipcoidcaijjaaDoor
open Go.RowKit

set_option maxRecDepth 100000 in
set_option maxHeartbeats 800000 in
theorem drawMulPoly_calls (cv : Value) (w : World) (h : RdB w cv) :
    Calls Tryd.prog 26 #[cv] w fun e w' => ∃ (v u : Value) (xs ys : List Int), e = .returned (.tuple #[v, u]) ∧ Rd w' v xs ∧ Rd w' u ys ∧ Below w.heap.size w w' := by
  have C0 := hide (cur_new h)
  have LO := hide (draw_low h)
  obtain ⟨a0, cap0, zs0, rfl, _⟩ := h
  go_enter Tryd.func26, Tryd.ntmps26
  go_wp2_with fail
  refine (one_calls w.heap.size _ 0 20 _ C0.out (by omega) (by omega) (by omega)).mono ?_
  rintro e wb ⟨b, rfl, hcb, hgb⟩
  have Cb := hide hcb
  have Gb := hide hgb
  have ltb := curS_lt hcb
  clear hcb hgb C0
  cases b with
  | true =>
      go_wp2_with fail
      refine (poly_calls w.heap.size _ 2 42 _ Cb.out (by omega) (by omega) (by omega) (fun w' hb => LO.out w' ((grown_low Gb.out (by simp)).trans hb))).mono ?_
      rintro e w1 ⟨v, xs, rfl, hl1, ho1, hc1, hg1⟩
      have C1 := hide hc1
      have G1 := hide (grown_trans Gb.out hg1)
      have O1 := hide (Own.mono ho1 (show w.heap.size + 1 ≤ _ from ltb))
      clear hc1 hg1 ho1
      go_wp2_with fail
      refine (poly_calls w.heap.size _ 202 30 _ C1.out (by omega) (by omega) (by omega) (fun w' hb => LO.out w' ((grown_low G1.out (by simp)).trans hb))).mono ?_
      rintro e w2 ⟨u, ys, rfl, hl2, ho2, hc2, hg2⟩
      have R2 : Hid (Rd w2 v xs ∧ Rd w2 u ys ∧ Below w.heap.size w w2) := ⟨(own_keep O1.out hg2 (by omega)).rd, ho2.rd, cur_below (grown_trans G1.out hg2)⟩
      clear hc2 hg2 ho2
      go_wp2
      go_ret2
      first | exact ⟨v, u, xs, ys, rfl, R2.out.1, R2.out.2.1, R2.out.2.2⟩ | exact ⟨v, u, rfl, xs, ys, R2.out.1, R2.out.2.1, R2.out.2.2⟩
  | false =>
      go_wp2_with fail
      refine (poly_calls w.heap.size _ 2 8 _ Cb.out (by omega) (by omega) (by omega) (fun w' hb => LO.out w' ((grown_low Gb.out (by simp)).trans hb))).mono ?_
      rintro e w1 ⟨v, xs, rfl, hl1, ho1, hc1, hg1⟩
      have C1 := hide hc1
      have G1 := hide (grown_trans Gb.out hg1)
      have O1 := hide (Own.mono ho1 (show w.heap.size + 1 ≤ _ from ltb))
      clear hc1 hg1 ho1
      go_wp2_with fail
      refine (poly_calls w.heap.size _ 202 8 _ C1.out (by omega) (by omega) (by omega) (fun w' hb => LO.out w' ((grown_low G1.out (by simp)).trans hb))).mono ?_
      rintro e w2 ⟨u, ys, rfl, hl2, ho2, hc2, hg2⟩
      have R2 : Hid (Rd w2 v xs ∧ Rd w2 u ys ∧ Below w.heap.size w w2) := ⟨(own_keep O1.out hg2 (by omega)).rd, ho2.rd, cur_below (grown_trans G1.out hg2)⟩
      clear hc2 hg2 ho2
      go_wp2
      go_ret2
      first | exact ⟨v, u, xs, ys, rfl, R2.out.1, R2.out.2.1, R2.out.2.2⟩ | exact ⟨v, u, rfl, xs, ys, R2.out.1, R2.out.2.1, R2.out.2.2⟩

set_option maxRecDepth 100000 in
set_option maxHeartbeats 800000 in
theorem drawEvalGf_calls (cv : Value) (w : World) (h : RdB w cv) :
    Calls Tryd.prog 29 #[cv] w fun e w' => ∃ (v : Value) (xs : List Int) (z : Int), e = .returned (.tuple #[v, .int .i64 z]) ∧ Rd w' v xs ∧ Below w.heap.size w w' := by
  have C0 := hide (cur_new h)
  have LO := hide (draw_low h)
  obtain ⟨a0, cap0, zs0, rfl, _⟩ := h
  go_enter Tryd.func29, Tryd.ntmps29
  go_wp2_with fail
  refine (poly_calls w.heap.size _ 0 8 _ C0.out (by omega) (by omega) (by omega) LO.out).mono ?_
  rintro e w1 ⟨v, xs, rfl, hl1, ho1, hc1, hg1⟩
  have C1 := hide hc1
  have G1 := hide hg1
  have O1 := hide ho1
  clear hc1 hg1 ho1 C0
  go_wp2_with fail
  refine (gf_calls w.heap.size _ 200 _ C1.out (by omega)).mono ?_
  rintro e w2 ⟨z, rfl, hc2, hg2⟩
  have R2 : Hid (Rd w2 v xs ∧ Below w.heap.size w w2) := ⟨(own_keep O1.out hg2 (by simp)).rd, cur_below (grown_trans G1.out hg2)⟩
  clear hc2 hg2
  go_wp2
  go_ret2
  first | exact ⟨v, xs, z, rfl, R2.out.1, R2.out.2⟩ | exact ⟨v, xs, rfl, R2.out.1, R2.out.2⟩

set_option maxRecDepth 100000 in
set_option maxHeartbeats 400000 in
theorem sameInts_same (v1 v2 : Value) (xs : List Int) (w : World) (h1 : Rd w v1 xs) (h2 : Rd w v2 xs) :
    Calls Tryd.prog 22 #[v1, v2] w fun e w' => e = .returned (.bool true) ∧ Below w.heap.size w w' := by
  obtain ⟨a1, c1, rfl, _, m1, k1⟩ := h1
  obtain ⟨a2, c2, rfl, _, _, k2⟩ := h2
  have hm : xs.length ≤ maxLen := by omega
  unfold maxLen at hm
  have K := hide k1
  have L := hide k2
  clear k1 k2 m1
  go_enter Tryd.func22, Tryd.ntmps22
  go_wp2
  go_loopw [13] (fun vi wr => ∃ k : Nat, k ≤ xs.length ∧ vi = .int .i64 k ∧ Below w.heap.size w wr) (fun vi _ => xs.length - (intOf vi).toNat)
  case atStart => exact ⟨0, Nat.zero_le _, rfl, Below.refl _ _⟩
  case round =>
    obtain ⟨k, hk, rfl, hb⟩ := hrel
    by_cases hlt : k < xs.length
    · rcases K.out with h3 | ⟨b, off, rfl, hbs, hc⟩
      · subst h3; simp at hlt
      rcases L.out with h3 | ⟨b', off', rfl, hbs', hc'⟩
      · subst h3; simp at hlt
      have e1 : wr.cell? ⟨b, off + k, none⟩ = some (.int .i64 (xs.getD k 0)) := (hb.cell (by exact hbs)).trans (hc k hlt)
      have e2 : wr.cell? ⟨b', off' + k, none⟩ = some (.int .i64 (xs.getD k 0)) := (hb.cell (by exact hbs')).trans (hc' k hlt)
      have hlt' : (k : Int) < (xs.length : Int) := by omega
      clear hc hc'
      go_wp2
      go_quiet (fail)
      go_wp2
      go_roundw
      case rel => exact ⟨k + 1, by omega, by go_num, below_drewN hb _⟩
      case measure => simp [intOf]; omega
    · obtain rfl : k = xs.length := by omega
      go_wp2
      go_ret
      exact ⟨rfl, hb⟩

end Go.Proofs.YtoipcoidcaijjaaDoor

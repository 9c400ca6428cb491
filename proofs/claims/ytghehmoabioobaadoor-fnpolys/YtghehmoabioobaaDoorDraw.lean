/-
  The model's draws for the field's laws, and the number of a text: each returns numbers, and leaves what was there as it was. Each asks that its bytes can be read.
-/
import Derived.Test.YtghehmoabioobaaDoorCur
namespace Go.Proofs.YtghehmoabioobaaDoor
open Go.RowKit

theorem cur_new {w : World} {cv : Value} (h : RdB w cv) : CurS (w.alloc (.cells #[cv, .int .i64 0, .int .u64 0] 53)) w.heap.size cv 0 := by
  refine ⟨⟨0, 0, Nat.le_refl _, heap_alloc_new w _⟩, fun w' hg => ?_⟩
  have hb : Below w.heap.size w w' := ((Below.refl _ _).alloc (Nat.le_refl _) _).grown hg (by simp) (fun k hk => by simp at hk; omega)
  exact h.below hb
theorem cur_below {w w' : World} {cv : Value} (hg : (w.alloc (.cells #[cv, .int .i64 0, .int .u64 0] 53)).grownBy w' (some w.heap.size)) : Below w.heap.size w w' :=
  ((Below.refl _ _).alloc (Nat.le_refl _) _).grown hg (by simp) (fun k hk => by simp at hk; omega)

set_option maxRecDepth 100000 in
set_option maxHeartbeats 800000 in
theorem drawAddGf_calls (cv : Value) (w : World) (h : RdB w cv) :
    Calls Tryd.prog 46 #[cv] w fun e w' => ∃ a b : Int, e = .returned (.tuple #[.int .i64 a, .int .i64 b]) ∧ Below w.heap.size w w' := by
  have C0 := hide (cur_new h)
  obtain ⟨a0, cap0, zs0, rfl, _⟩ := h
  go_enter Tryd.func46, Tryd.ntmps46
  go_wp2_with fail
  refine (gf_calls w.heap.size _ 0 _ C0.out (by omega)).mono ?_
  rintro e w1 ⟨a, rfl, hc1, hg1⟩
  have C1 := hide hc1
  have G1 := hide hg1
  clear hc1 hg1 C0
  go_wp2_with fail
  refine (gf_calls w.heap.size _ 4 _ C1.out (by omega)).mono ?_
  rintro e w2 ⟨b, rfl, hc2, hg2⟩
  have B2 := hide (cur_below (grown_trans G1.out hg2))
  clear hc2 hg2
  go_wp2
  go_ret2
  exact ⟨a, b, rfl, B2.out⟩
set_option maxRecDepth 100000 in
theorem drawMulGf_calls (cv : Value) (w : World) (h : RdB w cv) :
    Calls Tryd.prog 14 #[cv] w fun e w' => ∃ a b : Int, e = .returned (.tuple #[.int .i64 a, .int .i64 b]) ∧ Below w.heap.size w w' := by
  have H := hide h
  clear h
  go_enter Tryd.func14, Tryd.ntmps14
  go_wp2_with fail
  refine (drawAddGf_calls cv _ H.out).mono ?_
  rintro e w1 ⟨a, b, rfl, hb⟩
  have B := hide hb
  clear hb
  go_wp2
  go_ret2
  exact ⟨a, b, rfl, B.out⟩
set_option maxRecDepth 100000 in
set_option maxHeartbeats 800000 in
theorem drawPowGf_calls (cv : Value) (w : World) (h : RdB w cv) :
    Calls Tryd.prog 24 #[cv] w fun e w' => ∃ a b : Int, e = .returned (.tuple #[.int .i64 a, .int .i64 b]) ∧ Below w.heap.size w w' := by
  have C0 := hide (cur_new h)
  obtain ⟨a0, cap0, zs0, rfl, _⟩ := h
  go_enter Tryd.func24, Tryd.ntmps24
  go_wp2_with fail
  refine (gf_calls w.heap.size _ 0 _ C0.out (by omega)).mono ?_
  rintro e w1 ⟨a, rfl, hc1, hg1⟩
  have C1 := hide hc1
  have G1 := hide hg1
  have hlt : w.heap.size < w1.heap.size := by
    obtain ⟨n, s, _, hh⟩ := hc1.at_
    exact (Array.getElem?_eq_some_iff.1 hh).1
  clear hc1 hg1 C0
  go_wp2_with fail
  refine (among_calls w.heap.size _ _ [-1, 0, 1, 2, 3, 254, 255, 256, 100000, 100001] 4 _ (C1.out.alloc _) (by omega) (rd_build hlt (by decide)) (by decide) (by decide)).mono ?_
  rintro e w2 ⟨b, rfl, hc2, hg2⟩
  have B2 := hide (cur_below (grown_trans G1.out (grown_trans (World.grownBy_alloc _ _ _) hg2)))
  clear hc2 hg2
  go_wp2
  go_ret2
  exact ⟨a, b, rfl, B2.out⟩
set_option maxRecDepth 100000 in
theorem drawOrderGf_calls (cv : Value) (w : World) (h : RdB w cv) :
    Calls Tryd.prog 27 #[cv] w fun e w' => ∃ a : Int, e = .returned (.int .i64 a) ∧ Below w.heap.size w w' := by
  have C0 := hide (cur_new h)
  obtain ⟨a0, cap0, zs0, rfl, _⟩ := h
  go_enter Tryd.func27, Tryd.ntmps27
  go_wp2_with fail
  refine (gf_calls w.heap.size _ 0 _ C0.out (by omega)).mono ?_
  rintro e w1 ⟨a, rfl, hc1, hg1⟩
  have B2 := hide (cur_below hg1)
  clear hc1 hg1 C0
  go_wp2
  go_ret
  exact ⟨a, rfl, B2.out⟩

set_option maxRecDepth 100000 in
set_option maxHeartbeats 800000 in
theorem numberOf_calls (cv : Value) (w : World) (h : RdB w cv) :
    Calls Tryd.prog 21 #[cv] w fun e w' => ∃ n : Nat, n < 1000003 ∧ e = .returned (.int .i64 n) ∧ w = w' := by
  obtain ⟨a, cap, zs, rfl, h1, h2, h3⟩ := h
  have H := hide h3
  clear h3
  go_enter Tryd.func21, Tryd.ntmps21
  go_wp2
  go_loop [3, 8] (fun vn vi => ∃ k n : Nat, k ≤ zs.length ∧ vi = .int .i64 k ∧ vn = .int .i64 n ∧ n < 1000003) (fun _ vi => zs.length - (intOf vi).toNat)
  case atStart => exact ⟨0, 0, Nat.zero_le _, rfl, rfl, by omega⟩
  case round =>
    obtain ⟨k, n, hk, rfl, rfl, hn⟩ := hrel
    by_cases hlt : k < zs.length
    · rcases H.out with h3 | ⟨b, off, rfl, hbs, hc⟩
      · subst h3; simp at hlt
      have hc1 := hc k hlt
      clear hc
      obtain ⟨z, hz⟩ : ∃ z, z = zs.getD k 0 := ⟨_, rfl⟩
      have hz256 : z < 256 := by rw [hz]; exact h2 k
      rw [← hz] at hc1
      clear hz
      go_wp2
      go_round
      case rel => exact ⟨k + 1, (31 * n + z) % 1000003, by omega, by go_num, Gf.int_eq (by simp), by omega⟩
      case measure => simp [intOf]; omega
    · obtain rfl : k = zs.length := by omega
      go_wp2
      go_ret
      exact ⟨n, hn, rfl, rfl⟩
end Go.Proofs.YtghehmoabioobaaDoor

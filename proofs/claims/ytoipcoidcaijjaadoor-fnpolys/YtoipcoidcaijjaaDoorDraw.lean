/-
  The model's draws for the field's laws, and the number of a text: each returns numbers, and leaves what was there as it was. Each asks that its bytes can be read.
-/
import Derived.Test.YtoipcoidcaijjaaDoorCur
namespace Go.Proofs.YtoipcoidcaijjaaDoor
open Go.RowKit

theorem cur_new {w : World} {cv : Value} (h : RdB w cv) : CurS (w.alloc (.cells #[cv, .int .i64 0, .int .u64 0] 86)) w.heap.size cv 0 := by
  refine ⟨⟨0, 0, Nat.le_refl _, heap_alloc_new w _⟩, fun w' hg => ?_⟩
  have hb : Below w.heap.size w w' := ((Below.refl _ _).alloc (Nat.le_refl _) _).grown hg (by simp) (fun k hk => by simp at hk; omega)
  exact h.below hb
theorem cur_below {w w' : World} {cv : Value} (hg : (w.alloc (.cells #[cv, .int .i64 0, .int .u64 0] 86)).grownBy w' (some w.heap.size)) : Below w.heap.size w w' :=
  ((Below.refl _ _).alloc (Nat.le_refl _) _).grown hg (by simp) (fun k hk => by simp at hk; omega)

set_option maxRecDepth 100000 in
set_option maxHeartbeats 800000 in
theorem numberOf_calls (cv : Value) (w : World) (h : RdB w cv) :
    Calls Tryd.prog 23 #[cv] w fun e w' => ∃ n : Nat, n < 1000003 ∧ e = .returned (.int .i64 n) ∧ w = w' := by
  obtain ⟨a, cap, zs, rfl, h1, h2, h3⟩ := h
  have H := hide h3
  clear h3
  go_enter Tryd.func23, Tryd.ntmps23
  go_wp2
  go_loop [3, 8] (fun vn vi => ∃ k n : Nat, k ≤ zs.length ∧ vi = .int .i64 k ∧ vn = .int .i64 n ∧ n < 1000003) (fun _ vi => zs.length - (intOf vi).toNat)
  case atStart => exact ⟨0, 0, Nat.zero_le _, rfl, rfl, by omega⟩
  case round =>
    obtain ⟨k, n, hk, rfl, rfl, hn⟩ := hrel
    by_cases hlt : k < zs.length
    · rcases H.out with h3 | ⟨b, off, rfl, hbs, hc⟩
      · subst h3; simp at hlt
      have hc1 := hc k hlt
      clear hc
      obtain ⟨z, hz⟩ : ∃ z, z = zs.getD k 0 := ⟨_, rfl⟩
      have hz256 : z < 256 := by rw [hz]; exact h2 k
      rw [← hz] at hc1
      clear hz
      go_wp2
      go_round
      case rel => exact ⟨k + 1, (31 * n + z) % 1000003, by omega, by go_num, Gf.int_eq (by simp), by omega⟩
      case measure => simp [intOf]; omega
    · obtain rfl : k = zs.length := by omega
      go_wp2
      go_ret
      exact ⟨n, hn, rfl, rfl⟩
end Go.Proofs.YtoipcoidcaijjaaDoor

/-
  The law of the program's product against its model's: at every pair of integers the call returns true and leaves memory as it was. The program's table of rests must hold its seven numbers.
-/
import Derived.Test.YtghehmoabioobaaDoorPub
namespace Go.Proofs.YtghehmoabioobaaDoor
open Go.RowKit

set_option maxRecDepth 100000 in
set_option maxHeartbeats 400000 in
theorem fnExactMulGf_walk (a b : Int) (w : World) (hT : Gf.Tab w) (_ : (Lit.int .i64 a).wf = true) (_ : (Lit.int .i64 b).wf = true) :
    Calls Tryd.prog 5 #[.int .i64 a, .int .i64 b] w fun e w' => e = .returned (.bool true) ∧ Below w.heap.size w w' := by
  have HT : Hid (Gf.Tab w) := hT
  clear hT
  by_cases h : 0 ≤ a ∧ a ≤ 255 ∧ 0 ≤ b ∧ b ≤ 255
  · obtain ⟨h1, h2, h3, h4⟩ := h
    go_enter Tryd.func5, Tryd.ntmps5
    go_wp2_with (first | (go_at_call 16; refine (Gf.sMulGf_good _ _ _ h1 h2 h3 h4).mono ?_; rintro e w' ⟨rfl, rfl⟩) | (go_at_call 15; refine (Gf.mulGf_good _ _ _ HT.out h1 h2 h3 h4).mono ?_; rintro e w' ⟨rfl, rfl⟩))
    go_ret
    exact ⟨rfl, Below.refl _ _⟩
  · have H : a < 0 ∨ 255 < a ∨ b < 0 ∨ 255 < b := by omega
    clear h
    go_enter Tryd.func5, Tryd.ntmps5
    go_wp2_with (first | (go_at_call 16; refine (Gf.sMulGf_bad _ _ _ H).mono ?_; rintro e w' ⟨rfl, rfl⟩) | (go_at_call 15; refine (Gf.mulGf_bad _ _ _ H).mono ?_; rintro e w' ⟨rfl, rfl⟩))
    go_ret
    exact ⟨rfl, Below.refl _ _⟩
end Go.Proofs.YtghehmoabioobaaDoor

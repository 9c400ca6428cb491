/-
  The small functions of the field that later chapters call (products, quotients, inverses): the program's and its model's, call by call; memory stays as it was. The program's table of rests must hold its seven numbers where the program's own functions reckon.
-/
import Derived.Test.YtiojipicincgfaaDoorPow
import Derived.Test.YtiojipicincgfaaDoorEl
namespace Go.Proofs.YtiojipicincgfaaDoor
open Go.RowKit
namespace Gf

theorem tab_setCell {B : Nat} {w w' : World} (hT : Tab w) (h0 : 1 < B) (hb : Below B w w') : Tab w' := fun k hk => (hb.cell (p := ⟨1, k, none⟩) h0).trans (hT k hk)
theorem tab_pos {w : World} (hT : Tab w) : 1 < w.heap.size := by
  have h := hT 0 (by decide)
  unfold World.cell? at h
  cases hh : w.heap[1]? with
  | none => simp [hh] at h
  | some o => exact (Array.getElem?_eq_some_iff.1 hh).1
theorem Tab.below {w w' : World} (hT : Tab w) (hb : Below w.heap.size w w') : Tab w' := tab_setCell hT (tab_pos hT) hb

set_option maxRecDepth 100000 in
set_option maxHeartbeats 400000 in
theorem inv_calls (a : Int) (w : World) (hT : Tab w) (ha0 : 0 ≤ a) (ha : a < 256) :
    Calls Tryd.prog 90 #[.int .i64 a] w fun e w' => e = .returned (.int .i64 (inv a.toNat : Nat)) ∧ w = w' := by
  have HT : Hid (Tab w) := hT
  clear hT
  go_enter Tryd.func90, Tryd.ntmps90
  go_wp2_with (go_at_call 92; refine (powE_calls _ _ _ HT.out (by omega) (by omega) (by omega) (by omega)).mono ?_; rintro e w' ⟨rfl, rfl⟩)
  go_ret
  exact ⟨rfl, rfl⟩
set_option maxRecDepth 100000 in
set_option maxHeartbeats 400000 in
theorem l1Div_calls (a b : Int) (w : World) (ha0 : 0 ≤ a) (ha : a < 256) (hb0 : 0 ≤ b) (hb : b < 256) :
    Calls Tryd.prog 84 #[.int .i64 a, .int .i64 b] w fun e w' => e = .returned (.int .i64 (mul a.toNat (inv b.toNat) : Nat)) ∧ w = w' := by
  have hi := inv_lt b.toNat
  have hi2 : ((inv b.toNat : Nat) : Int) < 256 := by omega
  go_enter Tryd.func84, Tryd.ntmps84
  go_wp2_with (first | (go_at_call 91; refine (l1Pow_calls _ _ _ (by omega) (by omega) (by omega) (by omega)).mono ?_; rintro e w' ⟨rfl, rfl⟩) | (go_at_call 83; refine (l1Mul_calls _ _ _ (by omega) (by omega) (Int.natCast_nonneg _) (by exact hi2)).mono ?_; rintro e w' ⟨rfl, rfl⟩))
  go_ret
  exact ⟨rfl, rfl⟩

set_option maxRecDepth 100000 in
set_option maxHeartbeats 400000 in

theorem Tab.drewN {w : World} (h : Tab w) (n : Nat) : Tab (w.drewN n) := h.below (below_drewN' n)
theorem xor_val {m : Nat} {z : Int} (hm : m < 256) (h0 : 0 ≤ z) (h : z ≤ 255) : bits .xor .i64 (m : Int) z = ((m ^^^ z.toNat : Nat) : Int) := by
  obtain ⟨Z, rfl⟩ := Int.eq_ofNat_of_zero_le h0
  rw [Int.toNat_natCast]
  exact i64_xor _ _ (by omega) (by omega)
theorem inv_ne {a : Nat} (ha : a < 256) (h0 : a ≠ 0) : inv a ≠ 0 := by
  intro h
  have := mul_inv a ha h0
  rw [h, mul_zero] at this
  cases this
theorem xor_lt {a b : Nat} (ha : a < 256) (hb : b < 256) : a ^^^ b < 256 := Nat.xor_lt_two_pow (n := 8) ha hb
theorem xor_zero_eq {a b : Nat} (h : a ^^^ b = 0) : a = b := by
  have := congrArg (fun t => t ^^^ b) h
  simp only [Nat.xor_assoc, Nat.xor_self, Nat.xor_zero, Nat.zero_xor] at this
  exact this
theorem mul_left (a b c : Nat) (ha : a < 256) (hb : b < 256) (hc : c < 256) : mul a (mul b c) = mul b (mul a c) := by
  rw [← mul_assoc a b c ha hb hc, mul_comm a b ha hb, mul_assoc b a c hb ha hc]

end Gf
end Go.Proofs.YtiojipicincgfaaDoor

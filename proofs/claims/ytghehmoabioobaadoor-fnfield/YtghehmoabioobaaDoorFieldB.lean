/-
  What the field's law leans on: sums, and each public function of the field held against its model at every argument; the orders of elements by a table. The program's table of rests must hold its seven numbers where the program's own functions are called.
-/
import Derived.Test.YtghehmoabioobaaDoorOrder
import Derived.Test.YtghehmoabioobaaDoorPoly
namespace Go.Proofs.YtghehmoabioobaaDoor
open Go.RowKit
namespace Gf

set_option maxRecDepth 100000 in
theorem addGf_good (a b : Int) (w : World) (ha0 : 0 ≤ a) (ha : a ≤ 255) (hb0 : 0 ≤ b) (hb : b ≤ 255) :
    Calls Tryd.prog 17 #[.int .i64 a, .int .i64 b] w fun e w' => e = .returned (.tuple #[.int .i64 (a.toNat ^^^ b.toNat : Nat), .bool true]) ∧ w = w' := by
  have e : bits .xor .i64 a b = ((a.toNat ^^^ b.toNat : Nat) : Int) := by
    obtain ⟨A, rfl⟩ := Int.eq_ofNat_of_zero_le ha0
    obtain ⟨B, rfl⟩ := Int.eq_ofNat_of_zero_le hb0
    exact i64_xor A B (by omega) (by omega)
  have E := hide e
  have ha2 : a < 256 := by omega
  have hb2 : b < 256 := by omega
  clear e
  go_enter Tryd.func17, Tryd.ntmps17
  go_wp2_with (go_at_call 47; refine (isE_yes _ _ (by omega) (by omega)).mono ?_; rintro e w' ⟨rfl, rfl⟩)
  go_ret2
  exact ⟨ret_pair E.out, rfl⟩
set_option maxRecDepth 100000 in
theorem sAddGf_good (a b : Int) (w : World) (ha0 : 0 ≤ a) (ha : a ≤ 255) (hb0 : 0 ≤ b) (hb : b ≤ 255) :
    Calls Tryd.prog 18 #[.int .i64 a, .int .i64 b] w fun e w' => e = .returned (.tuple #[.int .i64 (a.toNat ^^^ b.toNat : Nat), .bool true]) ∧ w = w' := by
  have e : bits .xor .i64 a b = ((a.toNat ^^^ b.toNat : Nat) : Int) := by
    obtain ⟨A, rfl⟩ := Int.eq_ofNat_of_zero_le ha0
    obtain ⟨B, rfl⟩ := Int.eq_ofNat_of_zero_le hb0
    exact i64_xor A B (by omega) (by omega)
  have E := hide e
  clear e
  go_enter Tryd.func18, Tryd.ntmps18
  go_wp2_with (go_at_call 49; refine (l1Gf_yes _ _ (by omega) (by omega)).mono ?_; rintro e w' ⟨rfl, rfl⟩)
  go_ret2
  exact ⟨ret_pair E.out, rfl⟩
set_option maxRecDepth 100000 in
set_option maxHeartbeats 400000 in
theorem addGf_bad (a b : Int) (w : World) (h : a < 0 ∨ 255 < a ∨ b < 0 ∨ 255 < b) :
    Calls Tryd.prog 17 #[.int .i64 a, .int .i64 b] w fun e w' => e = .returned (.tuple #[.int .i64 0, .bool false]) ∧ w = w' := by
  cases h1 : elOk a with
  | false =>
    have E := hide h1
    clear h1 h
    go_enter Tryd.func17, Tryd.ntmps17
    go_wp2_with (go_at_call 47; refine (isE_calls _ _).mono ?_; rw [E.out]; rintro e w' ⟨rfl, rfl⟩)
    go_ret2
    exact ⟨rfl, rfl⟩
  | true =>
    have h2 : elOk b = false := elOk_no.2 (by have := elOk_iff.1 h1; omega)
    have E := hide h1
    have E2 := hide h2
    clear h1 h2 h
    go_enter Tryd.func17, Tryd.ntmps17
    go_wp2_with fail
    refine (isE_calls _ _).mono ?_
    rw [E.out]
    rintro e w' ⟨rfl, rfl⟩
    go_wp2_with fail
    refine (isE_calls _ _).mono ?_
    rw [E2.out]
    rintro e w' ⟨rfl, rfl⟩
    go_wp2
    go_ret2
    exact ⟨rfl, rfl⟩
set_option maxRecDepth 100000 in
set_option maxHeartbeats 400000 in
theorem sAddGf_bad (a b : Int) (w : World) (h : a < 0 ∨ 255 < a ∨ b < 0 ∨ 255 < b) :
    Calls Tryd.prog 18 #[.int .i64 a, .int .i64 b] w fun e w' => e = .returned (.tuple #[.int .i64 0, .bool false]) ∧ w = w' := by
  cases h1 : elOk a with
  | false =>
    have E := hide h1
    clear h1 h
    go_enter Tryd.func18, Tryd.ntmps18
    go_wp2_with (go_at_call 49; refine (l1Gf_calls _ _).mono ?_; rw [E.out]; rintro e w' ⟨rfl, rfl⟩)
    go_ret2
    exact ⟨rfl, rfl⟩
  | true =>
    have h2 : elOk b = false := elOk_no.2 (by have := elOk_iff.1 h1; omega)
    have E := hide h1
    have E2 := hide h2
    clear h1 h2 h
    go_enter Tryd.func18, Tryd.ntmps18
    go_wp2_with fail
    refine (l1Gf_calls _ _).mono ?_
    rw [E.out]
    rintro e w' ⟨rfl, rfl⟩
    go_wp2_with fail
    refine (l1Gf_calls _ _).mono ?_
    rw [E2.out]
    rintro e w' ⟨rfl, rfl⟩
    go_wp2
    go_ret2
    exact ⟨rfl, rfl⟩

theorem pow_both (u n : Int) : ∃ (r : Int) (ok : Bool), (∀ w, Tab w → Calls Tryd.prog 25 #[.int .i64 u, .int .i64 n] w fun e w' => e = .returned (.tuple #[.int .i64 r, .bool ok]) ∧ w = w') ∧
    (∀ w, Calls Tryd.prog 26 #[.int .i64 u, .int .i64 n] w fun e w' => e = .returned (.tuple #[.int .i64 r, .bool ok]) ∧ w = w') := by
  by_cases h : 0 ≤ u ∧ u ≤ 255 ∧ 0 ≤ n ∧ n ≤ 100000
  · exact ⟨_, true, fun w hT => powGf_good u n w hT h.1 h.2.1 h.2.2.1 h.2.2.2, fun w => sPowGf_good u n w h.1 h.2.1 h.2.2.1 h.2.2.2⟩
  · exact ⟨0, false, fun w _ => powGf_bad u n w (by omega), fun w => sPowGf_bad u n w (by omega)⟩
theorem order_both (t : Int) : (∃ T : Nat, t = T ∧ 1 ≤ T ∧ T ≤ 255 ∧ (∀ w, Tab w → Calls Tryd.prog 28 #[.int .i64 t] w fun e w' => e = .returned (.tuple #[.int .i64 (ord T : Nat), .bool true]) ∧ w = w') ∧
      (∀ w, Calls Tryd.prog 29 #[.int .i64 t] w fun e w' => e = .returned (.tuple #[.int .i64 (ord T : Nat), .bool true]) ∧ w = w')) ∨
    ((∀ w, Tab w → Calls Tryd.prog 28 #[.int .i64 t] w fun e w' => e = .returned (.tuple #[.int .i64 0, .bool false]) ∧ w = w') ∧
      (∀ w, Calls Tryd.prog 29 #[.int .i64 t] w fun e w' => e = .returned (.tuple #[.int .i64 0, .bool false]) ∧ w = w')) := by
  by_cases h : 1 ≤ t ∧ t ≤ 255
  · left
    obtain ⟨T, rfl⟩ := Int.eq_ofNat_of_zero_le (show 0 ≤ t by omega)
    exact ⟨T, rfl, by omega, by omega, fun w hT => orderGf_good T w hT h.1 h.2, fun w => sOrderGf_good T w h.1 h.2⟩
  · right
    exact ⟨fun w _ => orderGf_bad t w (by omega), fun w => sOrderGf_bad t w (by omega)⟩
theorem ord_tab : allB 255 (fun a => (fun o => Nat.blt 0 o && Nat.blt o 256 && pow (a + 1) o == 1 && 255 % o == 0) (ord (a + 1))) = true := by decide +kernel
theorem ord_facts (T : Nat) (h0 : 1 ≤ T) (h : T ≤ 255) : 1 ≤ ord T ∧ ord T ≤ 255 ∧ pow T (ord T) = 1 ∧ 255 % ord T = 0 := by
  have := allB_of ord_tab (T - 1) (by omega)
  have e : T - 1 + 1 = T := by omega
  simp only [e, Bool.and_eq_true, Nat.blt_eq, beq_iff_eq] at this
  omega
end Gf
end Go.Proofs.YtghehmoabioobaaDoor

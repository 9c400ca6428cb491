/-
  The order of an element, as the program and its model find it; the law that holds the two against each other. The program's table of rests must hold its seven numbers where the program's own function is called.
-/
import Derived.Test.YtghehmoabioobaaDoorPub
namespace Go.Proofs.YtghehmoabioobaaDoor
open Go.RowKit
namespace Gf

theorem ret_pair {a b : Int} {c : Bool} (h : a = b) : Ending.returned (.tuple #[.int .i64 a, .bool c]) = .returned (.tuple #[.int .i64 b, .bool c]) := by rw [h]
theorem okOrd_tab : allB 255 (fun a => okOrd 255 (a + 1) (a + 1)) = true := by decide +kernel
theorem okOrd_all (a : Nat) (h0 : 0 < a) (h : a < 256) : okOrd 255 a a = true := by
  have := allB_of okOrd_tab (a - 1) (by omega)
  have e : a - 1 + 1 = a := by omega
  simpa only [e] using this
theorem og_step {f x a n T : Nat} (hx : x < 256) (hok : okOrd f x a = true) (h1 : x ≠ 1) (he : og f x a n = T) :
    ∃ f', f = f' + 1 ∧ okOrd f' (mul x a) a = true ∧ og f' (mul x a) a (n + 1) = T ∧ mul x a < 256 := by
  cases f with
  | zero => simp [okOrd] at hok
  | succ f =>
    simp only [okOrd, Bool.or_eq_true, beq_iff_eq, h1, false_or] at hok
    rw [og, if_neg h1] at he
    exact ⟨f, rfl, hok, he, mul_lt hx⟩
theorem og_end {f a n T : Nat} (hok : okOrd f 1 a = true) (he : og f 1 a n = T) : n = T := by
  cases f with
  | zero => simp [okOrd] at hok
  | succ f => rw [og, if_pos rfl] at he; exact he

set_option maxRecDepth 100000 in
set_option maxHeartbeats 400000 in
theorem orderGf_good (a : Int) (w : World) (hT : Tab w) (ha0 : 1 ≤ a) (ha : a ≤ 255) :
    Calls Tryd.prog 28 #[.int .i64 a] w fun e w' => e = .returned (.tuple #[.int .i64 (ord a.toNat : Nat), .bool true]) ∧ w = w' := by
  obtain ⟨A, rfl⟩ := Int.eq_ofNat_of_zero_le (show 0 ≤ a by omega)
  simp only [Int.toNat_natCast]
  have hok := okOrd_all A (by omega) (by omega)
  have HT : Hid (Tab w ∧ okOrd 255 A A = true) := ⟨hT, hok⟩
  clear hT hok
  have ha1 : (0 : Int) ≤ A := by omega
  have ha2 : (A : Int) < 256 := by omega
  have hb3 : ((A : Int) == 0) = false := by simp; omega
  go_enter Tryd.func28, Tryd.ntmps28
  go_wp2_with (go_at_call 47; refine (isE_yes _ _ (by omega) (by omega)).mono ?_; rintro e w' ⟨rfl, rfl⟩)
  go_loop [4, 5] (fun vn vx => ∃ f x n : Nat, x < 256 ∧ f + n = 256 ∧ vx = .int .i64 x ∧ vn = .int .i64 n ∧ okOrd f x A = true ∧ og f x A n = ord A) (fun vn _ => 300 - (intOf vn).toNat)
  case atStart => exact ⟨255, A, 1, by omega, by omega, rfl, rfl, HT.out.2, rfl⟩
  case round =>
    obtain ⟨f, x, n, hx, hfn, rfl, rfl, hok, he⟩ := hrel
    have He : Hid (f + n = 256 ∧ okOrd f x A = true ∧ og f x A n = ord A) := ⟨hfn, hok, he⟩
    have hn : n ≤ 256 := by omega
    clear he hok hfn
    by_cases h1 : x = 1
    · subst h1
      go_wp2
      go_ret2
      exact ⟨ret_pair (by rw [og_end He.out.2.1 He.out.2.2]), rfl⟩
    · have h1' : ((x : Int) != 1) = true := by rw [bne_iff_ne]; omega
      obtain ⟨f', e1, e2, e3, e4⟩ := og_step hx He.out.2.1 h1 He.out.2.2
      have K : Hid (f = f' + 1 ∧ okOrd f' (mul x A) A = true ∧ og f' (mul x A) A (n + 1) = ord A ∧ mul x A < 256) := ⟨e1, e2, e3, e4⟩
      clear e1 e2 e3 e4
      go_wp2_with (go_at_call 48; refine (mulE_calls _ _ _ HT.out.1 (by omega) (by omega) (by omega) (by omega)).mono ?_; rintro e w' ⟨rfl, rfl⟩)
      obtain ⟨e1, e2, e3, e4⟩ := K.out
      have hfn := He.out.1
      exact ⟨⟨f', mul x A, n + 1, e4, by omega, rfl, by go_num, e2, e3⟩, by simp [intOf]; omega⟩
set_option maxRecDepth 100000 in
set_option maxHeartbeats 400000 in
theorem sOrderGf_good (a : Int) (w : World) (ha0 : 1 ≤ a) (ha : a ≤ 255) :
    Calls Tryd.prog 29 #[.int .i64 a] w fun e w' => e = .returned (.tuple #[.int .i64 (ord a.toNat : Nat), .bool true]) ∧ w = w' := by
  obtain ⟨A, rfl⟩ := Int.eq_ofNat_of_zero_le (show 0 ≤ a by omega)
  simp only [Int.toNat_natCast]
  have hok := okOrd_all A (by omega) (by omega)
  have HT : Hid (okOrd 255 A A = true) := hok
  clear hok
  go_enter Tryd.func29, Tryd.ntmps29
  go_wp2_with (go_at_call 56; refine (l1In_yes _ _ _ _ (by omega) (by omega)).mono ?_; rintro e w' ⟨rfl, rfl⟩)
  go_loop [4, 5] (fun vn vx => ∃ f x n : Nat, x < 256 ∧ f + n = 256 ∧ vx = .int .i64 x ∧ vn = .int .i64 n ∧ okOrd f x A = true ∧ og f x A n = ord A) (fun vn _ => 300 - (intOf vn).toNat)
  case atStart => exact ⟨255, A, 1, by omega, by omega, rfl, rfl, HT.out, rfl⟩
  case round =>
    obtain ⟨f, x, n, hx, hfn, rfl, rfl, hok, he⟩ := hrel
    have He : Hid (f + n = 256 ∧ okOrd f x A = true ∧ og f x A n = ord A) := ⟨hfn, hok, he⟩
    have hn : n ≤ 256 := by omega
    clear he hok hfn
    by_cases h1 : x = 1
    · subst h1
      go_wp2
      go_ret2
      exact ⟨ret_pair (by rw [og_end He.out.2.1 He.out.2.2]), rfl⟩
    · have h1' : ((x : Int) != 1) = true := by rw [bne_iff_ne]; omega
      obtain ⟨f', e1, e2, e3, e4⟩ := og_step hx He.out.2.1 h1 He.out.2.2
      have K : Hid (f = f' + 1 ∧ okOrd f' (mul x A) A = true ∧ og f' (mul x A) A (n + 1) = ord A ∧ mul x A < 256) := ⟨e1, e2, e3, e4⟩
      clear e1 e2 e3 e4
      go_wp2_with (go_at_call 50; refine (l1Mul_calls _ _ _ (by omega) (by omega) (by omega) (by omega)).mono ?_; rintro e w' ⟨rfl, rfl⟩)
      obtain ⟨e1, e2, e3, e4⟩ := K.out
      have hfn := He.out.1
      exact ⟨⟨f', mul x A, n + 1, e4, by omega, rfl, by go_num, e2, e3⟩, by simp [intOf]; omega⟩
set_option maxRecDepth 100000 in
theorem orderGf_bad (a : Int) (w : World) (h : a < 1 ∨ 255 < a) :
    Calls Tryd.prog 28 #[.int .i64 a] w fun e w' => e = .returned (.tuple #[.int .i64 0, .bool false]) ∧ w = w' := by
  by_cases h1 : 0 ≤ a
  · by_cases h2 : a < 256
    · obtain rfl : a = 0 := by omega
      go_enter Tryd.func28, Tryd.ntmps28
      go_wp2
      go_ret2
      exact ⟨rfl, rfl⟩
    · go_enter Tryd.func28, Tryd.ntmps28
      go_wp2
      go_ret2
      exact ⟨rfl, rfl⟩
  · go_enter Tryd.func28, Tryd.ntmps28
    go_wp2
    go_ret2
    exact ⟨rfl, rfl⟩
set_option maxRecDepth 100000 in
theorem sOrderGf_bad (a : Int) (w : World) (h : a < 1 ∨ 255 < a) :
    Calls Tryd.prog 29 #[.int .i64 a] w fun e w' => e = .returned (.tuple #[.int .i64 0, .bool false]) ∧ w = w' := by
  by_cases h1 : 1 ≤ a
  · have h2 : ¬ a ≤ 255 := by omega
    go_enter Tryd.func29, Tryd.ntmps29
    go_wp2
    go_ret2
    exact ⟨rfl, rfl⟩
  · go_enter Tryd.func29, Tryd.ntmps29
    go_wp2
    go_ret2
    exact ⟨rfl, rfl⟩
end Gf

set_option maxRecDepth 100000 in
set_option maxHeartbeats 400000 in
theorem fnExactOrderGf_walk (a : Int) (w : World) (hT : Gf.Tab w) (_ : (Lit.int .i64 a).wf = true) :
    Calls Tryd.prog 10 #[.int .i64 a] w fun e w' => e = .returned (.bool true) ∧ Below w.heap.size w w' := by
  have HT : Hid (Gf.Tab w) := hT
  clear hT
  by_cases h : 1 ≤ a ∧ a ≤ 255
  · obtain ⟨h1, h2⟩ := h
    go_enter Tryd.func10, Tryd.ntmps10
    go_wp2_with (first | (go_at_call 29; refine (Gf.sOrderGf_good _ _ h1 h2).mono ?_; rintro e w' ⟨rfl, rfl⟩) | (go_at_call 28; refine (Gf.orderGf_good _ _ HT.out h1 h2).mono ?_; rintro e w' ⟨rfl, rfl⟩))
    go_ret
    exact ⟨rfl, Below.refl _ _⟩
  · have H : a < 1 ∨ 255 < a := by omega
    clear h
    go_enter Tryd.func10, Tryd.ntmps10
    go_wp2_with (first | (go_at_call 29; refine (Gf.sOrderGf_bad _ _ H).mono ?_; rintro e w' ⟨rfl, rfl⟩) | (go_at_call 28; refine (Gf.orderGf_bad _ _ H).mono ?_; rintro e w' ⟨rfl, rfl⟩))
    go_ret
    exact ⟨rfl, Below.refl _ _⟩
end Go.Proofs.YtghehmoabioobaaDoor

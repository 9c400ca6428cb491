/-
  The finger of a window, by the program and by its model, call by call. No condition but that it is a text.
-/
import Derived.Test.YtaamkkfjafedgaaBti
namespace Go.Proofs.Ytaamkkfjafedgaa
open Go.RowKit Go.Shelf
set_option linter.unusedVariables false
attribute [local go_sem] Oper.semAt_some

def fingR (s : ByteArray) : Int × Bool := if s.size = 4 then (((fg (bs s) : Nat) : Int), true) else (0, false)
theorem fg_step (s : ByteArray) (k : Nat) (h : k < s.size) : fg ((bs s).take (k + 1)) = rf (fg ((bs s).take k)) 0 ((bs s).getD k 0) := by
  rw [take_snoc9 _ k (by rw [bs_length]; exact h), fg_snoc, rf_zero]
theorem bs_take_all (s : ByteArray) : (bs s).take s.size = bs s := List.take_of_length_le (by rw [bs_length]; exact Nat.le_refl _)
theorem bs_small (s : ByteArray) (k : Nat) : (bs s).getD k 0 < 256 := getD_lt (bs_lt s) k

set_option maxRecDepth 100000 in
set_option maxHeartbeats 400000 in
theorem l9Finger_calls (s : ByteArray) (w : World) (hn : s.size ≤ 1048576) :
    Calls Try.prog 69 #[.string s] w fun e w' => e = .returned (.int .i64 (fg (bs s) : Nat)) ∧ w = w' := by
  go_enter Try.func69, Try.ntmps69
  go_wp2
  go_loop [3, 4] (fun vs vi => ∃ k : Nat, k ≤ s.size ∧ vi = .int .i64 k ∧ vs = .int .i64 (fg ((bs s).take k) : Nat)) (fun _ vi => s.size - (intOf vi).toNat)
  case atStart => exact ⟨0, by omega, rfl, rfl⟩
  case round =>
    obtain ⟨k, hk, rfl, rfl⟩ := hrel
    have hy := fg_lt ((bs s).take k)
    by_cases hlt : k < s.size
    · have hst := hide (fg_step s k hlt)
      have hzz := bs_at9 s k hlt
      have hz2 := bs_small s k
      generalize fg ((bs s).take k) = y at hy hst ⊢
      generalize (bs s).getD k 0 = z at hst hzz hz2
      have hzz' := hzz.symm
      have E : Hid (((y : Int) * 257 + z) % 8191 = ((rf y 0 z : Nat) : Int)) := by show _ = _; rw [rf_zero]; omega
      clear hzz
      go_wp2
      go_round
      case rel => exact ⟨k + 1, by omega, by go_num, int_eq (by rw [hst.out, ← E.out])⟩
      case measure => simp [intOf]; omega
    · obtain rfl : k = s.size := by omega
      rw [bs_take_all]
      go_wp2
      go_ret
      exact ⟨rfl, rfl⟩

set_option maxRecDepth 100000 in
set_option maxHeartbeats 400000 in
theorem sFingerOf_calls (s : ByteArray) (w : World) (hn : s.size ≤ 1048576) :
    Calls Try.prog 27 #[.string s] w fun e w' => e = .returned (.tuple #[.int .i64 (fingR s).1, .bool (fingR s).2]) ∧ Below w.heap.size w w' := by
  by_cases h4 : s.size = 4
  · rw [show fingR s = (((fg (bs s) : Nat) : Int), true) from if_pos h4]
    have h4' : (s.size : Int) = 4 := by omega
    go_enter Try.func27, Try.ntmps27
    go_wp2_with fail
    refine (l9Finger_calls s _ hn).mono ?_
    rintro e w1 ⟨rfl, rfl⟩
    go_wp2
    go_ret2
    exact ⟨rfl, Below.refl _ _⟩
  · rw [show fingR s = (0, false) from if_neg h4]
    have h4' : ((s.size : Int) == 4) = false := by simp; omega
    go_enter Try.func27, Try.ntmps27
    go_wp2
    go_ret2
    exact ⟨rfl, Below.refl _ _⟩

set_option maxRecDepth 100000 in
set_option maxHeartbeats 1000000 in
theorem fingerOf_calls (s : ByteArray) (w : World) (hn : s.size ≤ 1048576) :
    Calls Try.prog 26 #[.string s] w fun e w' => e = .returned (.tuple #[.int .i64 (fingR s).1, .bool (fingR s).2]) ∧ Below w.heap.size w w' := by
  by_cases h4 : s.size = 4
  case neg =>
    rw [show fingR s = (0, false) from if_neg h4]
    have h4' : ((s.size : Int) == 4) = false := by simp; omega
    go_enter Try.func26, Try.ntmps26
    go_wp2
    go_ret2
    exact ⟨rfl, Below.refl _ _⟩
  rw [show fingR s = (((fg (bs s) : Nat) : Int), true) from if_pos h4]
  have h4' : (s.size : Int) = 4 := by omega
  have H4 := hide h4
  clear h4
  obtain ⟨n, _⟩ : ∃ n : Nat, True := ⟨0, trivial⟩
  refine (callsIn_wide (n := n)).1 (callsIn_of_wp_marks Try.func26 rfl trivial ?_ rfl)
  simp only [Try.ntmps26, List.size_toArray, List.length_cons, List.length_nil, Nat.reduceAdd, Nat.reduceSub, Array.replicate_succ, Array.replicate_zero, List.push_toArray, List.append_toArray, List.nil_append, List.cons_append]
  gi_wp2_with fail
  refine wide_call (bytesIn_calls s _) ?_
  rintro e w1 ⟨rfl, rfl⟩
  have b0 : Hid (Boxed ((w.alloc (.cells #[.int .i64 0] 3)).alloc (.cells #[.string s] 9)) w.heap.size 3 (.int .i64 0)) := (Boxed.new w _ _).alloc _
  have b1 : Hid (Boxed ((w.alloc (.cells #[.int .i64 0] 3)).alloc (.cells #[.string s] 9)) (w.heap.size + 1) 9 (.string s)) := by
    have := Boxed.new (w.alloc (.cells #[.int .i64 0] 3)) 9 (.string s)
    rwa [World.size_alloc] at this
  have b2 : Hid (Below w.heap.size w ((w.alloc (.cells #[.int .i64 0] 3)).alloc (.cells #[.string s] 9))) := ((Below.refl _ w).alloc (Nat.le_refl _) _).alloc (by simp) _
  have hsz : ((w.alloc (.cells #[.int .i64 0] 3)).alloc (.cells #[.string s] 9)).heap.size = w.heap.size + 2 := by simp
  rw [World.size_alloc]
  gi_wp2
  generalize (w.alloc (.cells #[.int .i64 0] 3)).alloc (.cells #[.string s] 9) = w0 at b0 b1 b2 hsz ⊢
  refine wp_rangeI (gf := 91) (lb := #[.pointer (some ⟨w.heap.size + 1, 0, none⟩)]) rfl (enters_of Try.func91 (by kernel_rfl) rfl) (bytes1_iter s (w.heap.size + 1) hn) ?ps
    (fun i W => Boxed W w.heap.size 3 (.int .i64 (fg ((bs s).take i) : Nat)) ∧ Boxed W (w.heap.size + 1) 9 (.string s) ∧ Below w.heap.size w W) ?ab (fun i A h => h.2.1.cell) ⟨b0.out, b1.out, b2.out⟩ ?round ?done
  case ps => intro x hx; obtain ⟨k, hk⟩ := List.getElem?_of_mem hx; rw [(byteArgs_some hk).2]; rfl
  case ab =>
    rintro i A B ⟨h1, h2, h3⟩ hs
    rw [hsz] at hs
    exact ⟨hs.boxed h1 (.inl (by omega)), hs.boxed h2 (.inl (by omega)), hs.below h3 (by omega) (Nat.le_refl _)⟩
  case round =>
    intro n' l i x W hx hi _
    obtain ⟨hlt, rfl⟩ := byteArgs_some hx
    have hst := hide (fg_step s i hlt)
    have hy := fg_lt ((bs s).take i)
    have hz := bs_small s i
    generalize (bs s).getD i 0 = z at hst hz
    gi_wp2
    refine ⟨trivial, ?_⟩
    rintro W2 ⟨c1, c2, c3⟩ hW2
    have hc1 := c1.cell
    have hf1 := c1.frozen
    have C1 := hide c1
    clear c1
    generalize fg ((bs s).take i) = y at hst hy hc1 C1
    gi_wp2_with fail
    refine round_call (rollFinger_calls y 0 z _ hy (by omega) hz) ?_
    rintro e w1 ⟨rfl, rfl⟩
    gi_wp2
    refine ⟨Keep.setCell _ (.inl (by show w.heap.size < _; omega)), ?_, boxed_other c2 (by omega) _, c3.setCell (p := ⟨w.heap.size, 0, none⟩) (Nat.le_refl _) _⟩
    rw [hst.out]
    exact C1.out.set _
  case done =>
    rintro W ⟨c1, c2, c3⟩ hD _
    rw [byteArgs_length, bs_take_all] at c1
    have hc1 := c1.cell
    gi_wp2
    refine ⟨by simp, .inl ⟨_, _, rfl, run_takeDeferred hD, ?_⟩⟩
    refine ⟨_, results_tmp2 rfl _ _ _, ?_⟩
    exact ⟨rfl, (Spar.putObj (lo := w.heap.size) (c0 := 0) (c1 := 0) _ hD rfl (by omega)).below c3 (Nat.le_refl _) (Nat.le_refl _)⟩
end Go.Proofs.Ytaamkkfjafedgaa

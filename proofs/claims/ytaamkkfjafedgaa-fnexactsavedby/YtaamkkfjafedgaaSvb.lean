/-
  What is saved by keeping chunks once each: the program's SavedBy and its model's, call by call. No condition.
-/
import Derived.Test.YtaamkkfjafedgaaPd3
import Derived.Test.YtaamkkfjafedgaaJch
namespace Go.Proofs.Ytaamkkfjafedgaa
open Go.RowKit
set_option linter.unusedVariables false

def savR (xs : List ByteArray) : Int × Int × Bool := if dedOk xs then (((fl9 xs).length : Int), ((fl9 (dedF xs).1).length : Int), true) else (0, 0, false)
theorem rdM_slice9 {w : World} {v : Value} {m : List (List Int)} (h : RdM w v m) : ∃ a cap, v = .slice a m.length cap := by
  obtain ⟨a, cap, rfl, _⟩ := h
  exact ⟨a, cap, rfl⟩
theorem rdT_slice9 {w : World} {v : Value} {m : List ByteArray} (h : RdT w v m) : ∃ a cap, v = .slice a m.length cap := by
  obtain ⟨a, cap, rfl, _⟩ := h
  exact ⟨a, cap, rfl⟩
theorem ded_sizes (xs : List ByteArray) (h : dedOk xs) : (dedF xs).1.length ≤ 2400 ∧ ∀ i, i < (dedF xs).1.length → ((dedF xs).1.getD i ⟨#[]⟩).size ≤ 300 := by
  have h1 := dedF_len xs xs.length (Nat.le_refl _) h.2
  have h2 := dedF_all xs xs.length (Nat.le_refl _) h.2
  rw [List.take_length] at h1 h2
  refine ⟨by have := h.1; omega, fun i hi => h2 _ ?_⟩
  rw [List.getD_eq_getElem?_getD, List.getElem?_eq_getElem hi]
  exact List.getElem_mem hi

theorem below_drewN {B : Nat} {w W : World} (h : Below B w W) (n : Nat) : Below B w (W.drewN n) := by
  cases n <;> exact ⟨h.os, h.tape, h.output, h.size, h.block⟩
theorem quiet_same9 {P : Program} {f : FuncId} {args : Array Value} {w : World} {n : Nat} {v : Value}
    (h : Calls P f args (w.drewN n) fun e w' => e = .returned v ∧ w.drewN n = w') : Calls P f args (w.drewN n) fun e w'' => e = .returned v ∧ ∃ m, w'' = w.drewN m :=
  h.mono fun _ _ ⟨he, hm⟩ => ⟨he, n, hm.symm⟩

set_option maxRecDepth 100000 in
set_option maxHeartbeats 800000 in
theorem savedBy_calls (v : Value) (xs : List ByteArray) (w : World) (h : RdT w v xs) :
    Calls Try.prog 31 #[v] w fun e w' => e = .returned (.tuple #[.int .i64 (savR xs).1, .int .i64 (savR xs).2.1, .bool (savR xs).2.2]) ∧ Below w.heap.size w w' := by
  have R := hide h
  obtain ⟨av, cv, rfl⟩ := rdT_slice9 h
  clear h
  by_cases hok : dedOk xs
  case neg =>
    have er : savR xs = (0, 0, false) := if_neg hok
    rw [er]
    have ed : dedR xs = ([], [], false) := if_neg hok
    have DC := dedupAll_calls _ xs w R.out
    rw [ed] at DC
    have DD := hide DC
    clear er ed hok DC
    go_enter Try.func31, Try.ntmps31
    go_wp2_with fail
    refine DD.out.mono ?_
    rintro e w1 ⟨vc, vu, rfl, rc, ru, b1⟩
    obtain ⟨ac, cc, rfl⟩ := rdT_slice9 rc
    obtain ⟨au, cu, rfl⟩ := rdM_slice9 ru
    have S2 : Hid (∀ o, Below w.heap.size w (w1.alloc o)) := fun o => b1.alloc b1.size o
    clear rc ru b1
    go_wp2
    go_ret3
    exact ⟨rfl, S2.out _⟩
  have hsz := ded_sizes xs hok
  have er : savR xs = (((fl9 xs).length : Int), ((fl9 (dedF xs).1).length : Int), true) := if_pos hok
  rw [er]
  have ed : dedR xs = ((dedF xs).1, (dedF xs).2, true) := if_pos hok
  have DC := dedupAll_calls _ xs w R.out
  rw [ed] at DC
  have DD := hide DC
  have HOK := hide hok
  have HSZ := hide hsz
  clear er ed hok hsz DC
  generalize dedF xs = D at DD HSZ ⊢
  obtain ⟨C, U⟩ := D
  simp only at DD HSZ ⊢
  go_enter Try.func31, Try.ntmps31
  go_wp2_with fail
  refine DD.out.mono ?_
  rintro e w1 ⟨vc, vu, rfl, rc, ru, b1⟩
  have RC := hide rc
  have B1 := hide b1
  obtain ⟨ac, cc, rfl⟩ := rdT_slice9 rc
  obtain ⟨au, cu, rfl⟩ := rdM_slice9 ru
  clear rc ru b1
  have S2 : Hid (∀ o n, Below w.heap.size w ((w1.alloc o).drewN n)) := fun o n => below_drewN (B1.out.alloc B1.out.size o) n
  have CB1 : Hid (∀ o n, Calls Try.prog 58 #[.slice av xs.length cv] ((w1.alloc o).drewN n) fun e w' => e = .returned (.int .i64 ((fl9 xs).length : Int)) ∧ (w1.alloc o).drewN n = w') := fun o n => countBytes_calls _ xs _ (R.out.below (S2.out o n)) (by have := HOK.out.1; omega) (fun i hi => by have := HOK.out.2 i hi; omega)
  have CB2 : Hid (∀ o n, Calls Try.prog 58 #[.slice ac C.length cc] ((w1.alloc o).drewN n) fun e w' => e = .returned (.int .i64 ((fl9 C).length : Int)) ∧ (w1.alloc o).drewN n = w') := fun o n => countBytes_calls _ C _ (RC.out.below (below_drewN ((Below.refl w1.heap.size w1).alloc (Nat.le_refl _) o) n)) (by have := HSZ.out.1; omega) (fun i hi => by have := HSZ.out.2 i hi; omega)
  go_wp2
  go_quiet ((go_at_call 58; first | with_reducible exact quiet_same9 (CB1.out _ _) | with_reducible exact quiet_same9 (CB2.out _ _)))
  go_wp2
  go_ret3
  exact ⟨rfl, S2.out _ _⟩
set_option maxRecDepth 100000 in
set_option maxHeartbeats 800000 in
theorem sSavedBy_calls (v : Value) (xs : List ByteArray) (w : World) (h : RdT w v xs) :
    Calls Try.prog 32 #[v] w fun e w' => e = .returned (.tuple #[.int .i64 (savR xs).1, .int .i64 (savR xs).2.1, .bool (savR xs).2.2]) ∧ Below w.heap.size w w' := by
  have R := hide h
  obtain ⟨av, cv, rfl⟩ := rdT_slice9 h
  clear h
  by_cases hok : dedOk xs
  case neg =>
    have er : savR xs = (0, 0, false) := if_neg hok
    rw [er]
    have ed : dedR xs = ([], [], false) := if_neg hok
    have DC := sDedupAll_calls _ xs w R.out
    rw [ed] at DC
    have DD := hide DC
    clear er ed hok DC
    go_enter Try.func32, Try.ntmps32
    go_wp2_with fail
    refine DD.out.mono ?_
    rintro e w1 ⟨vc, vu, rfl, rc, ru, b1⟩
    obtain ⟨ac, cc, rfl⟩ := rdT_slice9 rc
    obtain ⟨au, cu, rfl⟩ := rdM_slice9 ru
    have S2 : Hid (∀ o, Below w.heap.size w (w1.alloc o)) := fun o => b1.alloc b1.size o
    clear rc ru b1
    go_wp2
    go_ret3
    exact ⟨rfl, S2.out _⟩
  have hsz := ded_sizes xs hok
  have er : savR xs = (((fl9 xs).length : Int), ((fl9 (dedF xs).1).length : Int), true) := if_pos hok
  rw [er]
  have ed : dedR xs = ((dedF xs).1, (dedF xs).2, true) := if_pos hok
  have DC := sDedupAll_calls _ xs w R.out
  rw [ed] at DC
  have DD := hide DC
  have HOK := hide hok
  have HSZ := hide hsz
  clear er ed hok hsz DC
  generalize dedF xs = D at DD HSZ ⊢
  obtain ⟨C, U⟩ := D
  simp only at DD HSZ ⊢
  go_enter Try.func32, Try.ntmps32
  go_wp2_with fail
  refine DD.out.mono ?_
  rintro e w1 ⟨vc, vu, rfl, rc, ru, b1⟩
  have RC := hide rc
  have B1 := hide b1
  obtain ⟨ac, cc, rfl⟩ := rdT_slice9 rc
  obtain ⟨au, cu, rfl⟩ := rdM_slice9 ru
  clear rc ru b1
  have S2 : Hid (∀ o n, Below w.heap.size w ((w1.alloc o).drewN n)) := fun o n => below_drewN (B1.out.alloc B1.out.size o) n
  have H3a := hide (R.out.below (S2.out (.cells #[.slice ac C.length cc, .slice au U.length cu] 44) 0))
  have H3c := hide (RC.out.below (below_drewN ((Below.refl w1.heap.size w1).alloc (Nat.le_refl _) (.cells #[.slice ac C.length cc, .slice au U.length cu] 44)) 0))
  have x1 : Boxed2 (w1.alloc (.cells #[.slice ac C.length cc, .slice au U.length cu] 44)) w1.heap.size 44 (.slice ac C.length cc) (.slice au U.length cu) := boxed2_new w1 _ _ _
  have c0 := x1.c0
  have S3 := hide (S2.out (.cells #[.slice ac C.length cc, .slice au U.length cu] 44) 0)
  have CZ : Hid (∀ i, i < C.length → (C.getD i ⟨#[]⟩).size ≤ 1048576) := fun i hi => Nat.le_trans (HSZ.out.2 i hi) (by decide)
  have XZ : Hid (∀ i, i < xs.length → (xs.getD i ⟨#[]⟩).size ≤ 1048576) := fun i hi => Nat.le_trans (HOK.out.2 i hi) (by decide)
  have hx8 := HOK.out.1
  have hC8 := HSZ.out.1
  clear x1
  go_wp2
  generalize w1.alloc (.cells #[.slice ac C.length cc, .slice au U.length cu] 44) = w2 at H3a H3c c0 S3 ⊢
  have H3b : Hid (RdT w2 (.slice av xs.length cv) xs) := H3a.out
  have H3d : Hid (RdT w2 (.slice ac C.length cc) C) := H3c.out
  have S4 : Hid (Below w.heap.size w w2) := S3.out
  clear H3a H3c S3
  go_loop [7, 22] (fun va vi => ∃ k : Nat, k ≤ xs.length ∧ vi = .int .i64 k ∧ va = .int .i64 ((fl9 (xs.take k)).length : Int)) (fun _ vi => xs.length - (intOf vi).toNat)
  case atStart => exact ⟨0, Nat.zero_le _, rfl, rfl⟩
  case round =>
    obtain ⟨k, hk, rfl, rfl⟩ := hrel
    have hfl := fl9_len xs k hk XZ.out
    by_cases hlt : k < xs.length
    · obtain ⟨a', cap', hv, _, _, _, h3⟩ := H3b.out
      rcases h3 with h3 | ⟨b, off, rfl, hbs, hc⟩
      · subst h3; simp at hlt
      simp only [Value.slice.injEq] at hv
      obtain ⟨rfl, _, rfl⟩ := hv
      have hc1 := hc k hlt
      have hz := XZ.out k hlt
      have hst : Hid ((fl9 (xs.take (k + 1))).length = (fl9 (xs.take k)).length + (xs.getD k ⟨#[]⟩).size) := by show _ = _; rw [fl9_snoc xs k hlt, List.length_append, bs_length]
      generalize xs.getD k ⟨#[]⟩ = z at hc1 hz hst
      generalize (fl9 (xs.take k)).length = y at hfl hst ⊢
      have hlt' : (k : Int) < (xs.length : Int) := by omega
      clear hc c0
      go_wp2
      go_round
      case rel => exact ⟨k + 1, by omega, by go_num, int_eq (by rw [hst.out]; omega)⟩
      case measure => simp [intOf]; omega
    · obtain rfl : k = xs.length := by omega
      rw [List.take_length]
      have hlt' : ¬ (xs.length : Int) < (xs.length : Int) := by omega
      clear hfl
      go_wp2
      go_loop [10, 34] (fun va vi => ∃ k : Nat, k ≤ C.length ∧ vi = .int .i64 k ∧ va = .int .i64 ((fl9 (C.take k)).length : Int)) (fun _ vi => C.length - (intOf vi).toNat)
      case atStart => exact ⟨0, Nat.zero_le _, rfl, rfl⟩
      case round =>
        obtain ⟨k, hk, rfl, rfl⟩ := hrel
        have hfl := fl9_len C k hk CZ.out
        by_cases hlt : k < C.length
        · obtain ⟨a', cap', hv, _, _, _, h3⟩ := H3d.out
          rcases h3 with h3 | ⟨b, off, rfl, hbs, hc⟩
          · rw [h3] at hlt; simp at hlt
          simp only [Value.slice.injEq] at hv
          obtain ⟨rfl, _, rfl⟩ := hv
          have hc1 := hc k hlt
          have hz := CZ.out k hlt
          have hst : Hid ((fl9 (C.take (k + 1))).length = (fl9 (C.take k)).length + (C.getD k ⟨#[]⟩).size) := by show _ = _; rw [fl9_snoc C k hlt, List.length_append, bs_length]
          generalize C.getD k ⟨#[]⟩ = z at hc1 hz hst
          generalize (fl9 (C.take k)).length = y at hfl hst ⊢
          have hlt' : (k : Int) < (C.length : Int) := by omega
          clear hc c0
          go_wp2
          go_round
          case rel => exact ⟨k + 1, by omega, by go_num, int_eq (by rw [hst.out]; omega)⟩
          case measure => simp [intOf]; omega
        · obtain rfl : k = C.length := by omega
          rw [List.take_length]
          have hlt' : ¬ (C.length : Int) < (C.length : Int) := by omega
          clear hfl
          go_wp2
          go_ret3
          exact ⟨rfl, S4.out⟩
end Go.Proofs.Ytaamkkfjafedgaa

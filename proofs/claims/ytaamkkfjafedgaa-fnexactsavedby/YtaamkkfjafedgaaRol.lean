/-
  Fingers rolled on, by the program and by its model, call by call. No condition.
-/
import Derived.Test.YtaamkkfjafedgaaTxm
import Derived.Test.YtaamkkfjafedgaaFgm
namespace Go.Proofs.Ytaamkkfjafedgaa
open Go.RowKit
set_option linter.unusedVariables false

set_option maxRecDepth 100000 in
theorem isByte_yes (n : Int) (w : World) (h0 : 0 ≤ n) (h1 : n < 256) : Calls Try.prog 62 #[.int .i64 n] w fun e w' => e = .returned (.bool true) ∧ w = w' := by
  go_enter Try.func62, Try.ntmps62
  go_wp2
  go_ret
  exact ⟨rfl, rfl⟩
set_option maxRecDepth 100000 in
theorem isByte_no (n : Int) (w : World) (h : n < 0 ∨ 256 ≤ n) : Calls Try.prog 62 #[.int .i64 n] w fun e w' => e = .returned (.bool false) ∧ w = w' := by
  rcases h with h | h
  · have h' : ¬ 0 ≤ n := by omega
    go_enter Try.func62, Try.ntmps62
    go_wp2
    go_ret
    exact ⟨rfl, rfl⟩
  · have h0 : 0 ≤ n := by omega
    have hd : decide (n < 256) = false := decide_eq_false (by omega)
    have h' : ¬ n < 256 := by omega
    go_enter Try.func62, Try.ntmps62
    go_wp2
    go_ret
    exact ⟨rfl, rfl⟩
set_option maxRecDepth 100000 in
theorem rollFinger_calls (f o i : Nat) (w : World) (hf : f < 8191) (ho : o < 256) (hi : i < 256) :
    Calls Try.prog 63 #[.int .i64 f, .int .i64 o, .int .i64 i] w fun e w' => e = .returned (.int .i64 (rf f o i : Nat)) ∧ w = w' := by
  have hr : Hid (((f : Int) * 257 + i + o * 7053) % 8191 = ((rf f o i : Nat) : Int)) := by show _ = _; unfold rf; omega
  generalize rf f o i = y at hr ⊢
  go_enter Try.func63, Try.ntmps63
  go_wp2
  go_ret
  exact ⟨ret_int hr.out, rfl⟩

abbrev rollOk (f o i : Int) : Prop := (0 ≤ f ∧ f < 8191) ∧ (0 ≤ o ∧ o < 256) ∧ (0 ≤ i ∧ i < 256)
def rollR (f o i : Int) : Int × Bool := if rollOk f o i then ((rf f.toNat o.toNat i.toNat : Nat), true) else (0, false)

set_option maxRecDepth 100000 in
set_option maxHeartbeats 400000 in
theorem rollOn_calls (f o i : Int) (w : World) :
    Calls Try.prog 23 #[.int .i64 f, .int .i64 o, .int .i64 i] w fun e w' => e = .returned (.tuple #[.int .i64 (rollR f o i).1, .bool (rollR f o i).2]) ∧ Below w.heap.size w w' := by
  by_cases hf : 0 ≤ f
  case neg =>
    rw [show rollR f o i = (0, false) from if_neg (fun h => hf h.1.1)]
    have h' : f < 0 := by omega
    go_enter Try.func23, Try.ntmps23
    go_wp2
    go_ret2
    exact ⟨rfl, Below.refl _ _⟩
  have hf' : ¬ f < 0 := by omega
  have hfb : decide (f < 0) = false := decide_eq_false hf'
  by_cases hg : f < 8191
  case neg =>
    rw [show rollR f o i = (0, false) from if_neg (fun h => hg h.1.2)]
    have h' : 8191 ≤ f := by omega
    go_enter Try.func23, Try.ntmps23
    go_wp2
    go_ret2
    exact ⟨rfl, Below.refl _ _⟩
  have hg' : ¬ 8191 ≤ f := by omega
  have hgb : decide (8191 ≤ f) = false := decide_eq_false hg'
  by_cases ho : 0 ≤ o ∧ o < 256
  case neg =>
    rw [show rollR f o i = (0, false) from if_neg (fun h => ho h.2.1)]
    go_enter Try.func23, Try.ntmps23
    go_wp2_with fail
    refine (isByte_no _ _ (by omega)).mono ?_
    rintro e w1 ⟨rfl, rfl⟩
    go_wp2
    go_ret2
    exact ⟨rfl, Below.refl _ _⟩
  by_cases hi : 0 ≤ i ∧ i < 256
  case neg =>
    rw [show rollR f o i = (0, false) from if_neg (fun h => hi h.2.2)]
    go_enter Try.func23, Try.ntmps23
    go_wp2_with fail
    refine (isByte_yes _ _ ho.1 ho.2).mono ?_
    rintro e w1 ⟨rfl, rfl⟩
    go_wp2_with fail
    refine (isByte_no _ _ (by omega)).mono ?_
    rintro e w1 ⟨rfl, rfl⟩
    go_wp2
    go_ret2
    exact ⟨rfl, Below.refl _ _⟩
  rw [show rollR f o i = (((rf f.toNat o.toNat i.toNat : Nat) : Int), true) from if_pos ⟨⟨hf, hg⟩, ho, hi⟩]
  obtain ⟨f, rfl⟩ := Int.eq_ofNat_of_zero_le hf
  obtain ⟨o, rfl⟩ := Int.eq_ofNat_of_zero_le ho.1
  obtain ⟨i, rfl⟩ := Int.eq_ofNat_of_zero_le hi.1
  simp only [Int.toNat_natCast] at *
  go_enter Try.func23, Try.ntmps23
  go_wp2_with fail
  refine (isByte_yes _ _ (by omega) (by omega)).mono ?_
  rintro e w1 ⟨rfl, rfl⟩
  go_wp2_with fail
  refine (isByte_yes _ _ (by omega) (by omega)).mono ?_
  rintro e w1 ⟨rfl, rfl⟩
  go_wp2_with fail
  refine (rollFinger_calls f o i _ (by omega) (by omega) (by omega)).mono ?_
  rintro e w1 ⟨rfl, rfl⟩
  go_wp2
  go_ret2
  exact ⟨rfl, Below.refl _ _⟩

set_option maxRecDepth 100000 in
theorem l1Gf9_yes (n : Int) (w : World) (h0 : 0 ≤ n) (h1 : n < 256) : Calls Try.prog 65 #[.int .i64 n] w fun e w' => e = .returned (.bool true) ∧ w = w' := by
  go_enter Try.func65, Try.ntmps65
  go_wp2_with fail
  refine (l1In_yes _ _ _ _ h0 (by omega)).mono ?_
  rintro e w1 ⟨rfl, rfl⟩
  go_wp2
  go_ret
  exact ⟨rfl, rfl⟩
set_option maxRecDepth 100000 in
theorem l1Gf9_no (n : Int) (w : World) (h : n < 0 ∨ 256 ≤ n) : Calls Try.prog 65 #[.int .i64 n] w fun e w' => e = .returned (.bool false) ∧ w = w' := by
  go_enter Try.func65, Try.ntmps65
  go_wp2_with fail
  refine (l1In_no _ _ _ _ (by omega)).mono ?_
  rintro e w1 ⟨rfl, rfl⟩
  go_wp2
  go_ret
  exact ⟨rfl, rfl⟩
set_option maxRecDepth 100000 in
theorem l9Top_calls (w : World) : Calls Try.prog 66 #[] w fun e w' => e = .returned (.int .i64 2841) ∧ w = w' := by
  go_enter Try.func66, Try.ntmps66
  go_wp2
  refine wp_loop_rounds 4 ?_
  rw [rounds_succ]
  go_wp2
  rw [rounds_succ]
  go_wp2
  rw [rounds_succ]
  go_wp2
  rw [rounds_succ]
  go_wp2
  go_ret
  exact ⟨rfl, rfl⟩

set_option maxRecDepth 100000 in
set_option maxHeartbeats 400000 in
theorem sRollOn_calls (f o i : Int) (w : World) :
    Calls Try.prog 24 #[.int .i64 f, .int .i64 o, .int .i64 i] w fun e w' => e = .returned (.tuple #[.int .i64 (rollR f o i).1, .bool (rollR f o i).2]) ∧ Below w.heap.size w w' := by
  by_cases hf : 0 ≤ f ∧ f < 8191
  case neg =>
    rw [show rollR f o i = (0, false) from if_neg (fun h => hf h.1)]
    go_enter Try.func24, Try.ntmps24
    go_wp2_with fail
    refine (l1In_no _ _ _ _ (by omega)).mono ?_
    rintro e w1 ⟨rfl, rfl⟩
    go_wp2
    go_ret2
    exact ⟨rfl, Below.refl _ _⟩
  by_cases ho : 0 ≤ o ∧ o < 256
  case neg =>
    rw [show rollR f o i = (0, false) from if_neg (fun h => ho h.2.1)]
    go_enter Try.func24, Try.ntmps24
    go_wp2_with fail
    refine (l1In_yes _ _ _ _ hf.1 (by omega)).mono ?_
    rintro e w1 ⟨rfl, rfl⟩
    go_wp2_with fail
    refine (l1Gf9_no _ _ (by omega)).mono ?_
    rintro e w1 ⟨rfl, rfl⟩
    go_wp2
    go_ret2
    exact ⟨rfl, Below.refl _ _⟩
  by_cases hi : 0 ≤ i ∧ i < 256
  case neg =>
    rw [show rollR f o i = (0, false) from if_neg (fun h => hi h.2.2)]
    go_enter Try.func24, Try.ntmps24
    go_wp2_with fail
    refine (l1In_yes _ _ _ _ hf.1 (by omega)).mono ?_
    rintro e w1 ⟨rfl, rfl⟩
    go_wp2_with fail
    refine (l1Gf9_yes _ _ ho.1 ho.2).mono ?_
    rintro e w1 ⟨rfl, rfl⟩
    go_wp2_with fail
    refine (l1Gf9_no _ _ (by omega)).mono ?_
    rintro e w1 ⟨rfl, rfl⟩
    go_wp2
    go_ret2
    exact ⟨rfl, Below.refl _ _⟩
  rw [show rollR f o i = (((rf f.toNat o.toNat i.toNat : Nat) : Int), true) from if_pos ⟨hf, ho, hi⟩]
  obtain ⟨f, rfl⟩ := Int.eq_ofNat_of_zero_le hf.1
  obtain ⟨o, rfl⟩ := Int.eq_ofNat_of_zero_le ho.1
  obtain ⟨i, rfl⟩ := Int.eq_ofNat_of_zero_le hi.1
  simp only [Int.toNat_natCast] at *
  have hr : Hid (((((f : Int) + 2096896 - o * 2841) % 8191) * 257 + i) % 8191 = ((rf f o i : Nat) : Int)) := by
    show _ = _
    rw [← rf_model f o i (by omega) (by omega)]
    omega
  generalize rf f o i = y at hr ⊢
  have h1 : 0 ≤ (f : Int) + 2096896 - o * 2841 := by omega
  have h2 : (f : Int) + 2096896 - o * 2841 < 3000000 := by omega
  go_enter Try.func24, Try.ntmps24
  go_wp2_with fail
  refine (l1In_yes _ _ _ _ (by omega) (by omega)).mono ?_
  rintro e w1 ⟨rfl, rfl⟩
  go_wp2_with fail
  refine (l1Gf9_yes _ _ (by omega) (by omega)).mono ?_
  rintro e w1 ⟨rfl, rfl⟩
  go_wp2_with fail
  refine (l1Gf9_yes _ _ (by omega) (by omega)).mono ?_
  rintro e w1 ⟨rfl, rfl⟩
  go_wp2_with fail
  refine (l9Top_calls _).mono ?_
  rintro e w1 ⟨rfl, rfl⟩
  go_wp2
  go_ret2
  refine ⟨?_, Below.refl _ _⟩
  rw [← hr.out]
  rfl
end Go.Proofs.Ytaamkkfjafedgaa

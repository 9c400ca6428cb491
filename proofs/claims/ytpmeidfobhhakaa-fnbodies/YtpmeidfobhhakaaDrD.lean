/-
  The model's drawing of bodies and sectors out of bytes, call by call. Each contract says what it asks.
-/
import Derived.Test.YtpmeidfobhhakaaDrB
namespace Go.Proofs.Ytpmeidfobhhakaa
open Go.RowKit
set_option linter.unusedVariables false

set_option maxRecDepth 100000 in
set_option maxHeartbeats 1600000 in
theorem body_calls (g : Nat) (cv : Value) (k : Nat) (w : World) (h : CurS w g cv k) (hk : k ≤ 900000000) :
    Calls Try.prog 30 #[.pointer (some ⟨g, 0, none⟩)] w fun e w' => ∃ s : ByteArray, s.size ≤ 161 ∧ e = .returned (.string s) ∧ CurS w' g cv (k + 20) ∧ w.grownBy w' (some g) := by
  have H := hide h
  clear h
  go_enter Try.func30, Try.ntmps30
  go_wp2_with fail
  refine (pick_calls g cv k 6 _ H.out (by omega) (by omega) (by omega)).mono ?_
  rintro e w1 ⟨r1, hr1, rfl, hc1, hg1⟩
  have C1 := hide hc1
  have G1 := hide hg1
  clear hc1 hg1 H
  go_wp2
  go_loopw [3, 4] (fun vs vn wr => ∃ (j m : Nat) (s : ByteArray), j + m = 1 + r1 ∧ vn = .int .i64 m ∧ vs = .string s ∧ s.size ≤ 16 * j ∧ CurS wr g cv (k + 2 + 2 * j) ∧ w.grownBy wr (some g)) (fun _ vn _ => (intOf vn).toNat)
  case atStart => exact ⟨0, 1 + r1, ⟨#[]⟩, by omega, int_eq (by omega), rfl, by decide, C1.out, G1.out⟩
  case round =>
    obtain ⟨j, m, s, hjm, rfl, rfl, hsz, hc, hg⟩ := hrel
    have JM := hide hjm
    have hm5 : m ≤ 6 := by omega
    have hj5 : j ≤ 6 := by omega
    have hlt : g < wr.heap.size := curS_lt hc
    have C3 := hide hc
    have G3 := hide hg
    clear hjm hc hg
    by_cases hm0 : 0 < m
    · have hm0' : (0 : Int) < (m : Int) := by omega
      go_wp2_with fail
      refine (of_calls g cv _ [⟨#[97]⟩, ⟨#[116, 101, 110, 32, 98, 121, 116, 101, 115, 46]⟩, ⟨#[115, 105, 120, 116, 101, 101, 110, 32, 98, 121, 116, 101, 115, 32, 46, 46]⟩, ⟨#[]⟩] (k + 2 + 2 * j) 16 _ (C3.out.alloc _) (by omega) (rdS_build hlt) (by decide) (by decide) (by decide)).mono ?_
      rintro e w4 ⟨t, ht, rfl, hc4, hg4⟩
      have C4 := hide hc4
      have G4 := hide (grown_trans G3.out (grown_trans (World.grownBy_alloc _ _ _) hg4))
      clear hc4 hg4 C3 G3
      have hadd := run_string_add_sum (P := Try.prog) (w := w4) s t (by omega)
      go_wp2
      go_roundw
      case rel => exact ⟨j + 1, m - 1, s ++ t, by have := JM.out; omega, int_eq (by omega), rfl, by rw [ByteArray.size_append]; omega, C4.out.mono (by omega), G4.out⟩
      case measure => simp [intOf]; omega
    · obtain rfl : m = 0 := by omega
      go_wp2_with fail
      refine (one_calls g cv _ 20 _ C3.out (by omega) (by omega) (by omega)).mono ?_
      rintro e w4 ⟨b, rfl, hc4, hg4⟩
      have C4 := hide hc4
      have G4 := hide (grown_trans G3.out hg4)
      clear hc4 hg4 C3 G3
      cases b with
      | true =>
        go_wp2_with fail
        refine (pick_calls g cv _ 3 _ C4.out (by omega) (by omega) (by omega)).mono ?_
        rintro e w5 ⟨r2, hr2, rfl, hc5, hg5⟩
        have C5 := hide hc5
        have G5 := hide (grown_trans G4.out hg5)
        clear hc5 hg5 C4 G4
        go_wp2_with (at_make; refine wpList_make_bytes rfl _ _ rfl w5.heap.size _ _ (159 + r2) rfl rfl (by omega) (by omega) (by omega) (Nat.le_refl _) ?_)
        intro w6 hown hgrow
        have hcv := conv_zero hown
        have C6 := hide (C5.out.made hgrow)
        have G6 := hide (grown_trans G5.out (grown_wide hgrow))
        clear hgrow hown C5 G5
        go_wp2
        go_ret
        exact ⟨zst (159 + r2), by rw [zst_size]; omega, rfl, C6.out.mono (by omega), G6.out⟩
      | false =>
        go_wp2
        go_ret
        exact ⟨s, by omega, rfl, C4.out.mono (by omega), G4.out⟩

theorem CurS.drewN {w : World} {g k : Nat} {cv : Value} (h : CurS w g cv k) (n : Nat) : CurS (w.drewN n) g cv k := ⟨h.at_, fun w' hg => h.code w' ⟨hg.os, hg.tape, hg.output, hg.size, hg.block⟩⟩
theorem grown_drewN {w w' : World} {r : Option Nat} (h : w.grownBy w' r) (n : Nat) : w.grownBy (w'.drewN n) r := ⟨h.os, h.tape, h.output, h.size, h.block⟩
theorem ext_size (s : ByteArray) (i j : Nat) : (s.extract i j).size ≤ s.size := by
  rw [← bs_length, bs_mid, List.length_take, List.length_drop, bs_length]
  omega
theorem ext_size0 (s : ByteArray) (j : Nat) (h : j ≤ s.size) : (s.extract 0 j).size = j := by
  rw [← bs_length, bs_mid, List.length_take, List.length_drop, bs_length]
  omega
theorem ext_sizen (s : ByteArray) (i : Nat) : (s.extract i s.size).size = s.size - i := by
  rw [← bs_length, bs_drop, List.length_drop, bs_length]

set_option maxRecDepth 100000 in
set_option maxHeartbeats 1600000 in
theorem spoilt_calls (g : Nat) (cv : Value) (k : Nat) (t : ByteArray) (w : World) (h : CurS w g cv k) (hk : k ≤ 900000000) (ht : t.size ≤ 100) :
    Calls Try.prog 49 #[.pointer (some ⟨g, 0, none⟩), .string t, .string ⟨#[0, 1, 255]⟩] w fun e w' => ∃ s : ByteArray, s.size ≤ 200 ∧ e = .returned (.string s) ∧ CurS w' g cv (k + 30) ∧ w.grownBy w' (some g) := by
  have H := hide h
  clear h
  go_enter Try.func49, Try.ntmps49
  go_wp2_with fail
  refine (pick_calls g cv k 3 _ H.out (by omega) (by omega) (by omega)).mono ?_
  rintro e w1 ⟨r1, hr1, rfl, hc1, hg1⟩
  have C1 := hide hc1
  have G1 := hide hg1
  clear hc1 hg1 H
  go_wp2
  go_loopw [1, 7] (fun vs vn wr => ∃ (j m : Nat) (s : ByteArray), j + m = r1 ∧ vn = .int .i64 m ∧ vs = .string s ∧ s.size ≤ 100 + j ∧ CurS wr g cv (k + 2 + 6 * j) ∧ w.grownBy wr (some g)) (fun _ vn _ => (intOf vn).toNat)
  case atStart => exact ⟨0, r1, t, by omega, rfl, rfl, by omega, C1.out, G1.out⟩
  case round =>
    obtain ⟨j, m, s, hjm, rfl, rfl, hsz, hc, hg⟩ := hrel
    have JM := hide hjm
    have hm5 : m ≤ 3 := by omega
    have hj5 : j ≤ 3 := by omega
    have C3 := hide hc
    have G3 := hide hg
    clear hjm hc hg
    by_cases hm0 : 0 < m
    case neg =>
      have hm0' : ¬ (0 : Int) < (m : Int) := by omega
      go_wp2
      go_ret
      exact ⟨s, by omega, rfl, C3.out.mono (by omega), G3.out⟩
    by_cases hs0 : 0 < s.size
    case neg =>
      have hm0' : (0 : Int) < (m : Int) := by omega
      have hs0' : ¬ (0 : Int) < (s.size : Int) := by omega
      have hs0b : decide ((0 : Int) < (s.size : Int)) = false := decide_eq_false hs0'
      go_wp2
      go_ret
      exact ⟨s, by omega, rfl, C3.out.mono (by omega), G3.out⟩
    have hm0' : (0 : Int) < (m : Int) := by omega
    have hs0' : (0 : Int) < (s.size : Int) := by omega
    go_wp2_with fail
    refine (pick_calls g cv _ s.size _ C3.out (by omega) (by omega) (by omega)).mono ?_
    rintro e w4 ⟨i, hi, rfl, hc4, hg4⟩
    have C4 := hide hc4
    have G4 := hide (grown_trans G3.out hg4)
    clear hc4 hg4 C3 G3
    go_wp2_with fail
    refine (pick_calls g cv _ 3 _ C4.out (by omega) (by omega) (by omega)).mono ?_
    rintro e w5 ⟨r5, hr5, rfl, hc5, hg5⟩
    have C5 := hide hc5
    have G5 := hide (grown_trans G4.out hg5)
    clear hc5 hg5 C4 G4
    obtain ⟨d, hd256, hd⟩ : ∃ d : Nat, d < 256 ∧ ∀ hh, ((⟨#[0, 1, 255]⟩ : ByteArray)[r5]'hh).toNat = d := by
      rcases (by omega : r5 = 0 ∨ r5 = 1 ∨ r5 = 2) with rfl | rfl | rfl
      · exact ⟨0, by omega, fun _ => rfl⟩
      · exact ⟨1, by omega, fun _ => rfl⟩
      · exact ⟨255, by omega, fun _ => rfl⟩
    have t5 : (r5 : Int) < 3 := by omega
    have hcv := byte_text d hd256 w5
    go_wp2_with fail
    refine (pick_calls g cv _ 3 _ (C5.out.alloc _) (by omega) (by omega) (by omega)).mono ?_
    rintro e w6 ⟨r6, hr6, rfl, hc6, hg6⟩
    have C6 := hide hc6
    have G6 := hide (grown_trans G5.out (grown_trans (World.grownBy_alloc _ _ _) hg6))
    clear hc6 hg6 C5 G5 hcv hd
    have e1 := ext_size0 s i (by omega)
    have e2 := ext_sizen s i
    have e3 := ext_sizen s (i + 1)
    have ed : (ofN [d]).size = 1 := by rw [ofN_size]; rfl
    have A1 := fun W : World => run_string_add_sum (P := Try.prog) (w := W) (s.extract 0 i) (ofN [d]) (by omega)
    have A2 := fun W : World => run_string_add_sum (P := Try.prog) (w := W) (s.extract 0 i ++ ofN [d]) (s.extract i s.size) (by rw [ByteArray.size_append]; omega)
    have A3 := fun W : World => run_string_add_sum (P := Try.prog) (w := W) (s.extract 0 i ++ ofN [d]) (s.extract (i + 1) s.size) (by rw [ByteArray.size_append]; omega)
    have A4 := fun W : World => run_string_add_sum (P := Try.prog) (w := W) (s.extract 0 i) (s.extract (i + 1) s.size) (by omega)
    have Z1 : Hid ((s.extract 0 i ++ ofN [d] ++ s.extract i s.size).size ≤ s.size + 1) := by show _ ≤ _; rw [ByteArray.size_append, ByteArray.size_append]; omega
    have Z2 : Hid ((s.extract 0 i ++ ofN [d] ++ s.extract (i + 1) s.size).size ≤ s.size + 1) := by show _ ≤ _; rw [ByteArray.size_append, ByteArray.size_append]; omega
    have Z3 : Hid ((s.extract 0 i ++ s.extract (i + 1) s.size).size ≤ s.size + 1) := by show _ ≤ _; rw [ByteArray.size_append]; omega
    clear e1 e2 e3 ed
    have i1 : (i : Int) ≤ (s.size : Int) := by omega
    have i2 : (i : Int) + 1 ≤ (s.size : Int) := by omega
    have i3 : IntKind.i64.wrap ((i : Int) + 1) = (i : Int) + 1 := by rw [IntKind.wrap_i64]; omega
    have i4 : ((i : Int) + 1).toNat = i + 1 := by omega
    rcases (by omega : r6 = 0 ∨ r6 = 1 ∨ r6 = 2) with rfl | rfl | rfl
    · go_wp2
      go_quiet (fail)
      go_wp2
      go_roundw
      case rel => exact ⟨j + 1, m - 1, _, by have := JM.out; omega, int_eq (by omega), rfl, by have := Z1.out; omega, (C6.out.drewN _).mono (by omega), grown_drewN G6.out _⟩
      case measure => simp [intOf]; omega
    · go_wp2
      go_quiet (fail)
      go_wp2
      go_roundw
      case rel => exact ⟨j + 1, m - 1, _, by have := JM.out; omega, int_eq (by omega), rfl, by have := Z2.out; omega, (C6.out.drewN _).mono (by omega), grown_drewN G6.out _⟩
      case measure => simp [intOf]; omega
    · go_wp2
      go_quiet (fail)
      go_wp2
      go_roundw
      case rel => exact ⟨j + 1, m - 1, _, by have := JM.out; omega, int_eq (by omega), rfl, by have := Z3.out; omega, (C6.out.drewN _).mono (by omega), grown_drewN G6.out _⟩
      case measure => simp [intOf]; omega

set_option maxRecDepth 100000 in
set_option maxHeartbeats 800000 in
theorem sector_calls (g : Nat) (cv : Value) (k : Nat) (w : World) (h : CurS w g cv k) (hk : k ≤ 800000000) :
    Calls Try.prog 37 #[.pointer (some ⟨g, 0, none⟩)] w fun e w' => ∃ s : ByteArray, s.size ≤ 200 ∧ e = .returned (.string s) ∧ CurS w' g cv (k + 50) ∧ w.grownBy w' (some g) := by
  have H := hide h
  clear h
  go_enter Try.func37, Try.ntmps37
  go_wp2_with fail
  refine (frame_calls g cv k _ H.out (by omega)).mono ?_
  rintro e w1 ⟨K, A, E, b, _, hb, rfl, hc1, hg1⟩
  have C1 := hide hc1
  have G1 := hide hg1
  clear hc1 hg1 H
  go_wp2_with fail
  refine (sFrameBytes_calls K A E b _ (by unfold maxLen; omega)).mono ?_
  rintro e w2 ⟨rfl, b2⟩
  have hs := frR_size K A E b
  generalize frR K A E b = R at hs ⊢
  obtain ⟨s, ok⟩ := R
  simp only [] at hs ⊢
  have C2 := hide (C1.out.made (below_grow b2 none))
  have G2 := hide (grown_trans G1.out (below_grow b2 _))
  clear b2 C1 G1
  go_wp2_with fail
  refine (one_calls g cv _ 3 _ C2.out (by omega) (by omega) (by omega)).mono ?_
  rintro e w3 ⟨y, rfl, hc3, hg3⟩
  have C3 := hide hc3
  have G3 := hide (grown_trans G2.out hg3)
  clear hc3 hg3 C2 G2
  cases y with
  | false =>
    go_wp2
    go_ret
    exact ⟨s, by omega, rfl, C3.out.mono (by omega), G3.out⟩
  | true =>
    go_wp2_with fail
    refine (spoilt_calls g cv _ s _ C3.out (by omega) (by omega)).mono ?_
    rintro e w4 ⟨t, ht, rfl, hc4, hg4⟩
    have C4 := hide hc4
    have G4 := hide (grown_trans G3.out hg4)
    clear hc4 hg4 C3 G3
    go_wp2
    go_ret
    exact ⟨t, ht, rfl, C4.out.mono (by omega), G4.out⟩
end Go.Proofs.Ytpmeidfobhhakaa

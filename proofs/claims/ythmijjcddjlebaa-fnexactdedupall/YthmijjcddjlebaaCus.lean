/-
  The cuts of a text by the model, call by call. No condition but that it is a text.
-/
import Derived.Test.YthmijjcddjlebaaCuo
namespace Go.Proofs.Ythmijjcddjlebaa
open Go.RowKit
set_option linter.unusedVariables false
set_option linter.unusedSimpArgs false

theorem bs_mid9 (s : ByteArray) (i j : Nat) : bs (s.extract i j) = ((bs s).take j).drop i := by
  unfold bs
  rw [ByteArray.data_extract, Array.toList_extract, List.extract_eq_take_drop, List.map_take, List.map_drop, List.take_drop]
  by_cases h : i ≤ j
  · rw [Nat.add_sub_cancel' h]
  · rw [List.drop_eq_nil_of_le (by rw [List.length_take]; omega), List.drop_eq_nil_of_le (by rw [List.length_take]; omega)]
theorem extract_size9 (s : ByteArray) (i j : Nat) (h : j ≤ s.size) : (s.extract i j).size = j - i := by
  rw [← bs_length, bs_mid9, List.length_drop, List.length_take, bs_length]
  omega
theorem cutAt_model (s : ByteArray) (a k : Nat) (h : k ≤ s.size) : cutAt (bs s) a k = (k == s.size || k - a == 20 || (decide (4 ≤ k - a) && fg (bs (s.extract (k - 4) k)) % 8 == 7)) := by
  unfold cutAt wnd
  rw [bs_length, bs_mid9]
theorem cutsI_succ_yes {s : ByteArray} {k : Nat} (h : cutAt (bs s) (lastC (bs s) k) (k + 1) = true) : (cutsN (bs s) (k + 1)).map (fun c : Nat => (c : Int)) = (cutsN (bs s) k).map (fun c : Nat => (c : Int)) ++ [((k : Int) + 1)] := by
  rw [cutsN_yes h, List.map_append]; rfl

theorem own_ge9 {w : World} {base k : Nat} {e : TypeId} {v : Value} {xs : List Value} (h : w.ownsRow base e 1 v k xs) : ∀ g, v.ownBlock = some g → base ≤ g := by
  intro g eg
  rcases h.2 with ⟨rfl, _⟩ | ⟨g', cap, cur, rfl, hb, _⟩
  · simp [Value.ownBlock] at eg
  · obtain rfl : g' = g := by simpa [Value.ownBlock] using eg
    exact hb

set_option maxRecDepth 100000 in
set_option maxHeartbeats 1000000 in
theorem l9Cuts_calls (s : ByteArray) (w : World) (hn : s.size ≤ 1048576) :
    Calls Try.prog 123 #[.string s] w fun e w' => ∃ v, e = .returned v ∧ Own w' w.heap.size v (cutsI s) ∧ Below w.heap.size w w' := by
  obtain ⟨i0, hi0, hz0, hz1, hz2⟩ := info_parts infoInt
  have IP := hide (And.intro hi0 (And.intro hz0 (And.intro hz1 hz2)))
  clear hi0 hz0 hz1 hz2
  have O0 : Hid (Own w w.heap.size (.slice none 0 0) []) := World.ownsRow_nil _ _ _ _
  go_enter Try.func123, Try.ntmps123
  go_wp2
  go_loopw [3, 4, 5] (fun vo vl vi wr => ∃ k : Nat, k ≤ s.size ∧ vi = .int .i64 ((k : Int) + 1) ∧ vl = .int .i64 (lastC (bs s) k : Nat) ∧ Own wr w.heap.size vo ((cutsN (bs s) k).map fun c : Nat => (c : Int)) ∧ Below w.heap.size w wr) (fun _ _ vi _ => s.size + 1 - (intOf vi).toNat)
  case atStart => exact ⟨0, Nat.zero_le _, rfl, rfl, O0.out, Below.refl _ _⟩
  case round =>
    obtain ⟨k, hk, rfl, rfl, hown, hb⟩ := hrel
    have O := hide hown
    have HB := hide hb
    have hbs := hb.size
    clear hown hb
    by_cases hlt : k < s.size
    · have hla := lastC_le (bs s) k
      have hcm := hide (cutAt_model s (lastC (bs s) k) (k + 1) (by omega))
      have hln := cutsN_len (bs s) k
      have hsz : ((cutsN (bs s) k).map fun c : Nat => (c : Int)).length ≤ k := by rw [List.length_map]; exact hln
      have YES : Hid (cutAt (bs s) (lastC (bs s) k) (k + 1) = true → ∀ v w1, w1.ownsRow w.heap.size 3 1 v (((cutsN (bs s) k).map fun c : Nat => (c : Int)).length + 1) (((cutsN (bs s) k).map fun c : Nat => (c : Int)).map (Value.int .i64) ++ [.int .i64 ((k : Int) + 1)]) → Own w1 w.heap.size v ((cutsN (bs s) (k + 1)).map fun c : Nat => (c : Int))) := by
        intro h v w1 ho
        show World.ownsRow _ _ _ _ _ _ _
        rw [cutsI_succ_yes h, List.length_append, List.map_append]
        exact ho
      have NO : Hid (cutAt (bs s) (lastC (bs s) k) (k + 1) = false → (cutsN (bs s) (k + 1)).map (fun c : Nat => (c : Int)) = (cutsN (bs s) k).map (fun c : Nat => (c : Int)) ∧ lastC (bs s) (k + 1) = lastC (bs s) k) := fun h => ⟨by rw [cutsN_no h], lastC_no h⟩
      have LY : Hid (cutAt (bs s) (lastC (bs s) k) (k + 1) = true → lastC (bs s) (k + 1) = k + 1) := lastC_yes
      have he : ((k : Int) + 1) - (lastC (bs s) k : Int) = ((k + 1 - lastC (bs s) k : Nat) : Int) := by omega
      have hm : k + 1 - lastC (bs s) k ≤ 1048577 := by omega
      have hlt' : (k : Int) + 1 ≤ (s.size : Int) := by omega
      have h4 : 4 ≤ k + 1 - lastC (bs s) k → k + 1 - 4 = k - 3 ∧ 3 ≤ k := by omega
      generalize (cutsN (bs s) k).map (fun c : Nat => (c : Int)) = L at O hsz YES NO
      generalize lastC (bs s) k = a at hla hcm he hm h4 YES NO LY ⊢
      generalize hmm : k + 1 - a = m at he hm h4 hcm
      have HMM := hide hmm
      clear hmm
      by_cases hend : k + 1 = s.size
      · have hend' : (k : Int) + 1 = (s.size : Int) := by omega
        have hct : Hid (cutAt (bs s) a (k + 1) = true) := by show _ = _; rw [hcm.out]; simp [hend]
        go_wp2_with (at_builtin; refine wpList_append_own (w := wr.alloc (.cells #[.int .i64 (s.size : Int)] 3)) rfl _ _ _ rfl w.heap.size 3 i0 (.int .i64 0) 1 8 Try.underlying41 IP.out.1 IP.out.2.1 IP.out.2.2.1 IP.out.2.2.2 rfl (by decide) _ _ _ rfl (O.out.alloc _) ⟨wr.heap.size, 0, none⟩ 1 1 [.int .i64 (s.size : Int)] rfl rfl (cell_one_new _ _ _) (by simp [Value.oneCell']) (by unfold maxLen; omega) (by omega) (by simp; omega) ?_)
        intro v' w1 o1 g1 _
        have B1 := hide ((HB.out.alloc hbs (.cells #[.int .i64 (s.size : Int)] 3)).grown g1 (by simp; omega) (own_ge9 O.out))
        have O1 := hide (YES.out hct.out _ _ (by rw [hend']; exact o1))
        clear o1 g1
        go_wp2
        go_roundw
        case rel => exact ⟨k + 1, by omega, int_eq (by omega), int_eq (by rw [LY.out hct.out]; omega), O1.out, B1.out⟩
        case measure => simp [intOf]; omega
      have hend' : ((k : Int) + 1 == (s.size : Int)) = false := by simp; omega
      by_cases h20 : m = 20
      · subst h20
        have hct : Hid (cutAt (bs s) a (k + 1) = true) := by show _ = _; rw [hcm.out]; simp [hend]
        go_wp2_with (at_builtin; refine wpList_append_own (w := wr.alloc (.cells #[.int .i64 ((k : Int) + 1)] 3)) rfl _ _ _ rfl w.heap.size 3 i0 (.int .i64 0) 1 8 Try.underlying41 IP.out.1 IP.out.2.1 IP.out.2.2.1 IP.out.2.2.2 rfl (by decide) _ _ _ rfl (O.out.alloc _) ⟨wr.heap.size, 0, none⟩ 1 1 [.int .i64 ((k : Int) + 1)] rfl rfl (cell_one_new _ _ _) (by simp [Value.oneCell']) (by unfold maxLen; omega) (by omega) (by simp; omega) ?_)
        intro v' w1 o1 g1 _
        have B1 := hide ((HB.out.alloc hbs (.cells #[.int .i64 ((k : Int) + 1)] 3)).grown g1 (by simp; omega) (own_ge9 O.out))
        have O1 := hide (YES.out hct.out _ _ o1)
        clear o1 g1
        go_wp2
        go_roundw
        case rel => exact ⟨k + 1, by omega, by go_num, by rw [LY.out hct.out]; go_num, O1.out, B1.out⟩
        case measure => simp [intOf]; omega
      have h20' : ((m : Int) == 20) = false := by simp; omega
      by_cases hm4 : 4 ≤ m
      · have hm4' : (4 : Int) ≤ (m : Int) := by omega
        obtain ⟨h41, h42⟩ := h4 hm4
        have u1 : (0 : Int) ≤ (k : Int) + 1 - 4 := by omega
        have u2 : ((k : Int) + 1 - 4).toNat = k - 3 := by omega
        have u3 : (k : Int) + 1 - 4 ≤ (k : Int) + 1 := by omega
        have u4 : (0 : Int) ≤ (k : Int) + 1 := by omega
        have u5 : ((k : Int) + 1).toNat = k + 1 := by omega
        have u6 : (k : Int) + 1 - 4 = ((k - 3 : Nat) : Int) := by omega
        rw [h41] at hcm
        have hz := extract_size9 s (k - 3) (k + 1) (by omega)
        go_wp2_with fail
        refine (l9Finger_calls (s.extract (k - 3) (k + 1)) _ (by omega)).mono ?_
        rintro e w1 ⟨rfl, rfl⟩
        have hfl := fg_lt (bs (s.extract (k - 3) (k + 1)))
        generalize fg (bs (s.extract (k - 3) (k + 1))) = y at hcm hfl ⊢
        clear hz u1 u2 u3 u4 u5 u6
        by_cases h7 : y % 8 = 7
        · have h7' : (y : Int) % 8 = 7 := by omega
          have hct : Hid (cutAt (bs s) a (k + 1) = true) := by show _ = _; rw [hcm.out]; simp [hend, h20, hm4, h7]
          go_wp2_with (at_builtin; refine wpList_append_own (w := wr.alloc (.cells #[.int .i64 ((k : Int) + 1)] 3)) rfl _ _ _ rfl w.heap.size 3 i0 (.int .i64 0) 1 8 Try.underlying41 IP.out.1 IP.out.2.1 IP.out.2.2.1 IP.out.2.2.2 rfl (by decide) _ _ _ rfl (O.out.alloc _) ⟨wr.heap.size, 0, none⟩ 1 1 [.int .i64 ((k : Int) + 1)] rfl rfl (cell_one_new _ _ _) (by simp [Value.oneCell']) (by unfold maxLen; omega) (by omega) (by simp; omega) ?_)
          intro v' w1 o1 g1 _
          have B1 := hide ((HB.out.alloc hbs (.cells #[.int .i64 ((k : Int) + 1)] 3)).grown g1 (by simp; omega) (own_ge9 O.out))
          have O1 := hide (YES.out hct.out _ _ o1)
          clear o1 g1
          go_wp2
          go_roundw
          case rel => exact ⟨k + 1, by omega, by go_num, by rw [LY.out hct.out]; go_num, O1.out, B1.out⟩
          case measure => simp [intOf]; omega
        · have h7' : ((y : Int) % 8 == 7) = false := by simp; omega
          have hct : Hid (cutAt (bs s) a (k + 1) = false) := by show _ = _; rw [hcm.out]; simp [hend, h20, h7]
          go_wp2
          go_roundw
          case rel => exact ⟨k + 1, by omega, by go_num, by rw [(NO.out hct.out).2], by rw [(NO.out hct.out).1]; exact O.out, HB.out⟩
          case measure => simp [intOf]; omega
      · have hm4' : decide ((4 : Int) ≤ (m : Int)) = false := decide_eq_false (by omega)
        have hm4'' : ¬ (4 : Int) ≤ (m : Int) := by omega
        have hct : Hid (cutAt (bs s) a (k + 1) = false) := by show _ = _; rw [hcm.out]; simp [hend, h20, hm4]
        go_wp2
        go_roundw
        case rel => exact ⟨k + 1, by omega, by go_num, by rw [(NO.out hct.out).2], by rw [(NO.out hct.out).1]; exact O.out, HB.out⟩
        case measure => simp [intOf]; omega
    · obtain rfl : k = s.size := by omega
      have hlt' : ¬ (s.size : Int) + 1 ≤ (s.size : Int) := by omega
      have O2 : Hid (Own wr w.heap.size _ (cutsI s)) := O.out
      go_wp2
      go_ret
      exact ⟨_, rfl, O2.out, HB.out⟩

theorem cutsR_facts (s : ByteArray) : (cutsR s).1.length ≤ 300 := by
  unfold cutsR
  split
  · have := cutsI_length s
    show (cutsI s).length ≤ 300
    omega
  · exact Nat.zero_le _
theorem own_slice9 {w : World} {base : Nat} {v : Value} {xs : List Int} (h : Own w base v xs) : ∃ a cap, v = .slice a xs.length cap := by
  rcases h.2 with ⟨rfl, h0⟩ | ⟨g, cap, cur, rfl, _⟩
  · exact ⟨none, 0, by rw [h0]⟩
  · exact ⟨_, cap, rfl⟩
theorem own_slice8 {w : World} {base : Nat} {v : Value} {xs : List ByteArray} (h : OwnT w base v xs) : ∃ a cap, v = .slice a xs.length cap := by
  rcases h.2 with ⟨rfl, h0⟩ | ⟨g, cap, cur, rfl, _⟩
  · exact ⟨none, 0, by rw [h0]⟩
  · exact ⟨_, cap, rfl⟩
end Go.Proofs.Ythmijjcddjlebaa

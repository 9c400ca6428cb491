/-
  The cuts of a text by the program, call by call. No condition but that it is a text. The cuts of a text by the model, call by call. No condition but that it is a text. A text's copy, call by call. No condition but that it is a text. The chunks of a text by the program, call by call. No condition but that it is a text. The chunks of a text by the model, call by call. No condition but that it is a text. Texts whose chunks are kept once each: the mathematics, and rows that stay while others grow. No condition.
-/
import Derived.Test.YthmijjcddjlebaaDedupB10
import Derived.Test.YthmijjcddjlebaaDedupB8
import Derived.Test.YthmijjcddjlebaaDedupB3
import Derived.Lib.Strings
import Derived.Lib.BufferWrite
import Derived.Lib.UnsafeStr
import Derived.Test.YthmijjcddjlebaaDedupB7
namespace Go.Proofs.Ythmijjcddjlebaa
open Go.RowKit Go.Shelf
set_option linter.unusedVariables false
attribute [local go_sem] Oper.semAt_some

set_option maxRecDepth 100000 in
theorem isCutText_calls (s : ByteArray) (w : World) (hn : s.size ≤ maxLen) : Calls Try.prog 62 #[.string s] w fun e w' => e = .returned (.bool (decide (s.size ≤ 300))) ∧ w = w' := by
  unfold maxLen at hn
  have e : decide (s.size ≤ 300) = decide ((s.size : Int) ≤ 300) := decide_eq_decide.2 (by omega)
  rw [e]
  clear e
  go_enter Try.func62, Try.ntmps62
  go_wp2
  go_ret
  exact ⟨rfl, rfl⟩

/-- The cuts as numbers. -/
def cutsI (s : ByteArray) : List Int := (cutsN (bs s) s.size).map fun c : Nat => (c : Int)
def cutsV (s : ByteArray) : List Value := (cutsI s).map (Value.int .i64)
theorem cutsV_length (s : ByteArray) : (cutsV s).length = (cutsI s).length := by unfold cutsV; rw [List.length_map]
def cutsR (s : ByteArray) : List Int × Bool := if s.size ≤ 300 then (cutsI s, true) else ([], false)
theorem chunkArgs_cut {s : ByteArray} {i : Nat} {p : Nat × Nat} (h : (pairsN (bs s) s.size)[i]? = some p) : (cutsI s).take (i + 1) = (cutsI s).take i ++ [(p.2 : Int)] := by
  have hc : (cutsN (bs s) s.size)[i]? = some p.2 := by rw [← pairsN_cuts, List.getElem?_map, h]; rfl
  have hl : i < (cutsI s).length := by unfold cutsI; rw [List.length_map]; exact (List.getElem?_eq_some_iff.1 hc).1
  rw [List.take_succ_eq_append_getElem hl]
  congr 2
  have := List.getElem?_eq_getElem hl
  unfold cutsI at this ⊢
  rw [List.getElem?_map, hc] at this
  exact (Option.some.inj this).symm
theorem cutsV_step {s : ByteArray} {i : Nat} {p : Nat × Nat} (h : (pairsN (bs s) s.size)[i]? = some p) : (cutsV s).take (i + 1) = (cutsV s).take i ++ [.int .i64 (p.2 : Int)] := by
  unfold cutsV
  rw [← List.map_take, chunkArgs_cut h, List.map_append, List.map_take]
  rfl
theorem chunkArgs_cuts (s : ByteArray) : (chunkArgs s).length = (cutsI s).length := by
  rw [chunkArgs_length, cutsI, List.length_map, ← pairsN_cuts, List.length_map]
theorem cutsI_length (s : ByteArray) : (cutsI s).length ≤ s.size := by unfold cutsI; rw [List.length_map]; exact cutsN_len _ _

end Go.Proofs.Ythmijjcddjlebaa

namespace Go.Proofs.Ythmijjcddjlebaa
open Go.RowKit
set_option linter.unusedVariables false
set_option linter.unusedSimpArgs false

theorem bs_mid9 (s : ByteArray) (i j : Nat) : bs (s.extract i j) = ((bs s).take j).drop i := by
  unfold bs
  rw [ByteArray.data_extract, Array.toList_extract, List.extract_eq_take_drop, List.map_take, List.map_drop, List.take_drop]
  by_cases h : i ≤ j
  · rw [Nat.add_sub_cancel' h]
  · rw [List.drop_eq_nil_of_le (by rw [List.length_take]; omega), List.drop_eq_nil_of_le (by rw [List.length_take]; omega)]
theorem extract_size9 (s : ByteArray) (i j : Nat) (h : j ≤ s.size) : (s.extract i j).size = j - i := by
  rw [← bs_length, bs_mid9, List.length_drop, List.length_take, bs_length]
  omega
theorem cutAt_model (s : ByteArray) (a k : Nat) (h : k ≤ s.size) : cutAt (bs s) a k = (k == s.size || k - a == 20 || (decide (4 ≤ k - a) && fg (bs (s.extract (k - 4) k)) % 8 == 7)) := by
  unfold cutAt wnd
  rw [bs_length, bs_mid9]
theorem cutsI_succ_yes {s : ByteArray} {k : Nat} (h : cutAt (bs s) (lastC (bs s) k) (k + 1) = true) : (cutsN (bs s) (k + 1)).map (fun c : Nat => (c : Int)) = (cutsN (bs s) k).map (fun c : Nat => (c : Int)) ++ [((k : Int) + 1)] := by
  rw [cutsN_yes h, List.map_append]; rfl

theorem own_ge9 {w : World} {base k : Nat} {e : TypeId} {v : Value} {xs : List Value} (h : w.ownsRow base e 1 v k xs) : ∀ g, v.ownBlock = some g → base ≤ g := by
  intro g eg
  rcases h.2 with ⟨rfl, _⟩ | ⟨g', cap, cur, rfl, hb, _⟩
  · simp [Value.ownBlock] at eg
  · obtain rfl : g' = g := by simpa [Value.ownBlock] using eg
    exact hb

set_option maxRecDepth 100000 in
set_option maxHeartbeats 1000000 in
theorem l9Cuts_calls (s : ByteArray) (w : World) (hn : s.size ≤ 1048576) :
    Calls Try.prog 123 #[.string s] w fun e w' => ∃ v, e = .returned v ∧ Own w' w.heap.size v (cutsI s) ∧ Below w.heap.size w w' := by
  obtain ⟨i0, hi0, hz0, hz1, hz2⟩ := info_parts infoInt
  have IP := hide (And.intro hi0 (And.intro hz0 (And.intro hz1 hz2)))
  clear hi0 hz0 hz1 hz2
  have O0 : Hid (Own w w.heap.size (.slice none 0 0) []) := World.ownsRow_nil _ _ _ _
  go_enter Try.func123, Try.ntmps123
  go_wp2
  go_loopw [3, 4, 5] (fun vo vl vi wr => ∃ k : Nat, k ≤ s.size ∧ vi = .int .i64 ((k : Int) + 1) ∧ vl = .int .i64 (lastC (bs s) k : Nat) ∧ Own wr w.heap.size vo ((cutsN (bs s) k).map fun c : Nat => (c : Int)) ∧ Below w.heap.size w wr) (fun _ _ vi _ => s.size + 1 - (intOf vi).toNat)
  case atStart => exact ⟨0, Nat.zero_le _, rfl, rfl, O0.out, Below.refl _ _⟩
  case round =>
    obtain ⟨k, hk, rfl, rfl, hown, hb⟩ := hrel
    have O := hide hown
    have HB := hide hb
    have hbs := hb.size
    clear hown hb
    by_cases hlt : k < s.size
    · have hla := lastC_le (bs s) k
      have hcm := hide (cutAt_model s (lastC (bs s) k) (k + 1) (by omega))
      have hln := cutsN_len (bs s) k
      have hsz : ((cutsN (bs s) k).map fun c : Nat => (c : Int)).length ≤ k := by rw [List.length_map]; exact hln
      have YES : Hid (cutAt (bs s) (lastC (bs s) k) (k + 1) = true → ∀ v w1, w1.ownsRow w.heap.size 3 1 v (((cutsN (bs s) k).map fun c : Nat => (c : Int)).length + 1) (((cutsN (bs s) k).map fun c : Nat => (c : Int)).map (Value.int .i64) ++ [.int .i64 ((k : Int) + 1)]) → Own w1 w.heap.size v ((cutsN (bs s) (k + 1)).map fun c : Nat => (c : Int))) := by
        intro h v w1 ho
        show World.ownsRow _ _ _ _ _ _ _
        rw [cutsI_succ_yes h, List.length_append, List.map_append]
        exact ho
      have NO : Hid (cutAt (bs s) (lastC (bs s) k) (k + 1) = false → (cutsN (bs s) (k + 1)).map (fun c : Nat => (c : Int)) = (cutsN (bs s) k).map (fun c : Nat => (c : Int)) ∧ lastC (bs s) (k + 1) = lastC (bs s) k) := fun h => ⟨by rw [cutsN_no h], lastC_no h⟩
      have LY : Hid (cutAt (bs s) (lastC (bs s) k) (k + 1) = true → lastC (bs s) (k + 1) = k + 1) := lastC_yes
      have he : ((k : Int) + 1) - (lastC (bs s) k : Int) = ((k + 1 - lastC (bs s) k : Nat) : Int) := by omega
      have hm : k + 1 - lastC (bs s) k ≤ 1048577 := by omega
      have hlt' : (k : Int) + 1 ≤ (s.size : Int) := by omega
      have h4 : 4 ≤ k + 1 - lastC (bs s) k → k + 1 - 4 = k - 3 ∧ 3 ≤ k := by omega
      generalize (cutsN (bs s) k).map (fun c : Nat => (c : Int)) = L at O hsz YES NO
      generalize lastC (bs s) k = a at hla hcm he hm h4 YES NO LY ⊢
      generalize hmm : k + 1 - a = m at he hm h4 hcm
      have HMM := hide hmm
      clear hmm
      by_cases hend : k + 1 = s.size
      · have hend' : (k : Int) + 1 = (s.size : Int) := by omega
        have hct : Hid (cutAt (bs s) a (k + 1) = true) := by show _ = _; rw [hcm.out]; simp [hend]
        go_wp2_with (at_builtin; refine wpList_append_own (w := wr.alloc (.cells #[.int .i64 (s.size : Int)] 3)) rfl _ _ _ rfl w.heap.size 3 i0 (.int .i64 0) 1 8 Try.underlying41 IP.out.1 IP.out.2.1 IP.out.2.2.1 IP.out.2.2.2 rfl (by decide) _ _ _ rfl (O.out.alloc _) ⟨wr.heap.size, 0, none⟩ 1 1 [.int .i64 (s.size : Int)] rfl rfl (cell_one_new _ _ _) (by simp [Value.oneCell']) (by unfold maxLen; omega) (by omega) (by simp; omega) ?_)
        intro v' w1 o1 g1 _
        have B1 := hide ((HB.out.alloc hbs (.cells #[.int .i64 (s.size : Int)] 3)).grown g1 (by simp; omega) (own_ge9 O.out))
        have O1 := hide (YES.out hct.out _ _ (by rw [hend']; exact o1))
        clear o1 g1
        go_wp2
        go_roundw
        case rel => exact ⟨k + 1, by omega, int_eq (by omega), int_eq (by rw [LY.out hct.out]; omega), O1.out, B1.out⟩
        case measure => simp [intOf]; omega
      have hend' : ((k : Int) + 1 == (s.size : Int)) = false := by simp; omega
      by_cases h20 : m = 20
      · subst h20
        have hct : Hid (cutAt (bs s) a (k + 1) = true) := by show _ = _; rw [hcm.out]; simp [hend]
        go_wp2_with (at_builtin; refine wpList_append_own (w := wr.alloc (.cells #[.int .i64 ((k : Int) + 1)] 3)) rfl _ _ _ rfl w.heap.size 3 i0 (.int .i64 0) 1 8 Try.underlying41 IP.out.1 IP.out.2.1 IP.out.2.2.1 IP.out.2.2.2 rfl (by decide) _ _ _ rfl (O.out.alloc _) ⟨wr.heap.size, 0, none⟩ 1 1 [.int .i64 ((k : Int) + 1)] rfl rfl (cell_one_new _ _ _) (by simp [Value.oneCell']) (by unfold maxLen; omega) (by omega) (by simp; omega) ?_)
        intro v' w1 o1 g1 _
        have B1 := hide ((HB.out.alloc hbs (.cells #[.int .i64 ((k : Int) + 1)] 3)).grown g1 (by simp; omega) (own_ge9 O.out))
        have O1 := hide (YES.out hct.out _ _ o1)
        clear o1 g1
        go_wp2
        go_roundw
        case rel => exact ⟨k + 1, by omega, by go_num, by rw [LY.out hct.out]; go_num, O1.out, B1.out⟩
        case measure => simp [intOf]; omega
      have h20' : ((m : Int) == 20) = false := by simp; omega
      by_cases hm4 : 4 ≤ m
      · have hm4' : (4 : Int) ≤ (m : Int) := by omega
        obtain ⟨h41, h42⟩ := h4 hm4
        have u1 : (0 : Int) ≤ (k : Int) + 1 - 4 := by omega
        have u2 : ((k : Int) + 1 - 4).toNat = k - 3 := by omega
        have u3 : (k : Int) + 1 - 4 ≤ (k : Int) + 1 := by omega
        have u4 : (0 : Int) ≤ (k : Int) + 1 := by omega
        have u5 : ((k : Int) + 1).toNat = k + 1 := by omega
        have u6 : (k : Int) + 1 - 4 = ((k - 3 : Nat) : Int) := by omega
        rw [h41] at hcm
        have hz := extract_size9 s (k - 3) (k + 1) (by omega)
        go_wp2_with fail
        refine (l9Finger_calls (s.extract (k - 3) (k + 1)) _ (by omega)).mono ?_
        rintro e w1 ⟨rfl, rfl⟩
        have hfl := fg_lt (bs (s.extract (k - 3) (k + 1)))
        generalize fg (bs (s.extract (k - 3) (k + 1))) = y at hcm hfl ⊢
        clear hz u1 u2 u3 u4 u5 u6
        by_cases h7 : y % 8 = 7
        · have h7' : (y : Int) % 8 = 7 := by omega
          have hct : Hid (cutAt (bs s) a (k + 1) = true) := by show _ = _; rw [hcm.out]; simp [hend, h20, hm4, h7]
          go_wp2_with (at_builtin; refine wpList_append_own (w := wr.alloc (.cells #[.int .i64 ((k : Int) + 1)] 3)) rfl _ _ _ rfl w.heap.size 3 i0 (.int .i64 0) 1 8 Try.underlying41 IP.out.1 IP.out.2.1 IP.out.2.2.1 IP.out.2.2.2 rfl (by decide) _ _ _ rfl (O.out.alloc _) ⟨wr.heap.size, 0, none⟩ 1 1 [.int .i64 ((k : Int) + 1)] rfl rfl (cell_one_new _ _ _) (by simp [Value.oneCell']) (by unfold maxLen; omega) (by omega) (by simp; omega) ?_)
          intro v' w1 o1 g1 _
          have B1 := hide ((HB.out.alloc hbs (.cells #[.int .i64 ((k : Int) + 1)] 3)).grown g1 (by simp; omega) (own_ge9 O.out))
          have O1 := hide (YES.out hct.out _ _ o1)
          clear o1 g1
          go_wp2
          go_roundw
          case rel => exact ⟨k + 1, by omega, by go_num, by rw [LY.out hct.out]; go_num, O1.out, B1.out⟩
          case measure => simp [intOf]; omega
        · have h7' : ((y : Int) % 8 == 7) = false := by simp; omega
          have hct : Hid (cutAt (bs s) a (k + 1) = false) := by show _ = _; rw [hcm.out]; simp [hend, h20, h7]
          go_wp2
          go_roundw
          case rel => exact ⟨k + 1, by omega, by go_num, by rw [(NO.out hct.out).2], by rw [(NO.out hct.out).1]; exact O.out, HB.out⟩
          case measure => simp [intOf]; omega
      · have hm4' : decide ((4 : Int) ≤ (m : Int)) = false := decide_eq_false (by omega)
        have hm4'' : ¬ (4 : Int) ≤ (m : Int) := by omega
        have hct : Hid (cutAt (bs s) a (k + 1) = false) := by show _ = _; rw [hcm.out]; simp [hend, h20, hm4]
        go_wp2
        go_roundw
        case rel => exact ⟨k + 1, by omega, by go_num, by rw [(NO.out hct.out).2], by rw [(NO.out hct.out).1]; exact O.out, HB.out⟩
        case measure => simp [intOf]; omega
    · obtain rfl : k = s.size := by omega
      have hlt' : ¬ (s.size : Int) + 1 ≤ (s.size : Int) := by omega
      have O2 : Hid (Own wr w.heap.size _ (cutsI s)) := O.out
      go_wp2
      go_ret
      exact ⟨_, rfl, O2.out, HB.out⟩

theorem cutsR_facts (s : ByteArray) : (cutsR s).1.length ≤ 300 := by
  unfold cutsR
  split
  · have := cutsI_length s
    show (cutsI s).length ≤ 300
    omega
  · exact Nat.zero_le _
theorem own_slice9 {w : World} {base : Nat} {v : Value} {xs : List Int} (h : Own w base v xs) : ∃ a cap, v = .slice a xs.length cap := by
  rcases h.2 with ⟨rfl, h0⟩ | ⟨g, cap, cur, rfl, _⟩
  · exact ⟨none, 0, by rw [h0]⟩
  · exact ⟨_, cap, rfl⟩
theorem own_slice8 {w : World} {base : Nat} {v : Value} {xs : List ByteArray} (h : OwnT w base v xs) : ∃ a cap, v = .slice a xs.length cap := by
  rcases h.2 with ⟨rfl, h0⟩ | ⟨g, cap, cur, rfl, _⟩
  · exact ⟨none, 0, by rw [h0]⟩
  · exact ⟨_, cap, rfl⟩
end Go.Proofs.Ythmijjcddjlebaa

namespace Go.Proofs.Ythmijjcddjlebaa
open Go.RowKit
set_option linter.unusedVariables false

theorem infoU89 : (Try.prog.info? 5).map (fun i => (i.zero, i.size, i.bytes)) = some (some (.int .u8 0), 1, 1) := by kernel_rfl

set_option maxHeartbeats 4000000 in
set_option maxRecDepth 100000 in
theorem clone09_calls (s : ByteArray) (w : World) (hlim : s.size ≤ 1048576) :
    Calls Try.prog 144 #[.string s] w fun e w' => e = .returned (.string s) ∧ Below w.heap.size w w' := by
  by_cases h0 : s.size = 0
  · have hs : s = ⟨#[]⟩ := by
      apply ByteArray.ext
      exact Array.eq_empty_of_size_eq_zero h0
    subst hs
    go_enter Try.func144, Try.ntmps144
    go_wp2
    go_ret
    exact ⟨rfl, Below.refl _ _⟩
  · obtain ⟨i0, hi, hz0, hz1, hz2⟩ := info_parts infoU89
    have hinfo : (Try.prog.info? 5).map (·.size) = some 1 := by rw [hi]; simp [hz1]
    have hco : Try.prog.cellsOf 5 = 1 := by simp [Program.cellsOf, hi, hz1]
    obtain ⟨M, hM⟩ : ∃ M, M = madeCells (Value.int .u8 0).cells (((s.size : Nat) : Int).toNat * i0.size) := ⟨_, rfl⟩
    have hMs : M.size = s.size := by rw [hM, size_madeCells, hz1]; simp
    have hmk : ∀ W : World, (Instr.makeSlice 22 (.int .i64 (s.size : Int)) (.int .i64 (s.size : Int))).run Try.prog W = .ok (.slice (some ⟨W.heap.size, 0, none⟩) s.size s.size) (W.alloc (.cells M 5)) := fun W => by
      have h := run_make (P := Try.prog) W 22 5 i0 (.int .u8 0) Try.underlying22 hi hz0 .i64 .i64 (s.size : Int) (s.size : Int) (by omega) (by omega) (by rw [hz2]; omega) (by omega)
      rw [← hM] at h
      simpa using h
    clear hM
    have hcp := Lib.run_copy_row_string (P := Try.prog) (w.alloc (.cells M 5)) 22 9 3 5 w.heap.size 0 s.size s.size s M 5 Try.underlying22 hinfo (heap_alloc_new w _) (Nat.le_refl _) (by omega)
    obtain ⟨Y, hY⟩ : ∃ Y, Y = (M.toList.take 0 ++ Lib.byteCells s.data.toList ++ M.toList.drop (0 + s.size)).toArray := ⟨_, rfl⟩
    rw [← hY] at hcp
    have hYl : Y.toList = Lib.byteCells s.data.toList := by
      rw [hY, List.toList_toArray, List.take_zero, List.nil_append, List.drop_of_length_le (by rw [Array.length_toList]; omega), List.append_nil]
    have hYs : Y.size = s.size := by rw [← Array.length_toList, hYl, Lib.byteCells_length, ← Lib.size_eq]
    have hgY : ((w.alloc (.cells M 5)).setRow w.heap.size Y).heap[w.heap.size]? = some (.cells Y 5 (0, 0)) := setRow_heap _ _ M _ 5 (0, 0) (heap_alloc_new w _)
    have hne : s.data.toList ≠ [] := fun e => h0 (by rw [Lib.size_eq, e]; rfl)
    have hUS := Lib.run_unsafeString_row (P := Try.prog) ((w.alloc (.cells M 5)).setRow w.heap.size Y) 155 3 9 5 Try.underlying155 hco w.heap.size Y.size (by unfold World.shape?; rw [hgY]) s.data.toList hne (by rw [← Lib.size_eq]; omega) (by rw [← Lib.size_eq]; omega)
      (fun j x hx => Lib.cells_of_row hgY Y.size j _ (by rw [List.take_of_length_le (by rw [Array.length_toList]; exact Nat.le_refl _), hYl]; simp [Lib.byteCells, hx]))
    rw [← Lib.size_eq] at hUS
    clear hY hi hz0 hz1 hz2
    go_enter Try.func144, Try.ntmps144
    go_wp2
    go_ret
    have hb1 : Below w.heap.size w (w.alloc (.cells M 5)) := (Below.refl _ w).alloc (Nat.le_refl _) _
    have hb2 : Below w.heap.size (w.alloc (.cells M 5)) ((w.alloc (.cells M 5)).setRow w.heap.size Y) := ⟨rfl, rfl, rfl, by simp, fun k hk => setRow_other _ _ _ _ (by omega)⟩
    exact ⟨rfl, Lib.below_freeze (hb1.trans hb2) (p := ⟨w.heap.size, 0, none⟩) (Nat.le_refl _) _⟩

set_option maxRecDepth 100000 in
theorem clone9_calls (s : ByteArray) (w : World) (hlim : s.size ≤ 1048576) :
    Calls Try.prog 122 #[.string s] w fun e w' => e = .returned (.string s) ∧ Below w.heap.size w w' := by
  go_enter Try.func122, Try.ntmps122
  go_wp2_with fail
  refine (clone09_calls s _ hlim).mono ?_
  rintro e w1 ⟨rfl, q⟩
  go_wp2
  go_ret
  exact ⟨rfl, q⟩

end Go.Proofs.Ythmijjcddjlebaa

namespace Go.Proofs.Ythmijjcddjlebaa
open Go.RowKit Go.Shelf
set_option linter.unusedVariables false
attribute [local go_sem] Oper.semAt_some

/-- The chunks of a text. -/
def chunksT (s : ByteArray) : List ByteArray := (pairsN (bs s) s.size).map fun p : Nat × Nat => s.extract p.1 p.2
def chunksV (s : ByteArray) : List Value := (chunksT s).map Value.string
theorem chunksV_length (s : ByteArray) : (chunksV s).length = (chunksT s).length := by unfold chunksV; rw [List.length_map]
def chunksR (s : ByteArray) : List ByteArray × Bool := if s.size ≤ 300 then (chunksT s, true) else ([], false)
theorem chunksT_at {s : ByteArray} {i : Nat} {p : Nat × Nat} (h : (pairsN (bs s) s.size)[i]? = some p) : (chunksT s)[i]? = some (s.extract p.1 p.2) := by unfold chunksT; rw [List.getElem?_map, h]; rfl
theorem chunksV_step {s : ByteArray} {i : Nat} {p : Nat × Nat} (h : (pairsN (bs s) s.size)[i]? = some p) : (chunksV s).take (i + 1) = (chunksV s).take i ++ [.string (s.extract p.1 p.2)] := by
  have h1 : (chunksV s)[i]? = some (.string (s.extract p.1 p.2)) := by unfold chunksV; rw [List.getElem?_map, chunksT_at h]; rfl
  obtain ⟨hl, he⟩ := List.getElem?_eq_some_iff.1 h1
  rw [List.take_succ_eq_append_getElem hl, he]
theorem chunkArgs_cuts9 (s : ByteArray) : (chunkArgs s).length = (chunksT s).length := by rw [chunkArgs_length, chunksT, List.length_map]
theorem chunksT_length (s : ByteArray) : (chunksT s).length ≤ s.size := by rw [← chunkArgs_cuts9, chunkArgs_cuts]; exact cutsI_length s
theorem ext_le9 (s : ByteArray) (i j : Nat) : (s.extract i j).size ≤ s.size := by
  rw [← bs_length, bs_mid9, List.length_drop, List.length_take, bs_length]
  omega

end Go.Proofs.Ythmijjcddjlebaa

namespace Go.Proofs.Ythmijjcddjlebaa
open Go.RowKit
set_option linter.unusedVariables false

theorem getLastD_cons9 (C : List Nat) : (0 :: C).getD C.length 0 = C.getLastD 0 := by
  rcases List.eq_nil_or_concat C with rfl | ⟨D, x, rfl⟩
  · rfl
  · rw [List.concat_eq_append, List.getLastD_concat, List.length_append]
    simp [List.getD_eq_getElem?_getD]
/-- A pair begins where the one ahead ends. -/
theorem pairsN_fst (l : List Nat) (k : Nat) : ∀ (i : Nat) (p : Nat × Nat), (pairsN l k)[i]? = some p → p.1 = (0 :: cutsN l k).getD i 0 := by
  induction k with
  | zero => intro i p h; simp [pairsN] at h
  | succ k ih =>
    intro i p h
    have hlen : (pairsN l k).length = (cutsN l k).length := by rw [← pairsN_cuts, List.length_map]
    cases hc : cutAt l (lastC l k) (k + 1)
    · rw [pairsN_no hc] at h
      rw [cutsN_no hc]
      exact ih i p h
    · rw [pairsN_yes hc] at h
      rw [cutsN_yes hc]
      by_cases hi : i < (pairsN l k).length
      · rw [List.getElem?_append_left hi] at h
        rw [ih i p h]
        rw [← List.cons_append, List.getD_eq_getElem?_getD, List.getD_eq_getElem?_getD, List.getElem?_append_left (by simp; omega)]
      · have hi2 : i = (pairsN l k).length := by
          have := (List.getElem?_eq_some_iff.1 h).1
          rw [List.length_append] at this
          simp at this
          omega
        subst hi2
        rw [List.getElem?_append_right (Nat.le_refl _), Nat.sub_self] at h
        cases h
        rw [← List.cons_append, List.getD_eq_getElem?_getD, List.getElem?_append_left (by simp; omega), ← List.getD_eq_getElem?_getD, hlen, getLastD_cons9]
        rfl
theorem pairs_some (s : ByteArray) (i : Nat) (h : i < (cutsI s).length) : ∃ p, (pairsN (bs s) s.size)[i]? = some p ∧ (cutsI s).getD i 0 = (p.2 : Int) ∧ p.1 = (0 :: cutsN (bs s) s.size).getD i 0 ∧ p.1 ≤ p.2 ∧ p.2 ≤ s.size ∧ p.2 = (0 :: cutsN (bs s) s.size).getD (i + 1) 0 := by
  have hl : i < (pairsN (bs s) s.size).length := by rw [← chunkArgs_length, chunkArgs_cuts]; exact h
  obtain ⟨p, hp⟩ : ∃ p, (pairsN (bs s) s.size)[i]? = some p := ⟨_, List.getElem?_eq_getElem hl⟩
  have hc : (cutsN (bs s) s.size)[i]? = some p.2 := by rw [← pairsN_cuts, List.getElem?_map, hp]; rfl
  refine ⟨p, hp, ?_, pairsN_fst _ _ i p hp, (pairsN_mem _ p (List.mem_of_getElem? hp)).1, (pairsN_mem _ p (List.mem_of_getElem? hp)).2, ?_⟩
  · unfold cutsI
    rw [List.getD_eq_getElem?_getD, List.getElem?_map, hc]
    rfl
  · rw [List.getD_eq_getElem?_getD, List.getElem?_cons_succ, hc]
    rfl

set_option maxRecDepth 100000 in
set_option maxHeartbeats 1000000 in
theorem l9Chunks_calls (s : ByteArray) (w : World) (hn : s.size ≤ 1048576) :
    Calls Try.prog 66 #[.string s] w fun e w' => ∃ v, e = .returned v ∧ OwnT w' w.heap.size v (chunksT s) ∧ Below w.heap.size w w' := by
  obtain ⟨i0, hi0, hz0, hz1, hz2⟩ := info_parts infoStr
  have IP := hide (And.intro hi0 (And.intro hz0 (And.intro hz1 hz2)))
  clear hi0 hz0 hz1 hz2
  have hlen := cutsI_length s
  have hle : (chunksV s).length = (cutsI s).length := by rw [chunksV_length, ← chunkArgs_cuts9, chunkArgs_cuts]
  go_enter Try.func66, Try.ntmps66
  go_wp2_with fail
  refine (l9Cuts_calls s _ hn).mono ?_
  rintro e w1 ⟨vc, rfl, oc, bc⟩
  have RC := hide oc.rd
  have BC := hide bc
  obtain ⟨ac, cc, rfl⟩ := own_slice9 oc
  clear oc bc
  have O0 : Hid (w1.ownsRow w1.heap.size 9 1 (.slice none 0 0) 0 ((chunksV s).take 0)) := World.ownsRow_nil _ _ _ _
  go_wp2
  go_loopw [3, 4, 10] (fun vo vl vi wr => ∃ k : Nat, k ≤ (cutsI s).length ∧ vi = .int .i64 k ∧ vl = .int .i64 (((0 :: cutsN (bs s) s.size).getD k 0 : Nat) : Int) ∧ wr.ownsRow w1.heap.size 9 1 vo k ((chunksV s).take k) ∧ Below w1.heap.size w1 wr) (fun _ _ vi _ => (cutsI s).length - (intOf vi).toNat)
  case atStart => exact ⟨0, Nat.zero_le _, rfl, rfl, O0.out, Below.refl _ _⟩
  case round =>
    obtain ⟨k, hk, rfl, rfl, hown, hb1⟩ := hrel
    have O := hide hown
    have HB1 := hide hb1
    have hbs := hb1.size
    clear hown hb1
    by_cases hlt : k < (cutsI s).length
    · obtain ⟨p, hp, e1, e2, e3, e4, e5⟩ := pairs_some s k hlt
      have hst := hide (chunksV_step hp)
      have R := RC.out.below HB1.out
      obtain ⟨a', cap', hv, _, _, h3⟩ := R
      rcases h3 with h3 | ⟨b, off, ha, hbl, hc⟩
      · rw [h3] at hlt; simp at hlt
      subst ha
      simp only [Value.slice.injEq] at hv
      obtain ⟨rfl, _, rfl⟩ := hv
      have hck := hc k hlt
      rw [e1] at hck
      rw [← e2]
      have E5 := hide e5
      obtain ⟨p1, p2⟩ := p
      simp only at e3 e4 E5 hst hck ⊢
      have u1 : (0 : Int) ≤ (p2 : Int) := by omega
      have u2 : (p2 : Int) ≤ (s.size : Int) := by omega
      have u3 : (p1 : Int) ≤ (p2 : Int) := by omega
      have hlt' : (k : Int) < ((cutsI s).length : Int) := by omega
      clear hc e1 e2 e5 hp
      obtain ⟨c, hcc⟩ : ∃ c, c = s.extract p1 p2 := ⟨_, rfl⟩
      rw [← hcc] at hst
      have hcc' := hcc.symm
      clear hcc
      go_wp2_with (at_builtin; refine wpList_append_own (w := wr.alloc (.cells #[.string c] 9)) rfl _ _ _ rfl w1.heap.size 9 i0 (.string ⟨#[]⟩) 1 16 Try.underlying23 IP.out.1 IP.out.2.1 IP.out.2.2.1 IP.out.2.2.2 rfl (by decide) _ k _ rfl (O.out.alloc _) ⟨wr.heap.size, 0, none⟩ 1 1 [.string c] rfl rfl (cell_one_new _ _ _) (by simp [Value.oneCell']) (by unfold maxLen; omega) (by omega) (by simp; omega) ?_)
      intro v' w2 o2 g2 _
      have B2 := hide ((HB1.out.alloc hbs (.cells #[.string c] 9)).grown g2 (by simp; omega) (own_ge9 O.out))
      have O1 := hide o2
      clear o2 g2 hcc'
      go_wp2
      go_roundw
      case rel => exact ⟨k + 1, by omega, by go_num, by rw [E5.out], by rw [hst.out]; exact O1.out, B2.out⟩
      case measure => simp [intOf]; omega
    · obtain rfl : k = (cutsI s).length := by omega
      have hlt' : ¬ ((cutsI s).length : Int) < ((cutsI s).length : Int) := by omega
      have O2 : Hid (∀ v, wr.ownsRow w1.heap.size 9 1 v (cutsI s).length ((chunksV s).take (cutsI s).length) → OwnT wr w1.heap.size v (chunksT s)) := by
        intro v this
        rw [← hle, List.take_length, chunksV_length] at this
        exact this
      go_wp2
      go_ret
      exact ⟨_, rfl, (O2.out _ O.out).mono BC.out.size, BC.out.trans (HB1.out.mono BC.out.size)⟩

set_option maxRecDepth 100000 in
theorem sChunksOf_calls (s : ByteArray) (w : World) (hn : s.size ≤ 1048576) :
    Calls Try.prog 74 #[.string s] w fun e w' => ∃ v, e = .returned (.tuple #[v, .bool (chunksR s).2]) ∧ OwnT w' w.heap.size v (chunksR s).1 ∧ Below w.heap.size w w' := by
  by_cases h3 : s.size ≤ 300
  · rw [show chunksR s = (chunksT s, true) from if_pos h3]
    have h' : ¬ (300 : Int) < (s.size : Int) := by omega
    go_enter Try.func74, Try.ntmps74
    go_wp2_with fail
    refine (l9Chunks_calls s _ hn).mono ?_
    rintro e w1 ⟨v, rfl, o1, b1⟩
    go_wp2
    go_ret2
    exact ⟨_, rfl, o1, b1⟩
  · rw [show chunksR s = ([], false) from if_neg h3]
    have h' : (300 : Int) < (s.size : Int) := by omega
    go_enter Try.func74, Try.ntmps74
    go_wp2
    go_ret2
    exact ⟨_, rfl, World.ownsRow_nil _ _ _ _, Below.refl _ _⟩
theorem chunksR_facts (s : ByteArray) : (chunksR s).1.length ≤ 300 ∧ ∀ t ∈ (chunksR s).1, t.size ≤ maxLen := by
  unfold chunksR
  split
  · refine ⟨by have := chunksT_length s; show (chunksT s).length ≤ 300; omega, fun t ht => ?_⟩
    obtain ⟨p, _, rfl⟩ := List.mem_map.1 (show t ∈ chunksT s from ht)
    have := ext_le9 s p.1 p.2
    unfold maxLen
    omega
  · exact ⟨Nat.zero_le _, fun t ht => by cases ht⟩
end Go.Proofs.Ythmijjcddjlebaa

namespace Go.Proofs.Ythmijjcddjlebaa
open Go.RowKit
set_option linter.unusedVariables false

/-- One chunk more. -/
def stepU (p : List Int × List ByteArray) (t : ByteArray) : List Int × List ByteArray := (p.1 ++ [((ix9 p.2 t : Nat) : Int)], add9 p.2 t)
/-- The numbers of some chunks, and the book behind them. -/
def useF (C : List ByteArray) (ts : List ByteArray) : List Int × List ByteArray := ts.foldl stepU ([], C)
theorem useF_snoc (C : List ByteArray) (ts : List ByteArray) (j : Nat) (h : j < ts.length) : useF C (ts.take (j + 1)) = stepU (useF C (ts.take j)) (ts.getD j ⟨#[]⟩) := by
  unfold useF
  rw [List.take_succ_eq_append_getElem h, List.foldl_append, List.getD_eq_getElem?_getD, List.getElem?_eq_getElem h]
  rfl
theorem useF_zero (C : List ByteArray) (ts : List ByteArray) : useF C (ts.take 0) = ([], C) := rfl
theorem foldU_len (ts : List ByteArray) : ∀ p : List Int × List ByteArray, (ts.foldl stepU p).1.length = p.1.length + ts.length ∧ (ts.foldl stepU p).2.length ≤ p.2.length + ts.length := by
  induction ts with
  | nil => intro p; exact ⟨rfl, Nat.le_refl _⟩
  | cons t ts ih =>
    intro p
    obtain ⟨h1, h2⟩ := ih (stepU p t)
    have h3 : (stepU p t).1.length = p.1.length + 1 := by simp [stepU]
    have h4 : (stepU p t).2.length ≤ p.2.length + 1 := add9_len _ _
    rw [List.foldl_cons, List.length_cons]
    omega
theorem useF_len (C ts : List ByteArray) : (useF C ts).1.length = ts.length ∧ (useF C ts).2.length ≤ C.length + ts.length := by
  have := foldU_len ts ([], C)
  simpa [useF] using this
def stepD (p : List ByteArray × List (List Int)) (s : ByteArray) : List ByteArray × List (List Int) := ((useF p.1 (chunksT s)).2, p.2 ++ [(useF p.1 (chunksT s)).1])
/-- The recipe of some texts. -/
def dedF (xs : List ByteArray) : List ByteArray × List (List Int) := xs.foldl stepD ([], [])
theorem dedF_snoc (xs : List ByteArray) (k : Nat) (h : k < xs.length) : dedF (xs.take (k + 1)) = stepD (dedF (xs.take k)) (xs.getD k ⟨#[]⟩) := by
  unfold dedF
  rw [List.take_succ_eq_append_getElem h, List.foldl_append, List.getD_eq_getElem?_getD, List.getElem?_eq_getElem h]
  rfl
theorem dedF_len (xs : List ByteArray) (k : Nat) (hk : k ≤ xs.length) (h : ∀ i, i < xs.length → (xs.getD i ⟨#[]⟩).size ≤ 300) : (dedF (xs.take k)).2.length = k ∧ (dedF (xs.take k)).1.length ≤ 300 * k := by
  induction k with
  | zero => exact ⟨rfl, Nat.le_refl _⟩
  | succ k ih =>
    obtain ⟨h1, h2⟩ := ih (by omega)
    rw [dedF_snoc xs k (by omega)]
    unfold stepD
    have h3 := useF_len (dedF (xs.take k)).1 (chunksT (xs.getD k ⟨#[]⟩))
    have h4 := chunksT_length (xs.getD k ⟨#[]⟩)
    have h5 := h k (by omega)
    simp only [List.length_append, List.length_cons, List.length_nil]
    omega

/-- Rows that stay where others grow. -/
theorem ownsRow_touch {S : Nat → Prop} {base k : Nat} {e : TypeId} {v : Value} {xs : List Value} {w w' : World} (h : w.ownsRow base e 1 v k xs) (ht : Touch S w w') (hs : ∀ g, v.ownBlock = some g → ¬ S g) : w'.ownsRow base e 1 v k xs := by
  refine ⟨h.1, ?_⟩
  rcases h.2 with hn | ⟨g, cap, cur, rfl, hb, hg, rest⟩
  · exact .inl hn
  · exact .inr ⟨g, cap, cur, rfl, hb, (ht.same g (Array.getElem?_eq_some_iff.1 hg).1 (hs g rfl)).trans hg, rest⟩
theorem row_block {base k : Nat} {e : TypeId} {v : Value} {xs : List Value} {w : World} (h : w.ownsRow base e 1 v k xs) {g : Nat} (hg : v.ownBlock = some g) : base ≤ g ∧ g < w.heap.size ∧ ∃ cur, w.heap[g]? = some (.cells cur e (0, 0)) := by
  rcases h.2 with ⟨rfl, _⟩ | ⟨g', cap, cur, rfl, hb, hgb, _⟩
  · simp [Value.ownBlock] at hg
  · obtain rfl : g' = g := by simpa [Value.ownBlock] using hg
    exact ⟨hb, (Array.getElem?_eq_some_iff.1 hgb).1, cur, hgb⟩
theorem rows_unlike {base base' k k' : Nat} {e e' : TypeId} {v v' : Value} {xs xs' : List Value} {w : World} (h : w.ownsRow base e 1 v k xs) (h' : w.ownsRow base' e' 1 v' k' xs') (hne : e ≠ e') {g g' : Nat} (hg : v.ownBlock = some g) (hg' : v'.ownBlock = some g') : g ≠ g' := by
  obtain ⟨_, _, c, hc⟩ := row_block h hg
  obtain ⟨_, _, c', hc'⟩ := row_block h' hg'
  intro e1
  subst e1
  rw [hc] at hc'
  simp at hc'
  exact hne hc'.2
theorem row_box2 {base k B : Nat} {e t : TypeId} {v a b : Value} {xs : List Value} {w : World} (h : w.ownsRow base e 1 v k xs) (hB : Boxed2 w B t a b) (hne : e ≠ t) {g : Nat} (hg : v.ownBlock = some g) : g ≠ B := by
  obtain ⟨_, _, c, hc⟩ := row_block h hg
  intro e1
  subst e1
  rw [show w.heap[g]? = _ from hB] at hc
  simp at hc
  exact hne hc.2.symm
/-- The rows of a list of rows that was built up. -/
structure Grid (w : World) (base : Nat) (v : Value) (vs : List Value) (U : List (List Int)) : Prop where
  len : vs.length = U.length
  head : w.ownsRow base 41 1 v U.length vs
  rows : ∀ i, i < U.length → Own w base (vs.getD i (.slice none 0 0)) (U.getD i [])
theorem grid_nil (w : World) (base : Nat) : Grid w base (.slice none 0 0) [] [] := ⟨rfl, World.ownsRow_nil _ _ _ _, fun i hi => by simp at hi⟩
theorem Grid.rd {w : World} {base : Nat} {v : Value} {vs : List Value} {U : List (List Int)} (h : Grid w base v vs U) : RdM w v U := by
  rcases h.head.2 with ⟨rfl, hn⟩ | ⟨g, cap, cur, rfl, hb, hg, hc, hm, hs, ht⟩
  · have : U = [] := List.eq_nil_of_length_eq_zero hn
    subst this
    exact ⟨none, 0, rfl, Nat.le_refl _, ⟨Nat.zero_le _, fun _ => rfl⟩, .inl rfl⟩
  · refine ⟨_, cap, rfl, hc, ⟨hm, fun h => by cases h⟩, .inr ⟨g, 0, rfl, (Array.getElem?_eq_some_iff.1 hg).1, fun i hi => ⟨vs.getD i (.slice none 0 0), ?_, (h.rows i hi).rd⟩⟩⟩
    have hl := h.len
    rw [Nat.zero_add, World.ownsRow.cellAt h.head i (by omega), List.getD_eq_getElem?_getD, List.getElem?_eq_getElem (by omega)]
    rfl
theorem Grid.touch {S : Nat → Prop} {w w' : World} {base : Nat} {v : Value} {vs : List Value} {U : List (List Int)} (h : Grid w base v vs U) (ht : Touch S w w') (h0 : ∀ g, v.ownBlock = some g → ¬ S g) (h1 : ∀ i g, i < U.length → (vs.getD i (.slice none 0 0)).ownBlock = some g → ¬ S g) : Grid w' base v vs U :=
  ⟨h.len, ownsRow_touch h.head ht h0, fun i hi => ownsRow_touch (h.rows i hi) ht (fun g hg => h1 i g hi hg)⟩
end Go.Proofs.Ythmijjcddjlebaa

/-
  Sums of texts, of so many bytes 0, and two sums put together: the program's functions and its model's, call by call. No condition but a bound on a text's length.
-/
import Derived.Test.YtpgmocogffolaaaByt
namespace Go.Proofs.Ytpgmocogffolaaa
open Go.RowKit

/-- What '[]byte(s)' leaves of a world. -/
def bytesW (s : ByteArray) (w : World) : World := w.drew.alloc (.cells (bytesRow s (grownCap w s.size 0 5)) 5 ((bytesRow s (grownCap w s.size 0 5)).size, (bytesRow s (grownCap w s.size 0 5)).size + 1))
def bytesC (s : ByteArray) (w : World) : Nat := grownCap w s.size 0 5
theorem conv_bytes (s : ByteArray) (w : World) : (convert 9 121 (.string s)).run Try.prog w = .ok (.slice (some ⟨w.heap.size, 0, none⟩) s.size (bytesC s w)) (bytesW s w) :=
  run_bytes_of_string w 9 121 5 s Try.underlying9 Try.underlying121 Try.underlying5
theorem bytesW_below (s : ByteArray) (w : World) : Below w.heap.size w (bytesW s w) := Below.alloc (w := w.drew) (below_drewN (Below.refl _ _) 1) (Nat.le_refl _) _
theorem bytesC_ge (s : ByteArray) (w : World) : s.size ≤ bytesC s w := grownCap_ge w s.size 0 5
theorem bs_getD (s : ByteArray) (i : Nat) (h : i < s.data.size) : (bs s).getD i 0 = s.data[i].toNat := by
  unfold bs
  rw [List.getD_eq_getElem?_getD, List.getElem?_map, Array.getElem?_toList, Array.getElem?_eq_getElem h]
  rfl
theorem bytesW_cell (s : ByteArray) (w : World) (i : Nat) (h : i < s.size) : (bytesW s w).cell? ⟨w.heap.size, i, none⟩ = some (.int .u8 ((bs s).getD i 0 : Nat)) := by
  unfold bytesW
  have := World.cell?_alloc_mark w.drew (bytesRow s (grownCap w s.size 0 5)) 5 ((bytesRow s (grownCap w s.size 0 5)).size, (bytesRow s (grownCap w s.size 0 5)).size + 1) i
  rw [bytesRow_at s _ i h, ← bs_getD s i h] at this
  exact this
theorem bytesW_rd (s : ByteArray) (w : World) : RdL (bytesW s w) (.slice (some ⟨w.heap.size, 0, none⟩) s.size (bytesC s w)) (bs s) := by
  refine ⟨_, bytesC s w, by rw [bs_length], by rw [bs_length]; exact bytesC_ge s w, .inr ⟨_, 0, rfl, ?_, fun i hi => ?_⟩⟩
  · show _ < (w.heap.push _).size
    simp
  · rw [bs_length] at hi
    rw [Nat.zero_add]
    exact bytesW_cell s w i hi

set_option maxRecDepth 100000 in
theorem has32_yes (n : Int) (w : World) (h0 : 0 ≤ n) (h1 : n ≤ 4294967295) : Calls Try.prog 157 #[.int .i64 n] w fun e w' => e = .returned (.bool true) ∧ w = w' := by
  go_enter Try.func157, Try.ntmps157
  go_wp2
  go_ret
  exact ⟨rfl, rfl⟩
set_option maxRecDepth 100000 in
theorem has32_no (n : Int) (w : World) (h : n < 0 ∨ 4294967295 < n) : Calls Try.prog 157 #[.int .i64 n] w fun e w' => e = .returned (.bool false) ∧ w = w' := by
  rcases h with h | h
  · go_enter Try.func157, Try.ntmps157
    go_wp2
    go_ret
    exact ⟨rfl, rfl⟩
  · have h0 : 0 ≤ n := by omega
    have hd : decide (n ≤ 4294967295) = false := decide_eq_false (by omega)
    go_enter Try.func157, Try.ntmps157
    go_wp2
    go_ret
    exact ⟨rfl, rfl⟩
set_option maxRecDepth 100000 in
theorem l1In_yes (n a b : Int) (w : World) (h0 : a ≤ n) (h1 : n ≤ b) : Calls Try.prog 74 #[.int .i64 n, .int .i64 a, .int .i64 b] w fun e w' => e = .returned (.bool true) ∧ w = w' := by
  go_enter Try.func74, Try.ntmps74
  go_wp2
  go_ret
  exact ⟨rfl, rfl⟩
set_option maxRecDepth 100000 in
theorem l1In_no (n a b : Int) (w : World) (h : n < a ∨ b < n) : Calls Try.prog 74 #[.int .i64 n, .int .i64 a, .int .i64 b] w fun e w' => e = .returned (.bool false) ∧ w = w' := by
  by_cases h0 : a ≤ n
  · have h : b < n := by omega
    have hd : decide (n ≤ b) = false := decide_eq_false (by omega)
    go_enter Try.func74, Try.ntmps74
    go_wp2
    go_ret
    exact ⟨rfl, rfl⟩
  · have h : n < a := by omega
    go_enter Try.func74, Try.ntmps74
    go_wp2
    go_ret
    exact ⟨rfl, rfl⟩
theorem u32_not (a : Nat) (ha : a < 4294967296) : bits .xor .u32 IntKind.u32.max (a : Int) = ((a ^^^ 4294967295 : Nat) : Int) := by
  have e : IntKind.u32.max = ((4294967295 : Nat) : Int) := by decide
  rw [e, u32_xor_nat _ _ (by decide) ha, Nat.xor_comm]
theorem ret_two {a b : Int} {c d : Bool} (h : a = b) (h' : c = d) : Ending.returned (.tuple #[.int .i64 a, .bool c]) = .returned (.tuple #[.int .i64 b, .bool d]) := by rw [h, h']
/-- A text's sum from another one on, and whether there is one. -/
def onR (c : Int) (s : ByteArray) : Int × Bool := if (0 ≤ c ∧ c ≤ 4294967295) ∧ s.size ≤ 400 then (((Crc.on c.toNat (bs s) : Nat) : Int), true) else (0, false)

set_option maxRecDepth 100000 in
set_option maxHeartbeats 800000 in
theorem sumOn_calls (c : Int) (s : ByteArray) (w : World) (hs : s.size ≤ maxLen) :
    Calls Try.prog 154 #[.int .i64 c, .string s] w fun e w' => e = .returned (.tuple #[.int .i64 (onR c s).1, .bool (onR c s).2]) ∧ Below w.heap.size w w' := by
  unfold maxLen at hs
  by_cases hc : 0 ≤ c ∧ c ≤ 4294967295
  case neg =>
    have e : onR c s = (0, false) := if_neg (fun h => hc h.1)
    rw [e]
    go_enter Try.func154, Try.ntmps154
    go_wp2_with fail
    refine (has32_no _ _ (by omega)).mono ?_
    rintro e w' ⟨rfl, rfl⟩
    go_wp2
    go_ret2
    exact ⟨rfl, Below.refl _ _⟩
  by_cases hl : s.size ≤ 400
  case neg =>
    have e : onR c s = (0, false) := if_neg (fun h => hl h.2)
    rw [e]
    go_enter Try.func154, Try.ntmps154
    go_wp2_with fail
    refine (has32_yes _ _ hc.1 hc.2).mono ?_
    rintro e w' ⟨rfl, rfl⟩
    go_wp2
    go_ret2
    exact ⟨rfl, Below.refl _ _⟩
  have e : onR c s = (((Crc.on c.toNat (bs s) : Nat) : Int), true) := if_pos ⟨hc, hl⟩
  rw [e]
  clear e
  obtain ⟨C, rfl⟩ := Int.eq_ofNat_of_zero_le hc.1
  simp only [Int.toNat_natCast]
  have hC : C ≤ 4294967295 := by omega
  have hcv := conv_bytes s
  have hCF : C ^^^ 4294967295 < 4294967296 := Nat.xor_lt_two_pow (n := 32) (by omega) (by decide)
  have hnt := u32_not C (by omega)
  go_enter Try.func154, Try.ntmps154
  go_wp2_with fail
  refine (has32_yes _ _ hc.1 hc.2).mono ?_
  rintro e w' ⟨rfl, rfl⟩
  go_wp2_with fail
  refine (takeBytes_calls _ _ _ _ hCF (bytesW_rd s w) (bs_lt s) (by rw [bs_length]; omega)).mono ?_
  rintro e w' ⟨rfl, rfl⟩
  have hy : Crc.run (C ^^^ 4294967295) (bs s) < 4294967296 := Crc.run_lt hCF (bs_lt s)
  have HY : Hid (Crc.on C (bs s) = Crc.run (C ^^^ 4294967295) (bs s) ^^^ 4294967295) := hide rfl
  generalize Crc.run (C ^^^ 4294967295) (bs s) = y at hy HY ⊢
  have hnt2 := u32_not y hy
  have hyF : y ^^^ 4294967295 < 4294967296 := Nat.xor_lt_two_pow (n := 32) hy (by decide)
  go_wp2
  go_ret2
  exact ⟨ret_two (by rw [HY.out]) rfl, bytesW_below s w⟩

set_option maxRecDepth 100000 in
theorem sumOf_calls (s : ByteArray) (w : World) (hs : s.size ≤ maxLen) :
    Calls Try.prog 140 #[.string s] w fun e w' => e = .returned (.tuple #[.int .i64 (onR 0 s).1, .bool (onR 0 s).2]) ∧ Below w.heap.size w w' := by
  go_enter Try.func140, Try.ntmps140
  go_wp2_with fail
  refine (sumOn_calls 0 s _ hs).mono ?_
  rintro e w' ⟨rfl, hb⟩
  go_wp2
  go_ret2
  exact ⟨rfl, hb⟩

end Go.Proofs.Ytpgmocogffolaaa

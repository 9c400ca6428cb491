/-
  Bytes of a number, a number of bytes, a frame's bytes: the model's functions, call by call. Each contract says what it asks.
-/
import Derived.Test.YtpgmocogffolaaaFrb
namespace Go.Proofs.Ytpgmocogffolaaa
open Go.RowKit

/-- So many bytes of a number, the highest first. -/
def hiB (n : Nat) : Nat → List Nat
  | 0 => []
  | m + 1 => hiB (n / 256) m ++ [n % 256]
theorem hiB_small (m : Nat) : ∀ n, ∀ b ∈ hiB n m, b < 256 := by
  induction m with
  | zero => intro n b hb; simp [hiB] at hb
  | succ m ih =>
    intro n b hb
    rw [hiB, List.mem_append] at hb
    rcases hb with hb | hb
    · exact ih _ b hb
    · simp at hb; omega
theorem hiB_length (m : Nat) : ∀ n, (hiB n m).length = m := by
  induction m with
  | zero => intro n; rfl
  | succ m ih => intro n; rw [hiB, List.length_append, ih]; rfl
theorem rep_set (j v : Nat) (T : List Nat) : (List.replicate (j + 1) 0 ++ T).set j v = List.replicate j 0 ++ (v :: T) := by
  induction j with
  | zero => rfl
  | succ j ih => rw [List.replicate_succ, List.cons_append, List.set_cons_succ, ih, List.replicate_succ, List.cons_append]

set_option maxRecDepth 100000 in
set_option maxHeartbeats 800000 in
theorem l6Bytes_calls (n m : Nat) (w : World) (hn : n < 4294967296) (hm : m ≤ 16) :
    Calls Try.prog 139 #[.int .i64 n, .int .i64 m] w fun e w' => e = .returned (.string (ofN (hiB n m))) ∧ Below w.heap.size w w' := by
  obtain ⟨T0, hT⟩ : ∃ T, T = hiB n m := ⟨_, rfl⟩
  have hTs : ∀ b ∈ T0, b < 256 := by rw [hT]; exact hiB_small m n
  have hTl : T0.length = m := by rw [hT]; exact hiB_length m n
  rw [← hT]
  have HT := hide hT
  have HS := hide hTs
  have HL := hide hTl
  clear hT hTs hTl
  go_enter Try.func139, Try.ntmps139
  go_wp2_with (at_make; refine wpList_make_bytes rfl _ _ rfl w.heap.size _ _ m rfl rfl (by omega) (by omega) (by omega) (Nat.le_refl _) ?_)
  intro w2 hown hgrow
  have Z2 := hide (zrow_made hown)
  have B2 := hide (grown_none hgrow)
  clear hown hgrow
  go_wp2
  go_loopw [0, 6] (fun vx vk wr => ∃ (j x : Nat) (T : List Nat), vx = .int .i64 x ∧ vk = .int .i64 ((j : Int) - 1) ∧ j ≤ m ∧ x < 4294967296 ∧ ZRow wr w.heap.size (List.replicate j 0 ++ T) ∧ T0 = hiB x j ++ T ∧ Below w.heap.size w wr) (fun _ vk _ => (intOf vk + 1).toNat)
  case atStart => exact ⟨m, n, [], rfl, rfl, by omega, hn, by rw [List.append_nil]; exact Z2.out, by rw [List.append_nil]; exact HT.out, B2.out⟩
  case round =>
    obtain ⟨j, x, T, rfl, rfl, hj, hx, hz, ht, hb⟩ := hrel
    have TT := hide ht
    have HB := hide hb
    have HZ := hide hz
    clear ht hb
    by_cases h0 : 0 < j
    · obtain ⟨i, rfl⟩ : ∃ i, j = i + 1 := ⟨j - 1, by omega⟩
      have c0 := hz.cell i (by rw [List.length_append, List.length_replicate]; omega)
      have f0 := hz.frozen i
      have ei : (((i + 1 : Nat) : Int) - 1) = (i : Int) := by omega
      have i2 : (i : Int) < (m : Int) := by omega
      clear hz
      rw [ei]
      clear ei
      go_wp2
      go_roundw
      case rel =>
        refine ⟨i, x / 256, x % 256 :: T, int_eq (by omega), int_eq (by omega), by omega, by omega, ?_, ?_, HB.out.setCell (Nat.le_refl _) _⟩
        · rw [← rep_set]
          exact HZ.out.set i (x % 256)
        · rw [TT.out, hiB, List.append_assoc]
          rfl
      case measure => simp [intOf]
    · obtain rfl : j = 0 := by omega
      have e0 : T0 = T := TT.out
      have hcv := hz.conv (n := m) (cap := m) (by rw [List.replicate_zero, List.nil_append, ← e0]; exact HS.out) (by rw [List.replicate_zero, List.nil_append, ← e0, HL.out]; exact Nat.le_refl _)
      rw [List.replicate_zero, List.nil_append, ← e0, List.take_of_length_le (by rw [HL.out]; exact Nat.le_refl _)] at hcv
      clear hz e0
      go_wp2
      go_ret
      exact ⟨rfl, HB.out⟩

theorem shr_byte (n k : Nat) : (n : Int) / 2 ^ (8 * k) = ((n / 256 ^ k : Nat) : Int) := by
  rw [Int.natCast_ediv, Int.natCast_pow, show (((256 : Nat) : Int)) = 2 ^ 8 by decide, ← Int.pow_mul]
theorem low4_take (n k : Nat) (h : k < 4) : (low4 n).take (k + 1) = (low4 n).take k ++ [n / 256 ^ k % 256] := by
  have : k = 0 ∨ k = 1 ∨ k = 2 ∨ k = 3 := by omega
  rcases this with rfl | rfl | rfl | rfl <;> simp [low4]
theorem ofN_append (l m : List Nat) : ofN l ++ ofN m = ofN (l ++ m) := by
  unfold ofN
  rw [ByteArray.mk_append_mk, List.map_append]

set_option maxRecDepth 100000 in
set_option maxHeartbeats 800000 in
theorem l6Low_calls (n : Nat) (w : World) (hn : n < 4294967296) :
    Calls Try.prog 104 #[.int .i64 n] w fun e w' => e = .returned (.string (ofN (low4 n))) ∧ Below w.heap.size w w' := by
  go_enter Try.func104, Try.ntmps104
  go_wp2
  go_loopw [3, 4] (fun vs vk wr => ∃ k : Nat, vk = .int .i64 k ∧ vs = .string (ofN ((low4 n).take k)) ∧ k ≤ 4 ∧ Below w.heap.size w wr) (fun _ vk _ => 4 - (intOf vk).toNat)
  case atStart => exact ⟨0, rfl, rfl, by omega, Below.refl _ _⟩
  case round =>
    obtain ⟨k, rfl, rfl, hk, hb⟩ := hrel
    have HB := hide hb
    clear hb
    by_cases h4 : k < 4
    · have h4' : (k : Int) < 4 := by omega
      go_wp2_with fail
      rw [shr_byte n k]
      refine (l6Bytes_calls (n / 256 ^ k) 1 _ (Nat.lt_of_le_of_lt (Nat.div_le_self _ _) hn) (by omega)).mono ?_
      rintro e w' ⟨rfl, b1⟩
      have HB2 := hide (HB.out.trans (b1.mono HB.out.size))
      clear b1
      have hadd := run_string_add_sum (P := Try.prog) (w := w') (ofN ((low4 n).take k)) (ofN (hiB (n / 256 ^ k) 1)) (by rw [ofN_size, ofN_size, hiB_length, List.length_take, low4_length]; omega)
      go_wp2
      refine ⟨⟨k + 1, int_eq (by omega), ?_, by omega, HB2.out⟩, by simp [intOf]; omega⟩
      rw [ofN_append, low4_take n k h4]
      rfl
    · obtain rfl : k = 4 := by omega
      go_wp2
      go_ret
      exact ⟨rfl, HB.out⟩

/-- The number of some bytes, the highest first. -/
def valB (l : List Nat) : Nat := l.foldl (fun n b => n * 256 + b) 0
theorem valB_snoc (l : List Nat) (b : Nat) : valB (l ++ [b]) = valB l * 256 + b := by simp [valB, List.foldl_append]
theorem valB_lt (l : List Nat) (h : ∀ b ∈ l, b < 256) (hl : l.length ≤ 2) : valB l < 65536 := by
  match l, hl with
  | [], _ => decide
  | [x], _ => have := h x (by simp); simp [valB]; omega
  | [x, y], _ => have := h x (by simp); have := h y (by simp); simp [valB]; omega
theorem i64_or (a b : Nat) (ha : a < 16777216) (hb : b < 256) : bits .or .i64 ((a : Int) * 256) (b : Int) = ((a * 256 + b : Nat) : Int) := by
  have e : a * 256 ||| b = a * 256 + b := by
    have := Nat.shiftLeft_add_eq_or_of_lt (i := 8) (b := b) hb a
    rw [Nat.shiftLeft_eq] at this
    exact this.symm
  show IntKind.i64.wrap ((BitVec.ofInt 64 ((a : Int) * 256) ||| BitVec.ofInt 64 (b : Int)).toNat : Int) = _
  rw [show ((a : Int) * 256) = ((a * 256 : Nat) : Int) by omega, BitVec.toNat_or, ofInt_i64, ofInt_i64, Nat.mod_eq_of_lt (by omega), Nat.mod_eq_of_lt (by omega), e]
  simp [IntKind.wrap, IntKind.bits, IntKind.signed]
  omega

set_option maxRecDepth 100000 in
set_option maxHeartbeats 800000 in
theorem l6Value_calls (s : ByteArray) (w : World) (hs : s.size ≤ 2) :
    Calls Try.prog 106 #[.string s] w fun e w' => e = .returned (.int .i64 (valB (bs s) : Nat)) ∧ w = w' := by
  go_enter Try.func106, Try.ntmps106
  go_wp2
  go_loop [3, 4] (fun vn vk => ∃ k n : Nat, vk = .int .i64 k ∧ vn = .int .i64 n ∧ k ≤ s.size ∧ n = valB ((bs s).take k)) (fun _ vk => s.size - (intOf vk).toNat)
  case atStart => exact ⟨0, 0, rfl, rfl, by omega, rfl⟩
  case round =>
    obtain ⟨k, n, rfl, rfl, hk, hn⟩ := hrel
    have hl : n < 65536 := by rw [hn]; exact valB_lt _ (mem_take_lt (bs_lt s) k) (by rw [List.length_take, bs_length]; omega)
    have HN := hide hn
    clear hn
    by_cases hlt : k < s.size
    · obtain ⟨z, hz⟩ : ∃ z, z = s[k].toNat := ⟨_, rfl⟩
      have hz256 : z < 256 := by rw [hz]; exact (s[k]).toNat_lt
      have hxz := i64_or n z (by omega) hz256
      have hs1 : Hid (valB ((bs s).take (k + 1)) = n * 256 + z) := by
        show _ = _
        rw [bs_snoc s k hlt, valB_snoc, ← HN.out, hz]
      have hz' := hz.symm
      clear hz
      go_wp2
      exact ⟨⟨k + 1, n * 256 + z, int_eq (by omega), rfl, by omega, by rw [hs1.out]⟩, by simp [intOf]; omega⟩
    · obtain rfl : k = s.size := by omega
      go_wp2
      go_ret
      refine ⟨ret_int ?_, rfl⟩
      rw [HN.out, List.take_of_length_le (by rw [bs_length]; exact Nat.le_refl _)]
end Go.Proofs.Ytpgmocogffolaaa

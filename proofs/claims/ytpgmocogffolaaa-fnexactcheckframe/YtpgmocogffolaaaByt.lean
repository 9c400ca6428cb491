/-
  Sums of bytes: one step of a byte, bytes taken in, by the program and by its model, call by call. Each contract says what it asks.
-/
import Derived.Test.YtpgmocogffolaaaChecked
import Derived.Test.YtpgmocogffolaaaCrc
import Derived.WalkKit
import Derived.WalkLawsBesides
import Derived.WalkSpells
import Derived.WalkMore
import Derived.BigQuiet
import Derived.ScopeJumps
import Derived.Laws.OwnMore
import Derived.OneCell
import Derived.Laws.CopyOwn
import Derived.Laws.IdiomStrings
import Derived.Laws.BitsAllLaws
import Derived.Laws.Concat
namespace Go.Proofs.Ytpgmocogffolaaa
open Go.RowKit

theorem hide {p : Prop} (h : p) : Hid p := h
theorem int_eq {k : IntKind} {a b : Int} (h : a = b) : Value.int k a = .int k b := by rw [h]
theorem ret_int {k : IntKind} {a b : Int} (h : a = b) : Ending.returned (.int k a) = .returned (.int k b) := by rw [h]


theorem st_odd {y : Nat} (hy : y < 4294967296) (h : ((y : Int) % 2 == 1) = true) : bits .xor .u32 ((y : Int) / 2) 2197175160 = (Crc.st y : Nat) := by
  have h1 : y % 2 = 1 := by simp at h; omega
  rw [show ((y : Int) / 2) = ((y / 2 : Nat) : Int) by omega, show (2197175160 : Int) = ((2197175160 : Nat) : Int) from rfl, u32_xor_nat _ _ (by omega) (by omega)]
  unfold Crc.st
  rw [h1, Nat.one_mul]
theorem st_nodd {y : Nat} (h : ((y : Int) % 2 == 1) = false) : (y : Int) / 2 = (Crc.st y : Nat) := by
  have h1 : y % 2 = 0 := by simp at h; omega
  unfold Crc.st
  rw [h1, Nat.zero_mul, Nat.xor_zero]
  omega
theorem ofInt_i64 (a : Nat) : (BitVec.ofInt 64 (a : Int)).toNat = a % 18446744073709551616 := by
  rw [BitVec.ofInt_natCast, BitVec.toNat_ofNat]
theorem i64_xor (a b : Nat) (ha : a < 4294967296) (hb : b < 4294967296) : bits .xor .i64 (a : Int) (b : Int) = ((a ^^^ b : Nat) : Int) := by
  have hx : a ^^^ b < 2 ^ 32 := Nat.xor_lt_two_pow (by omega) (by omega)
  show IntKind.i64.wrap ((BitVec.ofInt 64 (a : Int) ^^^ BitVec.ofInt 64 (b : Int)).toNat : Int) = _
  rw [BitVec.toNat_xor, ofInt_i64, ofInt_i64, Nat.mod_eq_of_lt (by omega), Nat.mod_eq_of_lt (by omega)]
  simp [IntKind.wrap, IntKind.bits, IntKind.signed]
  omega
theorem i64_and1 (a : Nat) (ha : a < 4294967296) : bits .and .i64 (a : Int) 1 = ((a % 2 : Nat) : Int) := by
  show IntKind.i64.wrap ((BitVec.ofInt 64 (a : Int) &&& BitVec.ofInt 64 ((1 : Nat) : Int)).toNat : Int) = _
  rw [BitVec.toNat_and, ofInt_i64, ofInt_i64, Nat.mod_eq_of_lt (by omega), Nat.mod_eq_of_lt (by omega), Nat.and_one_is_mod]
  simp [IntKind.wrap, IntKind.bits, IntKind.signed]
  omega
theorem sst_odd {y : Nat} (hy : y < 4294967296) (h : (bits .and .i64 (y : Int) 1 == 1) = true) : bits .xor .i64 ((y : Int) / 2) 2197175160 = (Crc.st y : Nat) := by
  rw [i64_and1 y hy] at h
  have h1 : y % 2 = 1 := by simp at h; omega
  rw [show ((y : Int) / 2) = ((y / 2 : Nat) : Int) by omega, show (2197175160 : Int) = ((2197175160 : Nat) : Int) from rfl, i64_xor _ _ (by omega) (by omega)]
  unfold Crc.st
  rw [h1, Nat.one_mul]
theorem sst_nodd {y : Nat} (hy : y < 4294967296) (h : (bits .and .i64 (y : Int) 1 == 1) = false) : (y : Int) / 2 = (Crc.st y : Nat) := by
  rw [i64_and1 y hy] at h
  exact st_nodd (by simpa using h)

set_option maxRecDepth 100000 in
set_option maxHeartbeats 400000 in
theorem shiftByte_calls (x : Nat) (w : World) (hx : x < 4294967296) :
    Calls Try.prog 159 #[.int .u32 x] w fun e w' => e = .returned (.int .u32 (Crc.sts 8 x : Nat)) ∧ w = w' := by
  go_enter Try.func159, Try.ntmps159
  go_wp2
  go_loop [0, 4] (fun vs vi => ∃ k : Nat, k ≤ 8 ∧ vi = .int .i64 k ∧ vs = .int .u32 (Crc.sts k x : Nat)) (fun _ vi => 8 - (intOf vi).toNat)
  case atStart => exact ⟨0, by omega, rfl, rfl⟩
  case round =>
    obtain ⟨k, hk, rfl, rfl⟩ := hrel
    have hs := hide (Crc.sts_succ k x)
    have hy : Crc.sts k x < 4294967296 := Crc.sts_lt k hx
    generalize hyy : Crc.sts k x = y at hs hy ⊢
    have HY := hide hyy
    clear hyy
    by_cases hlt : k < 8
    · go_wp2
      · exact ⟨⟨k + 1, by omega, by go_num, int_eq (by rw [st_odd hy ‹_›, hs.out])⟩, by simp [intOf]; omega⟩
      · exact ⟨⟨k + 1, by omega, by go_num, int_eq (by rw [st_nodd ‹_›, hs.out])⟩, by simp [intOf]; omega⟩
    · obtain rfl : k = 8 := by omega
      go_wp2
      go_ret
      exact ⟨ret_int (by rw [HY.out]), rfl⟩

set_option maxRecDepth 100000 in
set_option maxHeartbeats 400000 in
theorem l5Byte_calls (x : Nat) (w : World) (hx : x < 4294967296) :
    Calls Try.prog 141 #[.int .i64 x] w fun e w' => e = .returned (.int .i64 (Crc.sts 8 x : Nat)) ∧ w = w' := by
  go_enter Try.func141, Try.ntmps141
  go_wp2
  go_loop [0, 3] (fun vs vi => ∃ k : Nat, k ≤ 8 ∧ vi = .int .i64 k ∧ vs = .int .i64 (Crc.sts k x : Nat)) (fun _ vi => 8 - (intOf vi).toNat)
  case atStart => exact ⟨0, by omega, rfl, rfl⟩
  case round =>
    obtain ⟨k, hk, rfl, rfl⟩ := hrel
    have hs := hide (Crc.sts_succ k x)
    have hy : Crc.sts k x < 4294967296 := Crc.sts_lt k hx
    generalize hyy : Crc.sts k x = y at hs hy ⊢
    have HY := hide hyy
    clear hyy
    by_cases hlt : k < 8
    · go_wp2
      · exact ⟨⟨k + 1, by omega, by go_num, int_eq (by rw [sst_odd hy ‹_›, hs.out])⟩, by simp [intOf]; omega⟩
      · exact ⟨⟨k + 1, by omega, by go_num, int_eq (by rw [sst_nodd hy ‹_›, hs.out])⟩, by simp [intOf]; omega⟩
    · obtain rfl : k = 8 := by omega
      go_wp2
      go_ret
      exact ⟨ret_int (by rw [HY.out]), rfl⟩

/-- The bytes of a text. -/
def bs (s : ByteArray) : List Nat := s.data.toList.map UInt8.toNat
theorem bs_length (s : ByteArray) : (bs s).length = s.size := by unfold bs; rw [List.length_map, Array.length_toList]; rfl
theorem bs_lt (s : ByteArray) : ∀ b ∈ bs s, b < 256 := by
  intro b hb
  obtain ⟨u, _, rfl⟩ := List.mem_map.1 hb
  exact u.toNat_lt
theorem bs_snoc (s : ByteArray) (k : Nat) (h : k < s.size) : (bs s).take (k + 1) = (bs s).take k ++ [s[k].toNat] := by
  rw [List.take_succ_eq_append_getElem (by rw [bs_length]; exact h)]
  congr 2
  simp [bs]
  rfl
theorem mem_take_lt {l : List Nat} (h : ∀ b ∈ l, b < 256) (k : Nat) : ∀ b ∈ l.take k, b < 256 := fun b hb => h b (List.mem_of_mem_take hb)

set_option maxRecDepth 100000 in
set_option maxHeartbeats 400000 in
theorem l5On_calls (c : Nat) (s : ByteArray) (w : World) (hc : c < 4294967296) (hn : s.size ≤ 1048576) :
    Calls Try.prog 105 #[.int .i64 c, .string s] w fun e w' => e = .returned (.int .i64 (Crc.on c (bs s) : Nat)) ∧ w = w' := by
  have hx := i64_xor c 4294967295 hc (by decide)
  have hcF : c ^^^ 4294967295 < 4294967296 := Nat.xor_lt_two_pow (n := 32) hc (by decide)
  go_enter Try.func105, Try.ntmps105
  go_wp2
  go_loop [0, 5] (fun vs vi => ∃ k : Nat, k ≤ s.size ∧ vi = .int .i64 k ∧ vs = .int .i64 (Crc.run (c ^^^ 4294967295) ((bs s).take k) : Nat)) (fun _ vi => s.size - (intOf vi).toNat)
  case atStart => exact ⟨0, by omega, rfl, int_eq hx⟩
  case round =>
    obtain ⟨k, hk, rfl, rfl⟩ := hrel
    have hy : Crc.run (c ^^^ 4294967295) ((bs s).take k) < 4294967296 := Crc.run_lt hcF (mem_take_lt (bs_lt s) k)
    generalize hyy : Crc.run (c ^^^ 4294967295) ((bs s).take k) = y at hy ⊢
    have HY := hide hyy
    clear hyy hx
    by_cases hlt : k < s.size
    · obtain ⟨z, hz⟩ : ∃ z, z = s[k].toNat := ⟨_, rfl⟩
      have hz256 : z < 256 := by rw [hz]; exact (s[k]).toNat_lt
      have hxz := i64_xor y z hy (by omega)
      have hs : Hid (Crc.run (c ^^^ 4294967295) ((bs s).take (k + 1)) = Crc.sts 8 (y ^^^ z)) := by
        show _ = _
        rw [bs_snoc s k hlt, Crc.run_snoc, HY.out, hz]
      have hl : y ^^^ z < 4294967296 := Nat.xor_lt_two_pow (n := 32) hy (by omega)
      have hz' := hz.symm
      clear hz
      go_wp2_with fail
      refine (l5Byte_calls _ _ hl).mono ?_
      rintro e w' ⟨rfl, rfl⟩
      go_wp2
      exact ⟨⟨k + 1, by omega, by go_num, int_eq (by rw [hs.out])⟩, by simp [intOf]; omega⟩
    · obtain rfl : k = s.size := by omega
      have hx := i64_xor y 4294967295 hy (by decide)
      have HX := hide hx
      clear hx
      go_wp2
      go_ret
      refine ⟨ret_int ?_, rfl⟩
      have hf : (bs s).take s.size = bs s := List.take_of_length_le (by rw [bs_length]; exact Nat.le_refl _)
      unfold Crc.on
      rw [← hf, HY.out]
      exact HX.out

/-- The value v is a slice of bytes that reads as these, in this world. -/
def RdL (w : World) (v : Value) (l : List Nat) : Prop :=
  ∃ a cap, v = .slice a l.length cap ∧ l.length ≤ cap ∧ (l = [] ∨ ∃ b off, a = some ⟨b, off, none⟩ ∧ b < w.heap.size ∧ ∀ i, i < l.length → w.cell? ⟨b, off + i, none⟩ = some (.int .u8 (l.getD i 0 : Nat)))
theorem take_snoc (l : List Nat) (k : Nat) (h : k < l.length) : l.take (k + 1) = l.take k ++ [l.getD k 0] := by
  rw [List.take_succ_eq_append_getElem h, List.getD_eq_getElem?_getD, List.getElem?_eq_getElem h]
  rfl
theorem getD_lt {l : List Nat} (h : ∀ b ∈ l, b < 256) (k : Nat) : l.getD k 0 < 256 := by
  rw [List.getD_eq_getElem?_getD]
  cases e : l[k]? with
  | none => show 0 < 256; decide
  | some z => exact h z (List.mem_of_getElem? e)

set_option maxRecDepth 100000 in
set_option maxHeartbeats 400000 in
theorem takeBytes_calls (x : Nat) (v : Value) (l : List Nat) (w : World) (hx : x < 4294967296) (hr : RdL w v l) (hl : ∀ b ∈ l, b < 256) (hn : l.length ≤ 1048576) :
    Calls Try.prog 158 #[.int .u32 x, v] w fun e w' => e = .returned (.int .u32 (Crc.run x l : Nat)) ∧ w = w' := by
  obtain ⟨a, cap, rfl, hcap, hr⟩ := hr
  have HR := hide hr
  clear hr
  go_enter Try.func158, Try.ntmps158
  go_wp2
  refine wp_scope_jumps 0 (fun a' w' => w' = w ∧ ∃ (k y : Nat) (u6 u7 u8 u9 u10 u11 u12 u13 u14 u15 u16 u17 u18 u19 u20 : Value), a' = { tmps := #[.int .u32 y, .slice a l.length cap, undef, undef, .int .u32 0, .int .i64 k, u6, u7, u8, u9, u10, u11, u12, u13, u14, u15, u16, u17, u18, u19, u20], defers := [] } ∧ k ≤ l.length ∧ y = Crc.run x (l.take k)) (fun a' _ => l.length - (intOf (a'.tmps.getD 5 undef)).toNat) rfl ?_ ?_
  · by_cases hlt : 0 < l.length
    · rcases HR.out with h3 | ⟨b, off, rfl, hbs, hc⟩
      · subst h3; simp at hlt
      obtain ⟨z, hz⟩ : ∃ z, z = l.getD 0 0 := ⟨_, rfl⟩
      have hz256 : z < 256 := by rw [hz]; exact getD_lt hl _
      have hcz := hc 0 hlt
      rw [← hz, Nat.add_zero] at hcz
      have hs : Hid (Crc.run x (l.take 1) = Crc.sts 8 (x ^^^ z)) := by
        show _ = _
        rw [take_snoc l 0 hlt, hz]
        rfl
      have hxz := u32_xor_nat x z hx (by omega)
      have hl8 : x ^^^ z < 4294967296 := Nat.xor_lt_two_pow (n := 32) hx (by omega)
      have hne : ¬ (0 : Int) = (l.length : Int) := by omega
      have hneb : ((0 : Int) == (l.length : Int)) = false := by simp; omega
      clear hz hc
      go_wp2
      go_step3
      go_wp2_with fail
      refine (shiftByte_calls _ _ hl8).mono ?_
      rintro e w' ⟨rfl, rfl⟩
      go_wp2
      go_step3
      exact ⟨rfl, rfl, 1, _, _, _, _, _, _, _, _, _, _, _, _, _, _, _, _, rfl, by omega, hs.out.symm⟩
    · have h0 : l = [] := List.eq_nil_of_length_eq_zero (by omega)
      subst h0
      go_wp2
      go_step3
      go_wp2
      simp only [Exit.jump]
      go_ret
      exact ⟨rfl, rfl⟩
  · rintro a' w' ⟨rfl, k, y, u6, u7, u8, u9, u10, u11, u12, u13, u14, u15, u16, u17, u18, u19, u20, rfl, hk, hyy⟩
    have hy : y < 4294967296 := by rw [hyy]; exact Crc.run_lt hx (mem_take_lt hl k)
    have HY := hide hyy
    clear hyy
    by_cases hlt : k < l.length
    · rcases HR.out with h3 | ⟨b, off, rfl, hbs, hc⟩
      · subst h3; simp at hlt
      obtain ⟨z, hz⟩ : ∃ z, z = l.getD k 0 := ⟨_, rfl⟩
      have hz256 : z < 256 := by rw [hz]; exact getD_lt hl _
      have hcz := hc k hlt
      rw [← hz] at hcz
      have hs : Hid (Crc.run x (l.take (k + 1)) = Crc.sts 8 (y ^^^ z)) := by
        show _ = _
        rw [take_snoc l k hlt, Crc.run_snoc, ← HY.out, hz]
      have hxz := u32_xor_nat y z hy (by omega)
      have hl8 : y ^^^ z < 4294967296 := Nat.xor_lt_two_pow (n := 32) hy (by omega)
      have hne : ¬ (k : Int) = (l.length : Int) := by omega
      have hneb : ((k : Int) == (l.length : Int)) = false := by simp; omega
      clear hz hc
      go_wp2_with fail
      refine (shiftByte_calls _ _ hl8).mono ?_
      rintro e w' ⟨rfl, rfl⟩
      go_wp2
      go_step3
      refine ⟨rfl, ⟨rfl, k + 1, _, _, _, _, _, _, _, _, _, _, _, _, _, _, _, _, rfl, by omega, hs.out.symm⟩, ?_⟩
      simp [intOf]
      omega
    · obtain rfl : k = l.length := by omega
      go_wp2
      simp only [Exit.jump]
      go_ret
      refine ⟨ret_int ?_, rfl⟩
      rw [HY.out, List.take_of_length_le (Nat.le_refl _)]
end Go.Proofs.Ytpgmocogffolaaa

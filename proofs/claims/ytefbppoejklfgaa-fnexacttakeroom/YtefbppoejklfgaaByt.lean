/-
  Sums of bytes: one step of a byte, bytes taken in, by the program and by its model, call by call. Each contract says what it asks.
-/
import Derived.Test.YtefbppoejklfgaaChecked
import Derived.Test.YtefbppoejklfgaaCrc
import Derived.WalkKit
import Derived.WalkLawsBesides
import Derived.WalkSpells
import Derived.WalkMore
import Derived.BigQuiet
import Derived.ScopeJumps
import Derived.Laws.OwnMore
import Derived.OneCell
import Derived.Laws.CopyOwn
import Derived.Laws.IdiomStrings
import Derived.Laws.BitsAllLaws
import Derived.Laws.Concat
namespace Go.Proofs.Ytefbppoejklfgaa
open Go.RowKit

theorem hide {p : Prop} (h : p) : Hid p := h
theorem int_eq {k : IntKind} {a b : Int} (h : a = b) : Value.int k a = .int k b := by rw [h]
theorem ret_int {k : IntKind} {a b : Int} (h : a = b) : Ending.returned (.int k a) = .returned (.int k b) := by rw [h]


theorem st_odd {y : Nat} (hy : y < 4294967296) (h : ((y : Int) % 2 == 1) = true) : bits .xor .u32 ((y : Int) / 2) 2197175160 = (Crc.st y : Nat) := by
  have h1 : y % 2 = 1 := by simp at h; omega
  rw [show ((y : Int) / 2) = ((y / 2 : Nat) : Int) by omega, show (2197175160 : Int) = ((2197175160 : Nat) : Int) from rfl, u32_xor_nat _ _ (by omega) (by omega)]
  unfold Crc.st
  rw [h1, Nat.one_mul]
theorem st_nodd {y : Nat} (h : ((y : Int) % 2 == 1) = false) : (y : Int) / 2 = (Crc.st y : Nat) := by
  have h1 : y % 2 = 0 := by simp at h; omega
  unfold Crc.st
  rw [h1, Nat.zero_mul, Nat.xor_zero]
  omega
theorem ofInt_i64 (a : Nat) : (BitVec.ofInt 64 (a : Int)).toNat = a % 18446744073709551616 := by
  rw [BitVec.ofInt_natCast, BitVec.toNat_ofNat]
theorem i64_xor (a b : Nat) (ha : a < 4294967296) (hb : b < 4294967296) : bits .xor .i64 (a : Int) (b : Int) = ((a ^^^ b : Nat) : Int) := by
  have hx : a ^^^ b < 2 ^ 32 := Nat.xor_lt_two_pow (by omega) (by omega)
  show IntKind.i64.wrap ((BitVec.ofInt 64 (a : Int) ^^^ BitVec.ofInt 64 (b : Int)).toNat : Int) = _
  rw [BitVec.toNat_xor, ofInt_i64, ofInt_i64, Nat.mod_eq_of_lt (by omega), Nat.mod_eq_of_lt (by omega)]
  simp [IntKind.wrap, IntKind.bits, IntKind.signed]
  omega
theorem i64_and1 (a : Nat) (ha : a < 4294967296) : bits .and .i64 (a : Int) 1 = ((a % 2 : Nat) : Int) := by
  show IntKind.i64.wrap ((BitVec.ofInt 64 (a : Int) &&& BitVec.ofInt 64 ((1 : Nat) : Int)).toNat : Int) = _
  rw [BitVec.toNat_and, ofInt_i64, ofInt_i64, Nat.mod_eq_of_lt (by omega), Nat.mod_eq_of_lt (by omega), Nat.and_one_is_mod]
  simp [IntKind.wrap, IntKind.bits, IntKind.signed]
  omega
theorem sst_odd {y : Nat} (hy : y < 4294967296) (h : (bits .and .i64 (y : Int) 1 == 1) = true) : bits .xor .i64 ((y : Int) / 2) 2197175160 = (Crc.st y : Nat) := by
  rw [i64_and1 y hy] at h
  have h1 : y % 2 = 1 := by simp at h; omega
  rw [show ((y : Int) / 2) = ((y / 2 : Nat) : Int) by omega, show (2197175160 : Int) = ((2197175160 : Nat) : Int) from rfl, i64_xor _ _ (by omega) (by omega)]
  unfold Crc.st
  rw [h1, Nat.one_mul]
theorem sst_nodd {y : Nat} (hy : y < 4294967296) (h : (bits .and .i64 (y : Int) 1 == 1) = false) : (y : Int) / 2 = (Crc.st y : Nat) := by
  rw [i64_and1 y hy] at h
  exact st_nodd (by simpa using h)

/-- The bytes of a text. -/
def bs (s : ByteArray) : List Nat := s.data.toList.map UInt8.toNat
theorem bs_length (s : ByteArray) : (bs s).length = s.size := by unfold bs; rw [List.length_map, Array.length_toList]; rfl
theorem bs_lt (s : ByteArray) : ∀ b ∈ bs s, b < 256 := by
  intro b hb
  obtain ⟨u, _, rfl⟩ := List.mem_map.1 hb
  exact u.toNat_lt
theorem bs_snoc (s : ByteArray) (k : Nat) (h : k < s.size) : (bs s).take (k + 1) = (bs s).take k ++ [s[k].toNat] := by
  rw [List.take_succ_eq_append_getElem (by rw [bs_length]; exact h)]
  congr 2
  simp [bs]
  rfl
theorem mem_take_lt {l : List Nat} (h : ∀ b ∈ l, b < 256) (k : Nat) : ∀ b ∈ l.take k, b < 256 := fun b hb => h b (List.mem_of_mem_take hb)

/-- The value v is a slice of bytes that reads as these, in this world. -/
def RdL (w : World) (v : Value) (l : List Nat) : Prop :=
  ∃ a cap, v = .slice a l.length cap ∧ l.length ≤ cap ∧ (l = [] ∨ ∃ b off, a = some ⟨b, off, none⟩ ∧ b < w.heap.size ∧ ∀ i, i < l.length → w.cell? ⟨b, off + i, none⟩ = some (.int .u8 (l.getD i 0 : Nat)))
theorem take_snoc (l : List Nat) (k : Nat) (h : k < l.length) : l.take (k + 1) = l.take k ++ [l.getD k 0] := by
  rw [List.take_succ_eq_append_getElem h, List.getD_eq_getElem?_getD, List.getElem?_eq_getElem h]
  rfl
theorem getD_lt {l : List Nat} (h : ∀ b ∈ l, b < 256) (k : Nat) : l.getD k 0 < 256 := by
  rw [List.getD_eq_getElem?_getD]
  cases e : l[k]? with
  | none => show 0 < 256; decide
  | some z => exact h z (List.mem_of_getElem? e)

end Go.Proofs.Ytefbppoejklfgaa

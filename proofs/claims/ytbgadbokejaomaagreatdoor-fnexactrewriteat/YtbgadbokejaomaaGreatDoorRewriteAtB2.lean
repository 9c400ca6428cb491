/-
  Sums of bytes as plain numbers: one step down, a text's bytes taken in, bursts: no memory, no program. No condition. Sums of bytes: one step of a byte, bytes taken in, by the program and by its model, call by call. Each contract says what it asks. Sums of texts, of so many bytes 0, and two sums put together: the program's functions and its model's, call by call. No condition but a bound on a text's length. The sum of so many bytes 0, and two sums put together: the program's functions and its model's, call by call. No condition. A burst over a text's bits: the program's function and its model's, call by call. No condition but a bound on a text's length. A text with some bytes in the place of others, and its sum: the program's function and its model's, call by call. No condition but a bound on the texts' lengths. A frame's bytes, and what is read from them: mathematics over lists of bytes, no program. No condition but those that each fact names. Good frames: the program's function and its model's, call by call, and a frame handed over. No condition.
-/
import Derived.Laws.Bits64
import Derived.Test.YtbgadbokejaomaaGreatDoorChecked
import Derived.WalkKit
import Derived.WalkLawsBesides
import Derived.WalkSpells
import Derived.WalkMore
import Derived.BigQuiet
import Derived.ScopeJumps
import Derived.Laws.OwnMore
import Derived.OneCell
import Derived.Laws.CopyOwn
import Derived.Laws.IdiomStrings
import Derived.Laws.BitsAllLaws
import Derived.Laws.Concat
namespace Go.Proofs.YtbgadbokejaomaaGreatDoor
namespace Crc

/-- One step down. -/
def st (x : Nat) : Nat := x / 2 ^^^ x % 2 * 2197175160
/-- So many steps down. -/
def sts : Nat → Nat → Nat
  | 0, x => x
  | n + 1, x => sts n (st x)
/-- A sum that takes bytes in. -/
def run : Nat → List Nat → Nat
  | s, [] => s
  | s, b :: l => run (sts 8 (s ^^^ b)) l
theorem st_lt {x : Nat} (h : x < 4294967296) : st x < 4294967296 := by
  unfold st
  refine Nat.xor_lt_two_pow (n := 32) (by omega) ?_
  rcases Nat.mod_two_eq_zero_or_one x with hx | hx <;> rw [hx] <;> decide
theorem sts_lt (n : Nat) {x : Nat} (h : x < 4294967296) : sts n x < 4294967296 := by
  induction n generalizing x with
  | zero => exact h
  | succ n ih => exact ih (st_lt h)
theorem sts_add (m n x : Nat) : sts (m + n) x = sts n (sts m x) := by
  induction m generalizing x with
  | zero => rw [Nat.zero_add]; rfl
  | succ m ih => rw [Nat.succ_add]; exact ih (st x)
theorem sts_succ (n x : Nat) : sts (n + 1) x = st (sts n x) := sts_add n 1 x
theorem run_append (s : Nat) (l m : List Nat) : run s (l ++ m) = run (run s l) m := by
  induction l generalizing s with
  | nil => rfl
  | cons b l ih => exact ih _
theorem run_snoc (s : Nat) (l : List Nat) (b : Nat) : run s (l ++ [b]) = sts 8 (run s l ^^^ b) := run_append s l [b]
theorem run_lt {s : Nat} {l : List Nat} (hs : s < 4294967296) (hl : ∀ b ∈ l, b < 256) : run s l < 4294967296 := by
  induction l generalizing s with
  | nil => exact hs
  | cons b l ih => 
    have hb := hl b (by simp)
    exact ih (sts_lt 8 (Nat.xor_lt_two_pow (n := 32) hs (by omega))) (fun x hx => hl x (by simp [hx]))

/-- The sum of a text, from another one on. -/
def on (c : Nat) (l : List Nat) : Nat := run (c ^^^ 4294967295) l ^^^ 4294967295
theorem on_lt {c : Nat} {l : List Nat} (hs : c < 4294967296) (hl : ∀ b ∈ l, b < 256) : on c l < 4294967296 :=
  Nat.xor_lt_two_pow (n := 32) (run_lt (Nat.xor_lt_two_pow (n := 32) hs (by decide)) hl) (by decide)
/-- Some bits of one byte are turned. -/
def xb (l : List Nat) (i c : Nat) : List Nat := l.set i (l.getD i 0 ^^^ c)
/-- A burst: from a bit on, bit by bit, as far as told. -/
def bl : List Nat → Nat → Nat → Nat → List Nat
  | l, _, _, 0 => l
  | l, p, bits, f + 1 => bl (xb l (p / 8) (bits % 2 * 2 ^ (p % 8))) (p + 1) (bits / 2) f
/-- The burst over a whole text. -/
def burst (l : List Nat) (p bits : Nat) : List Nat := bl l p bits (8 * l.length - p)
end Crc
end Go.Proofs.YtbgadbokejaomaaGreatDoor

namespace Go.Proofs.YtbgadbokejaomaaGreatDoor
open Go.RowKit

theorem hide {p : Prop} (h : p) : Hid p := h
theorem int_eq {k : IntKind} {a b : Int} (h : a = b) : Value.int k a = .int k b := by rw [h]
theorem ret_int {k : IntKind} {a b : Int} (h : a = b) : Ending.returned (.int k a) = .returned (.int k b) := by rw [h]


theorem st_odd {y : Nat} (hy : y < 4294967296) (h : ((y : Int) % 2 == 1) = true) : bits .xor .u32 ((y : Int) / 2) 2197175160 = (Crc.st y : Nat) := by
  have h1 : y % 2 = 1 := by simp at h; omega
  rw [show ((y : Int) / 2) = ((y / 2 : Nat) : Int) by omega, show (2197175160 : Int) = ((2197175160 : Nat) : Int) from rfl, u32_xor_nat _ _ (by omega) (by omega)]
  unfold Crc.st
  rw [h1, Nat.one_mul]
theorem st_nodd {y : Nat} (h : ((y : Int) % 2 == 1) = false) : (y : Int) / 2 = (Crc.st y : Nat) := by
  have h1 : y % 2 = 0 := by simp at h; omega
  unfold Crc.st
  rw [h1, Nat.zero_mul, Nat.xor_zero]
  omega
theorem ofInt_i64 (a : Nat) : (BitVec.ofInt 64 (a : Int)).toNat = a % 18446744073709551616 := by
  rw [BitVec.ofInt_natCast, BitVec.toNat_ofNat]
theorem i64_xor (a b : Nat) (ha : a < 4294967296) (hb : b < 4294967296) : bits .xor .i64 (a : Int) (b : Int) = ((a ^^^ b : Nat) : Int) := by
  have hx : a ^^^ b < 2 ^ 32 := Nat.xor_lt_two_pow (by omega) (by omega)
  show IntKind.i64.wrap ((BitVec.ofInt 64 (a : Int) ^^^ BitVec.ofInt 64 (b : Int)).toNat : Int) = _
  rw [BitVec.toNat_xor, ofInt_i64, ofInt_i64, Nat.mod_eq_of_lt (by omega), Nat.mod_eq_of_lt (by omega)]
  simp [IntKind.wrap, IntKind.bits, IntKind.signed]
  omega
theorem i64_and1 (a : Nat) (ha : a < 4294967296) : bits .and .i64 (a : Int) 1 = ((a % 2 : Nat) : Int) := by
  show IntKind.i64.wrap ((BitVec.ofInt 64 (a : Int) &&& BitVec.ofInt 64 ((1 : Nat) : Int)).toNat : Int) = _
  rw [BitVec.toNat_and, ofInt_i64, ofInt_i64, Nat.mod_eq_of_lt (by omega), Nat.mod_eq_of_lt (by omega), Nat.and_one_is_mod]
  simp [IntKind.wrap, IntKind.bits, IntKind.signed]
  omega
theorem sst_odd {y : Nat} (hy : y < 4294967296) (h : (bits .and .i64 (y : Int) 1 == 1) = true) : bits .xor .i64 ((y : Int) / 2) 2197175160 = (Crc.st y : Nat) := by
  rw [i64_and1 y hy] at h
  have h1 : y % 2 = 1 := by simp at h; omega
  rw [show ((y : Int) / 2) = ((y / 2 : Nat) : Int) by omega, show (2197175160 : Int) = ((2197175160 : Nat) : Int) from rfl, i64_xor _ _ (by omega) (by omega)]
  unfold Crc.st
  rw [h1, Nat.one_mul]
theorem sst_nodd {y : Nat} (hy : y < 4294967296) (h : (bits .and .i64 (y : Int) 1 == 1) = false) : (y : Int) / 2 = (Crc.st y : Nat) := by
  rw [i64_and1 y hy] at h
  exact st_nodd (by simpa using h)

set_option maxRecDepth 100000 in
set_option maxHeartbeats 400000 in
theorem shiftByte_calls (x : Nat) (w : World) (hx : x < 4294967296) :
    Calls Tryz.prog 267 #[.int .u32 x] w fun e w' => e = .returned (.int .u32 (Crc.sts 8 x : Nat)) ∧ w = w' := by
  go_enter Tryz.func267, Tryz.ntmps267
  go_wp2
  go_loop [0, 4] (fun vs vi => ∃ k : Nat, k ≤ 8 ∧ vi = .int .i64 k ∧ vs = .int .u32 (Crc.sts k x : Nat)) (fun _ vi => 8 - (intOf vi).toNat)
  case atStart => exact ⟨0, by omega, rfl, rfl⟩
  case round =>
    obtain ⟨k, hk, rfl, rfl⟩ := hrel
    have hs := hide (Crc.sts_succ k x)
    have hy : Crc.sts k x < 4294967296 := Crc.sts_lt k hx
    generalize hyy : Crc.sts k x = y at hs hy ⊢
    have HY := hide hyy
    clear hyy
    by_cases hlt : k < 8
    · go_wp2
      · exact ⟨⟨k + 1, by omega, by go_num, int_eq (by rw [st_odd hy ‹_›, hs.out])⟩, by simp [intOf]; omega⟩
      · exact ⟨⟨k + 1, by omega, by go_num, int_eq (by rw [st_nodd ‹_›, hs.out])⟩, by simp [intOf]; omega⟩
    · obtain rfl : k = 8 := by omega
      go_wp2
      go_ret
      exact ⟨ret_int (by rw [HY.out]), rfl⟩

set_option maxRecDepth 100000 in
set_option maxHeartbeats 400000 in
theorem l5Byte_calls (x : Nat) (w : World) (hx : x < 4294967296) :
    Calls Tryz.prog 203 #[.int .i64 x] w fun e w' => e = .returned (.int .i64 (Crc.sts 8 x : Nat)) ∧ w = w' := by
  go_enter Tryz.func203, Tryz.ntmps203
  go_wp2
  go_loop [0, 3] (fun vs vi => ∃ k : Nat, k ≤ 8 ∧ vi = .int .i64 k ∧ vs = .int .i64 (Crc.sts k x : Nat)) (fun _ vi => 8 - (intOf vi).toNat)
  case atStart => exact ⟨0, by omega, rfl, rfl⟩
  case round =>
    obtain ⟨k, hk, rfl, rfl⟩ := hrel
    have hs := hide (Crc.sts_succ k x)
    have hy : Crc.sts k x < 4294967296 := Crc.sts_lt k hx
    generalize hyy : Crc.sts k x = y at hs hy ⊢
    have HY := hide hyy
    clear hyy
    by_cases hlt : k < 8
    · go_wp2
      · exact ⟨⟨k + 1, by omega, by go_num, int_eq (by rw [sst_odd hy ‹_›, hs.out])⟩, by simp [intOf]; omega⟩
      · exact ⟨⟨k + 1, by omega, by go_num, int_eq (by rw [sst_nodd hy ‹_›, hs.out])⟩, by simp [intOf]; omega⟩
    · obtain rfl : k = 8 := by omega
      go_wp2
      go_ret
      exact ⟨ret_int (by rw [HY.out]), rfl⟩

/-- The bytes of a text. -/
def bs (s : ByteArray) : List Nat := s.data.toList.map UInt8.toNat
theorem bs_length (s : ByteArray) : (bs s).length = s.size := by unfold bs; rw [List.length_map, Array.length_toList]; rfl
theorem bs_lt (s : ByteArray) : ∀ b ∈ bs s, b < 256 := by
  intro b hb
  obtain ⟨u, _, rfl⟩ := List.mem_map.1 hb
  exact u.toNat_lt
theorem bs_snoc (s : ByteArray) (k : Nat) (h : k < s.size) : (bs s).take (k + 1) = (bs s).take k ++ [s[k].toNat] := by
  rw [List.take_succ_eq_append_getElem (by rw [bs_length]; exact h)]
  congr 2
  simp [bs]
  rfl
theorem mem_take_lt {l : List Nat} (h : ∀ b ∈ l, b < 256) (k : Nat) : ∀ b ∈ l.take k, b < 256 := fun b hb => h b (List.mem_of_mem_take hb)

set_option maxRecDepth 100000 in
set_option maxHeartbeats 400000 in
theorem l5On_calls (c : Nat) (s : ByteArray) (w : World) (hc : c < 4294967296) (hn : s.size ≤ 1048576) :
    Calls Tryz.prog 173 #[.int .i64 c, .string s] w fun e w' => e = .returned (.int .i64 (Crc.on c (bs s) : Nat)) ∧ w = w' := by
  have hx := i64_xor c 4294967295 hc (by decide)
  have hcF : c ^^^ 4294967295 < 4294967296 := Nat.xor_lt_two_pow (n := 32) hc (by decide)
  go_enter Tryz.func173, Tryz.ntmps173
  go_wp2
  go_loop [0, 5] (fun vs vi => ∃ k : Nat, k ≤ s.size ∧ vi = .int .i64 k ∧ vs = .int .i64 (Crc.run (c ^^^ 4294967295) ((bs s).take k) : Nat)) (fun _ vi => s.size - (intOf vi).toNat)
  case atStart => exact ⟨0, by omega, rfl, int_eq hx⟩
  case round =>
    obtain ⟨k, hk, rfl, rfl⟩ := hrel
    have hy : Crc.run (c ^^^ 4294967295) ((bs s).take k) < 4294967296 := Crc.run_lt hcF (mem_take_lt (bs_lt s) k)
    generalize hyy : Crc.run (c ^^^ 4294967295) ((bs s).take k) = y at hy ⊢
    have HY := hide hyy
    clear hyy hx
    by_cases hlt : k < s.size
    · obtain ⟨z, hz⟩ : ∃ z, z = s[k].toNat := ⟨_, rfl⟩
      have hz256 : z < 256 := by rw [hz]; exact (s[k]).toNat_lt
      have hxz := i64_xor y z hy (by omega)
      have hs : Hid (Crc.run (c ^^^ 4294967295) ((bs s).take (k + 1)) = Crc.sts 8 (y ^^^ z)) := by
        show _ = _
        rw [bs_snoc s k hlt, Crc.run_snoc, HY.out, hz]
      have hl : y ^^^ z < 4294967296 := Nat.xor_lt_two_pow (n := 32) hy (by omega)
      have hz' := hz.symm
      clear hz
      go_wp2_with fail
      refine (l5Byte_calls _ _ hl).mono ?_
      rintro e w' ⟨rfl, rfl⟩
      go_wp2
      exact ⟨⟨k + 1, by omega, by go_num, int_eq (by rw [hs.out])⟩, by simp [intOf]; omega⟩
    · obtain rfl : k = s.size := by omega
      have hx := i64_xor y 4294967295 hy (by decide)
      have HX := hide hx
      clear hx
      go_wp2
      go_ret
      refine ⟨ret_int ?_, rfl⟩
      have hf : (bs s).take s.size = bs s := List.take_of_length_le (by rw [bs_length]; exact Nat.le_refl _)
      unfold Crc.on
      rw [← hf, HY.out]
      exact HX.out

/-- The value v is a slice of bytes that reads as these, in this world. -/
def RdL (w : World) (v : Value) (l : List Nat) : Prop :=
  ∃ a cap, v = .slice a l.length cap ∧ l.length ≤ cap ∧ (l = [] ∨ ∃ b off, a = some ⟨b, off, none⟩ ∧ b < w.heap.size ∧ ∀ i, i < l.length → w.cell? ⟨b, off + i, none⟩ = some (.int .u8 (l.getD i 0 : Nat)))
theorem take_snoc (l : List Nat) (k : Nat) (h : k < l.length) : l.take (k + 1) = l.take k ++ [l.getD k 0] := by
  rw [List.take_succ_eq_append_getElem h, List.getD_eq_getElem?_getD, List.getElem?_eq_getElem h]
  rfl
theorem getD_lt {l : List Nat} (h : ∀ b ∈ l, b < 256) (k : Nat) : l.getD k 0 < 256 := by
  rw [List.getD_eq_getElem?_getD]
  cases e : l[k]? with
  | none => show 0 < 256; decide
  | some z => exact h z (List.mem_of_getElem? e)

set_option maxRecDepth 100000 in
set_option maxHeartbeats 400000 in
theorem takeBytes_calls (x : Nat) (v : Value) (l : List Nat) (w : World) (hx : x < 4294967296) (hr : RdL w v l) (hl : ∀ b ∈ l, b < 256) (hn : l.length ≤ 1048576) :
    Calls Tryz.prog 266 #[.int .u32 x, v] w fun e w' => e = .returned (.int .u32 (Crc.run x l : Nat)) ∧ w = w' := by
  obtain ⟨a, cap, rfl, hcap, hr⟩ := hr
  have HR := hide hr
  clear hr
  go_enter Tryz.func266, Tryz.ntmps266
  go_wp2
  refine wp_scope_jumps 0 (fun a' w' => w' = w ∧ ∃ (k y : Nat) (u6 u7 u8 u9 u10 u11 u12 u13 u14 u15 u16 u17 u18 u19 u20 : Value), a' = { tmps := #[.int .u32 y, .slice a l.length cap, undef, undef, .int .u32 0, .int .i64 k, u6, u7, u8, u9, u10, u11, u12, u13, u14, u15, u16, u17, u18, u19, u20], defers := [] } ∧ k ≤ l.length ∧ y = Crc.run x (l.take k)) (fun a' _ => l.length - (intOf (a'.tmps.getD 5 undef)).toNat) rfl ?_ ?_
  · by_cases hlt : 0 < l.length
    · rcases HR.out with h3 | ⟨b, off, rfl, hbs, hc⟩
      · subst h3; simp at hlt
      obtain ⟨z, hz⟩ : ∃ z, z = l.getD 0 0 := ⟨_, rfl⟩
      have hz256 : z < 256 := by rw [hz]; exact getD_lt hl _
      have hcz := hc 0 hlt
      rw [← hz, Nat.add_zero] at hcz
      have hs : Hid (Crc.run x (l.take 1) = Crc.sts 8 (x ^^^ z)) := by
        show _ = _
        rw [take_snoc l 0 hlt, hz]
        rfl
      have hxz := u32_xor_nat x z hx (by omega)
      have hl8 : x ^^^ z < 4294967296 := Nat.xor_lt_two_pow (n := 32) hx (by omega)
      have hne : ¬ (0 : Int) = (l.length : Int) := by omega
      have hneb : ((0 : Int) == (l.length : Int)) = false := by simp; omega
      clear hz hc
      go_wp2
      go_step3
      go_wp2_with fail
      refine (shiftByte_calls _ _ hl8).mono ?_
      rintro e w' ⟨rfl, rfl⟩
      go_wp2
      go_step3
      exact ⟨rfl, rfl, 1, _, _, _, _, _, _, _, _, _, _, _, _, _, _, _, _, rfl, by omega, hs.out.symm⟩
    · have h0 : l = [] := List.eq_nil_of_length_eq_zero (by omega)
      subst h0
      go_wp2
      go_step3
      go_wp2
      simp only [Exit.jump]
      go_ret
      exact ⟨rfl, rfl⟩
  · rintro a' w' ⟨rfl, k, y, u6, u7, u8, u9, u10, u11, u12, u13, u14, u15, u16, u17, u18, u19, u20, rfl, hk, hyy⟩
    have hy : y < 4294967296 := by rw [hyy]; exact Crc.run_lt hx (mem_take_lt hl k)
    have HY := hide hyy
    clear hyy
    by_cases hlt : k < l.length
    · rcases HR.out with h3 | ⟨b, off, rfl, hbs, hc⟩
      · subst h3; simp at hlt
      obtain ⟨z, hz⟩ : ∃ z, z = l.getD k 0 := ⟨_, rfl⟩
      have hz256 : z < 256 := by rw [hz]; exact getD_lt hl _
      have hcz := hc k hlt
      rw [← hz] at hcz
      have hs : Hid (Crc.run x (l.take (k + 1)) = Crc.sts 8 (y ^^^ z)) := by
        show _ = _
        rw [take_snoc l k hlt, Crc.run_snoc, ← HY.out, hz]
      have hxz := u32_xor_nat y z hy (by omega)
      have hl8 : y ^^^ z < 4294967296 := Nat.xor_lt_two_pow (n := 32) hy (by omega)
      have hne : ¬ (k : Int) = (l.length : Int) := by omega
      have hneb : ((k : Int) == (l.length : Int)) = false := by simp; omega
      clear hz hc
      go_wp2_with fail
      refine (shiftByte_calls _ _ hl8).mono ?_
      rintro e w' ⟨rfl, rfl⟩
      go_wp2
      go_step3
      refine ⟨rfl, ⟨rfl, k + 1, _, _, _, _, _, _, _, _, _, _, _, _, _, _, _, _, rfl, by omega, hs.out.symm⟩, ?_⟩
      simp [intOf]
      omega
    · obtain rfl : k = l.length := by omega
      go_wp2
      simp only [Exit.jump]
      go_ret
      refine ⟨ret_int ?_, rfl⟩
      rw [HY.out, List.take_of_length_le (Nat.le_refl _)]
end Go.Proofs.YtbgadbokejaomaaGreatDoor

namespace Go.Proofs.YtbgadbokejaomaaGreatDoor
open Go.RowKit

/-- What '[]byte(s)' leaves of a world. -/
def bytesW (s : ByteArray) (w : World) : World := w.drew.alloc (.cells (bytesRow s (grownCap w s.size 0 5)) 5 ((bytesRow s (grownCap w s.size 0 5)).size, (bytesRow s (grownCap w s.size 0 5)).size + 1))
def bytesC (s : ByteArray) (w : World) : Nat := grownCap w s.size 0 5
theorem conv_bytes (s : ByteArray) (w : World) : (convert 9 56 (.string s)).run Tryz.prog w = .ok (.slice (some ⟨w.heap.size, 0, none⟩) s.size (bytesC s w)) (bytesW s w) :=
  run_bytes_of_string w 9 56 5 s Tryz.underlying9 Tryz.underlying56 Tryz.underlying5
theorem bytesW_below (s : ByteArray) (w : World) : Below w.heap.size w (bytesW s w) := Below.alloc (w := w.drew) (below_drewN (Below.refl _ _) 1) (Nat.le_refl _) _
theorem bytesC_ge (s : ByteArray) (w : World) : s.size ≤ bytesC s w := grownCap_ge w s.size 0 5
theorem bs_getD (s : ByteArray) (i : Nat) (h : i < s.data.size) : (bs s).getD i 0 = s.data[i].toNat := by
  unfold bs
  rw [List.getD_eq_getElem?_getD, List.getElem?_map, Array.getElem?_toList, Array.getElem?_eq_getElem h]
  rfl
theorem bytesW_cell (s : ByteArray) (w : World) (i : Nat) (h : i < s.size) : (bytesW s w).cell? ⟨w.heap.size, i, none⟩ = some (.int .u8 ((bs s).getD i 0 : Nat)) := by
  unfold bytesW
  have := World.cell?_alloc_mark w.drew (bytesRow s (grownCap w s.size 0 5)) 5 ((bytesRow s (grownCap w s.size 0 5)).size, (bytesRow s (grownCap w s.size 0 5)).size + 1) i
  rw [bytesRow_at s _ i h, ← bs_getD s i h] at this
  exact this
theorem bytesW_rd (s : ByteArray) (w : World) : RdL (bytesW s w) (.slice (some ⟨w.heap.size, 0, none⟩) s.size (bytesC s w)) (bs s) := by
  refine ⟨_, bytesC s w, by rw [bs_length], by rw [bs_length]; exact bytesC_ge s w, .inr ⟨_, 0, rfl, ?_, fun i hi => ?_⟩⟩
  · show _ < (w.heap.push _).size
    simp
  · rw [bs_length] at hi
    rw [Nat.zero_add]
    exact bytesW_cell s w i hi

set_option maxRecDepth 100000 in
theorem has32_yes (n : Int) (w : World) (h0 : 0 ≤ n) (h1 : n ≤ 4294967295) : Calls Tryz.prog 265 #[.int .i64 n] w fun e w' => e = .returned (.bool true) ∧ w = w' := by
  go_enter Tryz.func265, Tryz.ntmps265
  go_wp2
  go_ret
  exact ⟨rfl, rfl⟩
set_option maxRecDepth 100000 in
theorem has32_no (n : Int) (w : World) (h : n < 0 ∨ 4294967295 < n) : Calls Tryz.prog 265 #[.int .i64 n] w fun e w' => e = .returned (.bool false) ∧ w = w' := by
  rcases h with h | h
  · go_enter Tryz.func265, Tryz.ntmps265
    go_wp2
    go_ret
    exact ⟨rfl, rfl⟩
  · have h0 : 0 ≤ n := by omega
    have hd : decide (n ≤ 4294967295) = false := decide_eq_false (by omega)
    go_enter Tryz.func265, Tryz.ntmps265
    go_wp2
    go_ret
    exact ⟨rfl, rfl⟩
set_option maxRecDepth 100000 in
theorem l1In_yes (n a b : Int) (w : World) (h0 : a ≤ n) (h1 : n ≤ b) : Calls Tryz.prog 57 #[.int .i64 n, .int .i64 a, .int .i64 b] w fun e w' => e = .returned (.bool true) ∧ w = w' := by
  go_enter Tryz.func57, Tryz.ntmps57
  go_wp2
  go_ret
  exact ⟨rfl, rfl⟩
set_option maxRecDepth 100000 in
theorem l1In_no (n a b : Int) (w : World) (h : n < a ∨ b < n) : Calls Tryz.prog 57 #[.int .i64 n, .int .i64 a, .int .i64 b] w fun e w' => e = .returned (.bool false) ∧ w = w' := by
  by_cases h0 : a ≤ n
  · have h : b < n := by omega
    have hd : decide (n ≤ b) = false := decide_eq_false (by omega)
    go_enter Tryz.func57, Tryz.ntmps57
    go_wp2
    go_ret
    exact ⟨rfl, rfl⟩
  · have h : n < a := by omega
    go_enter Tryz.func57, Tryz.ntmps57
    go_wp2
    go_ret
    exact ⟨rfl, rfl⟩
theorem u32_not (a : Nat) (ha : a < 4294967296) : bits .xor .u32 IntKind.u32.max (a : Int) = ((a ^^^ 4294967295 : Nat) : Int) := by
  have e : IntKind.u32.max = ((4294967295 : Nat) : Int) := by decide
  rw [e, u32_xor_nat _ _ (by decide) ha, Nat.xor_comm]
theorem ret_two {a b : Int} {c d : Bool} (h : a = b) (h' : c = d) : Ending.returned (.tuple #[.int .i64 a, .bool c]) = .returned (.tuple #[.int .i64 b, .bool d]) := by rw [h, h']
/-- A text's sum from another one on, and whether there is one. -/
def onR (c : Int) (s : ByteArray) : Int × Bool := if (0 ≤ c ∧ c ≤ 4294967295) ∧ s.size ≤ 400 then (((Crc.on c.toNat (bs s) : Nat) : Int), true) else (0, false)

set_option maxRecDepth 100000 in
set_option maxHeartbeats 800000 in
theorem sumOn_calls (c : Int) (s : ByteArray) (w : World) (hs : s.size ≤ maxLen) :
    Calls Tryz.prog 262 #[.int .i64 c, .string s] w fun e w' => e = .returned (.tuple #[.int .i64 (onR c s).1, .bool (onR c s).2]) ∧ Below w.heap.size w w' := by
  unfold maxLen at hs
  by_cases hc : 0 ≤ c ∧ c ≤ 4294967295
  case neg =>
    have e : onR c s = (0, false) := if_neg (fun h => hc h.1)
    rw [e]
    go_enter Tryz.func262, Tryz.ntmps262
    go_wp2_with fail
    refine (has32_no _ _ (by omega)).mono ?_
    rintro e w' ⟨rfl, rfl⟩
    go_wp2
    go_ret2
    exact ⟨rfl, Below.refl _ _⟩
  by_cases hl : s.size ≤ 400
  case neg =>
    have e : onR c s = (0, false) := if_neg (fun h => hl h.2)
    rw [e]
    go_enter Tryz.func262, Tryz.ntmps262
    go_wp2_with fail
    refine (has32_yes _ _ hc.1 hc.2).mono ?_
    rintro e w' ⟨rfl, rfl⟩
    go_wp2
    go_ret2
    exact ⟨rfl, Below.refl _ _⟩
  have e : onR c s = (((Crc.on c.toNat (bs s) : Nat) : Int), true) := if_pos ⟨hc, hl⟩
  rw [e]
  clear e
  obtain ⟨C, rfl⟩ := Int.eq_ofNat_of_zero_le hc.1
  simp only [Int.toNat_natCast]
  have hC : C ≤ 4294967295 := by omega
  have hcv := conv_bytes s
  have hCF : C ^^^ 4294967295 < 4294967296 := Nat.xor_lt_two_pow (n := 32) (by omega) (by decide)
  have hnt := u32_not C (by omega)
  go_enter Tryz.func262, Tryz.ntmps262
  go_wp2_with fail
  refine (has32_yes _ _ hc.1 hc.2).mono ?_
  rintro e w' ⟨rfl, rfl⟩
  go_wp2_with fail
  refine (takeBytes_calls _ _ _ _ hCF (bytesW_rd s w) (bs_lt s) (by rw [bs_length]; omega)).mono ?_
  rintro e w' ⟨rfl, rfl⟩
  have hy : Crc.run (C ^^^ 4294967295) (bs s) < 4294967296 := Crc.run_lt hCF (bs_lt s)
  have HY : Hid (Crc.on C (bs s) = Crc.run (C ^^^ 4294967295) (bs s) ^^^ 4294967295) := hide rfl
  generalize Crc.run (C ^^^ 4294967295) (bs s) = y at hy HY ⊢
  have hnt2 := u32_not y hy
  have hyF : y ^^^ 4294967295 < 4294967296 := Nat.xor_lt_two_pow (n := 32) hy (by decide)
  go_wp2
  go_ret2
  exact ⟨ret_two (by rw [HY.out]) rfl, bytesW_below s w⟩

set_option maxRecDepth 100000 in
theorem sumOf_calls (s : ByteArray) (w : World) (hs : s.size ≤ maxLen) :
    Calls Tryz.prog 242 #[.string s] w fun e w' => e = .returned (.tuple #[.int .i64 (onR 0 s).1, .bool (onR 0 s).2]) ∧ Below w.heap.size w w' := by
  go_enter Tryz.func242, Tryz.ntmps242
  go_wp2_with fail
  refine (sumOn_calls 0 s _ hs).mono ?_
  rintro e w' ⟨rfl, hb⟩
  go_wp2
  go_ret2
  exact ⟨rfl, hb⟩

end Go.Proofs.YtbgadbokejaomaaGreatDoor

namespace Go.Proofs.YtbgadbokejaomaaGreatDoor
open Go.RowKit

theorem infoByte : (Tryz.prog.info? 5).map (fun i => (i.zero, i.size, i.bytes)) = some (some (.int .u8 0), 1, 1) := by kernel_rfl
/-- 'make([]byte, n)': n bytes 0 of the call's own, in the next block. -/
theorem wpList_make_bytes {w : World} {ops : Array Oper} {rest : List Oper} {o : Oper} {a : Act} {Q : Exit → Act → World → Prop} (hg : o.guard = none) (l c : Operand) (hop : o.op = Op.makeSlice 56 l c)
    (base : Nat) (L C : Int) (n : Nat) (hl : a.eval l = .int .i64 L) (hc : a.eval c = .int .i64 C) (hL : L = (n : Int)) (hC : C = (n : Int)) (hn : n ≤ 1073741824) (hb : base ≤ w.heap.size)
    (h : ∀ w', w'.ownsRow base 5 1 (.slice (some ⟨w.heap.size, 0, none⟩) n n) n (List.replicate n (.int .u8 0)) → w.grownBy w' none → wpList Tryz.prog ops Q rest (a.put o.dst (.slice (some ⟨w.heap.size, 0, none⟩) n n)) w') : wpList Tryz.prog ops Q (o :: rest) a w := by
  obtain ⟨i0, hi, hz0, hz1, hz2⟩ := info_parts infoByte
  refine wpList_make_full w hg l c _ hop base 5 i0 (.int .u8 0) 1 Tryz.underlying56 hi hz0 hz1 _ _ L C n hl hc hL hC (by rw [hz2]; omega) (by unfold maxLen; omega) hb ?_
  intro w' ho hg'
  refine h w' ?_ hg'
  have e : (madeCells (Value.int .u8 0).cells (n * 1)).toList = List.replicate n (Value.int .u8 0) := by
    rw [Nat.mul_one]; exact toList_madeCells_one _ n
  rw [e] at ho
  exact ho
/-- The text of n bytes 0. -/
def zst (n : Nat) : ByteArray := ⟨(List.replicate n (0 : UInt8)).toArray⟩
theorem zst_size (n : Nat) : (zst n).size = n := by show (List.replicate n (0 : UInt8)).toArray.size = n; simp
theorem bs_zst (n : Nat) : bs (zst n) = List.replicate n 0 := by
  unfold bs zst
  simp
theorem grown_none {w w' : World} (hg : w.grownBy w' none) : Below w.heap.size w w' := (Below.refl _ _).grown hg (Nat.le_refl _) (fun k h => by cases h)

end Go.Proofs.YtbgadbokejaomaaGreatDoor

namespace Go.Proofs.YtbgadbokejaomaaGreatDoor
open Go.RowKit

/-- Block g is a row of bytes, m places, that begins with these; it bears the mark of a text's bytes. -/
def BRow (w : World) (g m : Nat) (l : List Nat) : Prop :=
  ∃ C : Array Value, w.heap[g]? = some (.cells C 5 (m, m + 1)) ∧ l.length ≤ m ∧ C.size = m ∧ ∀ i, i < l.length → C[i]? = some (.int .u8 (l.getD i 0 : Nat))
theorem BRow.lt {w : World} {g m : Nat} {l : List Nat} (h : BRow w g m l) : g < w.heap.size := by
  obtain ⟨C, h1, _⟩ := h
  exact (Array.getElem?_eq_some_iff.1 h1).1
theorem BRow.cell {w : World} {g m : Nat} {l : List Nat} (h : BRow w g m l) (i : Nat) (hi : i < l.length) : w.cell? ⟨g, i, none⟩ = some (.int .u8 (l.getD i 0 : Nat)) := by
  obtain ⟨C, h1, _, _, h4⟩ := h
  rw [cell_of_row w g i C _ _ h1]
  exact h4 i hi
theorem BRow.frozen {w : World} {g m : Nat} {l : List Nat} (h : BRow w g m l) (i : Nat) (hi : i < l.length) : w.frozen? ⟨g, i, none⟩ = false := by
  obtain ⟨C, h1, h2, _⟩ := h
  simp [World.frozen?, h1]
  omega
theorem BRow.set {w : World} {g m : Nat} {l : List Nat} (h : BRow w g m l) (i v : Nat) : BRow (w.setCell ⟨g, i, none⟩ (.int .u8 (v : Nat))) g m (l.set i v) := by
  obtain ⟨C, h1, h2, h3, h4⟩ := h
  refine ⟨C.setIfInBounds i (.int .u8 (v : Nat)), ?_, by rw [List.length_set]; exact h2, by simpa using h3, fun j hj => ?_⟩
  · simp [World.setCell, Array.getElem?_modify, h1]
  · rw [List.length_set] at hj
    have e := h4 j hj
    rw [Array.getElem?_setIfInBounds, List.getD_eq_getElem?_getD, List.getElem?_set]
    by_cases hij : i = j
    · subst hij
      have hlt : i < C.size := by omega
      simp [hj, hlt]
    · rw [if_neg hij, if_neg hij, e, List.getD_eq_getElem?_getD]
theorem BRow.drew {w : World} {g m : Nat} {l : List Nat} (h : BRow w g m l) : BRow w.drew g m l := h
theorem BRow.rd {w : World} {g m : Nat} {l : List Nat} (h : BRow w g m l) : RdL w (.slice (some ⟨g, 0, none⟩) l.length m) l :=
  ⟨_, m, rfl, by obtain ⟨C, h1, h2, _⟩ := h; exact h2, .inr ⟨g, 0, rfl, h.lt, fun i hi => by rw [Nat.zero_add]; exact h.cell i hi⟩⟩
theorem bytesW_row (s : ByteArray) (w : World) : BRow (bytesW s w) w.heap.size (bytesC s w) (bs s) := by
  have hsz : (bytesRow s (bytesC s w)).size = bytesC s w := by
    have := bytesC_ge s w
    unfold bytesRow
    simp
    have e : s.data.size = s.size := rfl
    omega
  refine ⟨bytesRow s (bytesC s w), ?_, by rw [bs_length]; exact bytesC_ge s w, hsz, fun i hi => ?_⟩
  · have e : (bytesW s w).heap[w.heap.size]? = some (.cells (bytesRow s (bytesC s w)) 5 ((bytesRow s (bytesC s w)).size, (bytesRow s (bytesC s w)).size + 1)) := by
      show (w.heap.push _)[w.heap.size]? = _
      simp only [Array.getElem?_push_size]
      rfl
    rw [e, hsz]
  · rw [bs_length] at hi
    rw [bytesRow_at s _ i hi, bs_getD s i hi]
/-- The text with these bytes. -/
def ofN (l : List Nat) : ByteArray := ⟨(l.map UInt8.ofNat).toArray⟩
theorem ofN_size (l : List Nat) : (ofN l).size = l.length := by
  show (l.map UInt8.ofNat).toArray.size = _
  rw [List.size_toArray, List.length_map]
theorem map_ofNat {l : List Nat} (h : ∀ b ∈ l, b < 256) : (l.map UInt8.ofNat).map UInt8.toNat = l := by
  rw [List.map_map]
  conv => rhs; rw [← List.map_id l]
  refine List.map_congr_left fun b hb => ?_
  show (UInt8.ofNat b).toNat = b
  rw [UInt8.toNat_ofNat']
  exact Nat.mod_eq_of_lt (h b hb)
theorem bs_ofN {l : List Nat} (h : ∀ b ∈ l, b < 256) : bs (ofN l) = l := by
  unfold bs ofN
  exact map_ofNat h
theorem ofN_bs (s : ByteArray) : ofN (bs s) = s := by
  obtain ⟨⟨d⟩⟩ := s
  unfold ofN bs
  have e : (d.map UInt8.toNat).map UInt8.ofNat = d := by
    rw [List.map_map]
    conv => rhs; rw [← List.map_id d]
    refine List.map_congr_left fun b _ => ?_
    show UInt8.ofNat b.toNat = b
    simp
  show ByteArray.mk ((d.map UInt8.toNat).map UInt8.ofNat).toArray = _
  rw [e]
theorem conv_row {w : World} {g m n : Nat} {l : List Nat} (h : BRow w g m l) (hl : ∀ b ∈ l, b < 256) (hn : l.length = n) :
    (convert 56 9 (.slice (some ⟨g, 0, none⟩) n m)).run Tryz.prog w = .ok (.string (ofN l)) w := by
  have := run_convert_bytes_back (P := Tryz.prog) w 56 9 5 ⟨g, 0, none⟩ m (l.map UInt8.ofNat) Tryz.underlying56 Tryz.underlying5 Tryz.underlying9 (fun j hj => by
    have hj' : j < l.length := by simpa using hj
    have hadd : (⟨g, 0, none⟩ : Addr).add j = ⟨g, 0 + j, none⟩ := by unfold Addr.add; split <;> simp_all
    rw [hadd, Nat.zero_add, h.cell j hj', List.getD_eq_getElem?_getD, List.getElem?_eq_getElem hj', List.getElem_map, Option.getD_some]
    rw [UInt8.toNat_ofNat', Nat.mod_eq_of_lt (hl _ (List.getElem_mem hj'))])
  rw [List.length_map, hn] at this
  exact this

end Go.Proofs.YtbgadbokejaomaaGreatDoor

namespace Go.Proofs.YtbgadbokejaomaaGreatDoor
open Go.RowKit

theorem seg_step {α : Type} (l : List α) (k : Nat) (v : α) (rest : List α) (hk : k + (rest.length + 1) ≤ l.length) :
    (l.set k v).take (k + 1) ++ rest ++ (l.set k v).drop (k + 1 + rest.length) = l.take k ++ (v :: rest) ++ l.drop (k + (rest.length + 1)) := by
  have h1 : (l.set k v).take (k + 1) = l.take k ++ [v] := by
    rw [List.take_succ_eq_append_getElem (by rw [List.length_set]; omega), List.getElem_set_self, List.take_set_of_le (Nat.le_refl _)]
  have h2 : (l.set k v).drop (k + 1 + rest.length) = l.drop (k + (rest.length + 1)) := by
    rw [List.drop_set_of_lt (by omega)]
    congr 1
    omega
  rw [h1, h2]
  simp
theorem BRow.grownBy_set {w : World} (g i : Nat) (v : Value) : w.grownBy (w.setCell ⟨g, i, none⟩ v) (some g) :=
  ⟨rfl, rfl, rfl, by simp, fun j _ hj => Below.heap_setCell _ _ _ j (fun e => hj (by rw [e]))⟩
theorem grown_trans {w w' w'' : World} {row : Option Nat} (h : w.grownBy w' row) (k : w'.grownBy w'' row) : w.grownBy w'' row :=
  ⟨k.os.trans h.os, k.tape.trans h.tape, k.output.trans h.output, Nat.le_trans h.size k.size, fun j hj hne => (k.block j (Nat.lt_of_lt_of_le hj h.size) hne).trans (h.block j hj hne)⟩
end Go.Proofs.YtbgadbokejaomaaGreatDoor

namespace Go.Proofs.YtbgadbokejaomaaGreatDoor
open Go.RowKit

/-- Four bytes of a sum, the lowest first. -/
def low4 (n : Nat) : List Nat := [n % 256, n / 256 % 256, n / 65536 % 256, n / 16777216 % 256]
/-- All of a frame ahead of its sum. -/
def headB (K A E : Nat) (b : List Nat) : List Nat := [K, A / 256, A % 256, E / 256, E % 256, b.length] ++ (b ++ List.replicate (18 - b.length) 0)
def frB (K A E : Nat) (b : List Nat) : List Nat := headB K A E b ++ low4 (Crc.on 0 (headB K A E b))
theorem low4_length (n : Nat) : (low4 n).length = 4 := rfl
theorem low4_small (n : Nat) : ∀ b ∈ low4 n, b < 256 := by
  intro b hb
  simp only [low4, List.mem_cons, List.not_mem_nil, or_false] at hb
  omega
theorem headB_length {K A E : Nat} {b : List Nat} (h : b.length ≤ 16) : (headB K A E b).length = 24 := by
  unfold headB
  rw [List.length_append, List.length_append, List.length_replicate]
  simp
  omega
theorem headB_small {K A E : Nat} {b : List Nat} (hK : K < 256) (hA : A < 65536) (hE : E < 65536) (h : b.length ≤ 16) (hb : ∀ x ∈ b, x < 256) : ∀ x ∈ headB K A E b, x < 256 := by
  intro x hx
  unfold headB at hx
  rw [List.mem_append, List.mem_append] at hx
  rcases hx with hx | hx | hx
  · simp only [List.mem_cons, List.not_mem_nil, or_false] at hx
    omega
  · exact hb x hx
  · have := (List.mem_replicate.1 hx).2
    omega
theorem frB_length {K A E : Nat} {b : List Nat} (h : b.length ≤ 16) : (frB K A E b).length = 28 := by
  unfold frB
  rw [List.length_append, headB_length h, low4_length]
theorem frB_small {K A E : Nat} {b : List Nat} (hK : K < 256) (hA : A < 65536) (hE : E < 65536) (h : b.length ≤ 16) (hb : ∀ x ∈ b, x < 256) : ∀ x ∈ frB K A E b, x < 256 := by
  intro x hx
  unfold frB at hx
  rw [List.mem_append] at hx
  rcases hx with hx | hx
  · exact headB_small hK hA hE h hb x hx
  · exact low4_small _ x hx
/-- A good frame. -/
abbrev goodF (K A E : Int) (n : Nat) : Prop := ((1 ≤ K ∧ K ≤ 255) ∧ (0 ≤ A ∧ A ≤ 60000)) ∧ (0 ≤ E ∧ E ≤ 60000) ∧ n ≤ 16
def goodD (K A E : Int) (n : Nat) : Bool := decide (goodF K A E n)
theorem goodD_yes {K A E : Int} {n : Nat} (h : goodF K A E n) : goodD K A E n = true := decide_eq_true h
theorem goodD_no {K A E : Int} {n : Nat} (h : ¬ goodF K A E n) : goodD K A E n = false := decide_eq_false h
/-- What FrameBytes answers. -/
def frR (K A E : Int) (b : ByteArray) : ByteArray × Bool :=
  if goodF K A E b.size then (ofN (frB K.toNat A.toNat E.toNat (bs b)), true) else (⟨#[]⟩, false)
def epochOf (l : List Nat) : Nat := l.getD 3 0 * 256 + l.getD 4 0
def longOf (l : List Nat) : Nat := l.getD 5 0
def bodyOf (l : List Nat) : List Nat := (l.drop 6).take (longOf l)
theorem bs_inj {s t : ByteArray} (h : bs s = bs t) : s = t := by rw [← ofN_bs s, ← ofN_bs t, h]
end Go.Proofs.YtbgadbokejaomaaGreatDoor

namespace Go.Proofs.YtbgadbokejaomaaGreatDoor
open Go.RowKit

theorem ret_bool {a b : Bool} (h : a = b) : Ending.returned (.bool a) = .returned (.bool b) := by rw [h]
theorem below_box (w : World) (o : Obj) : Below w.heap.size w (w.alloc o) := (Below.refl _ _).alloc (Nat.le_refl _) o

set_option maxRecDepth 100000 in
theorem isEpoch_calls (e : Int) (w : World) :
    Calls Tryz.prog 114 #[.int .i64 e] w fun x w' => x = .returned (.bool (decide (0 ≤ e ∧ e ≤ 60000))) ∧ w = w' := by
  go_enter Tryz.func114, Tryz.ntmps114
  go_wp2
  all_goals
    go_ret
    refine ⟨ret_bool ?_, rfl⟩
    simp
    try omega

set_option maxRecDepth 100000 in
set_option maxHeartbeats 800000 in
theorem goodFrame_calls (K A E : Int) (b : ByteArray) (w : World) (hb : b.size ≤ maxLen) :
    Calls Tryz.prog 211 #[.agg #[.int .i64 K, .int .i64 A, .int .i64 E, .string b]] w fun e w' => e = .returned (.bool (goodD K A E b.size)) ∧ Below w.heap.size w w' := by
  unfold maxLen at hb
  go_enter Tryz.func211, Tryz.ntmps211
  go_wp2_with (go_at_call 114; refine (isEpoch_calls E _).mono ?_; rintro x w1 ⟨rfl, rfl⟩; rcases hE : decide (0 ≤ E ∧ E ≤ 60000) with _ | _)
  all_goals
    go_ret
    refine ⟨ret_bool ?_, below_box _ _⟩
    first
      | (symm; exact goodD_no (by unfold goodF; omega))
      | (symm; exact goodD_no (by unfold goodF; intro q; have := of_decide_eq_false hE; omega))
      | (have hE' := of_decide_eq_true hE
         by_cases h16 : b.size ≤ 16
         · rw [goodD_yes (by unfold goodF; omega)]; simp; omega
         · rw [goodD_no (by unfold goodF; omega)]; simp; omega)

end Go.Proofs.YtbgadbokejaomaaGreatDoor

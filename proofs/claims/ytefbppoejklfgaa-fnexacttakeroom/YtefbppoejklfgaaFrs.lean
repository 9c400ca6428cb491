/-
  Bytes of a number, a number of bytes, a frame's bytes: the model's functions, call by call. Each contract says what it asks.
-/
import Derived.Test.YtefbppoejklfgaaFrb
namespace Go.Proofs.Ytefbppoejklfgaa
open Go.RowKit

/-- So many bytes of a number, the highest first. -/
def hiB (n : Nat) : Nat → List Nat
  | 0 => []
  | m + 1 => hiB (n / 256) m ++ [n % 256]
theorem hiB_small (m : Nat) : ∀ n, ∀ b ∈ hiB n m, b < 256 := by
  induction m with
  | zero => intro n b hb; simp [hiB] at hb
  | succ m ih =>
    intro n b hb
    rw [hiB, List.mem_append] at hb
    rcases hb with hb | hb
    · exact ih _ b hb
    · simp at hb; omega
theorem hiB_length (m : Nat) : ∀ n, (hiB n m).length = m := by
  induction m with
  | zero => intro n; rfl
  | succ m ih => intro n; rw [hiB, List.length_append, ih]; rfl
theorem rep_set (j v : Nat) (T : List Nat) : (List.replicate (j + 1) 0 ++ T).set j v = List.replicate j 0 ++ (v :: T) := by
  induction j with
  | zero => rfl
  | succ j ih => rw [List.replicate_succ, List.cons_append, List.set_cons_succ, ih, List.replicate_succ, List.cons_append]

theorem shr_byte (n k : Nat) : (n : Int) / 2 ^ (8 * k) = ((n / 256 ^ k : Nat) : Int) := by
  rw [Int.natCast_ediv, Int.natCast_pow, show (((256 : Nat) : Int)) = 2 ^ 8 by decide, ← Int.pow_mul]
theorem low4_take (n k : Nat) (h : k < 4) : (low4 n).take (k + 1) = (low4 n).take k ++ [n / 256 ^ k % 256] := by
  have : k = 0 ∨ k = 1 ∨ k = 2 ∨ k = 3 := by omega
  rcases this with rfl | rfl | rfl | rfl <;> simp [low4]
theorem ofN_append (l m : List Nat) : ofN l ++ ofN m = ofN (l ++ m) := by
  unfold ofN
  rw [ByteArray.mk_append_mk, List.map_append]

/-- The number of some bytes, the highest first. -/
def valB (l : List Nat) : Nat := l.foldl (fun n b => n * 256 + b) 0
theorem valB_snoc (l : List Nat) (b : Nat) : valB (l ++ [b]) = valB l * 256 + b := by simp [valB, List.foldl_append]
theorem valB_lt (l : List Nat) (h : ∀ b ∈ l, b < 256) (hl : l.length ≤ 2) : valB l < 65536 := by
  match l, hl with
  | [], _ => decide
  | [x], _ => have := h x (by simp); simp [valB]; omega
  | [x, y], _ => have := h x (by simp); have := h y (by simp); simp [valB]; omega
theorem i64_or (a b : Nat) (ha : a < 16777216) (hb : b < 256) : bits .or .i64 ((a : Int) * 256) (b : Int) = ((a * 256 + b : Nat) : Int) := by
  have e : a * 256 ||| b = a * 256 + b := by
    have := Nat.shiftLeft_add_eq_or_of_lt (i := 8) (b := b) hb a
    rw [Nat.shiftLeft_eq] at this
    exact this.symm
  show IntKind.i64.wrap ((BitVec.ofInt 64 ((a : Int) * 256) ||| BitVec.ofInt 64 (b : Int)).toNat : Int) = _
  rw [show ((a : Int) * 256) = ((a * 256 : Nat) : Int) by omega, BitVec.toNat_or, ofInt_i64, ofInt_i64, Nat.mod_eq_of_lt (by omega), Nat.mod_eq_of_lt (by omega), e]
  simp [IntKind.wrap, IntKind.bits, IntKind.signed]
  omega

end Go.Proofs.Ytefbppoejklfgaa

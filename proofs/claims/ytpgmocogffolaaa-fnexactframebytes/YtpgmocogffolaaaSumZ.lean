/-
  The sum of so many bytes 0, and two sums put together: the program's functions and its model's, call by call. No condition.
-/
import Derived.Test.YtpgmocogffolaaaSum
namespace Go.Proofs.Ytpgmocogffolaaa
open Go.RowKit

theorem infoByte : (Try.prog.info? 5).map (fun i => (i.zero, i.size, i.bytes)) = some (some (.int .u8 0), 1, 1) := by kernel_rfl
/-- 'make([]byte, n)': n bytes 0 of the call's own, in the next block. -/
theorem wpList_make_bytes {w : World} {ops : Array Oper} {rest : List Oper} {o : Oper} {a : Act} {Q : Exit → Act → World → Prop} (hg : o.guard = none) (l c : Operand) (hop : o.op = Op.makeSlice 121 l c)
    (base : Nat) (L C : Int) (n : Nat) (hl : a.eval l = .int .i64 L) (hc : a.eval c = .int .i64 C) (hL : L = (n : Int)) (hC : C = (n : Int)) (hn : n ≤ 1073741824) (hb : base ≤ w.heap.size)
    (h : ∀ w', w'.ownsRow base 5 1 (.slice (some ⟨w.heap.size, 0, none⟩) n n) n (List.replicate n (.int .u8 0)) → w.grownBy w' none → wpList Try.prog ops Q rest (a.put o.dst (.slice (some ⟨w.heap.size, 0, none⟩) n n)) w') : wpList Try.prog ops Q (o :: rest) a w := by
  obtain ⟨i0, hi, hz0, hz1, hz2⟩ := info_parts infoByte
  refine wpList_make_full w hg l c _ hop base 5 i0 (.int .u8 0) 1 Try.underlying121 hi hz0 hz1 _ _ L C n hl hc hL hC (by rw [hz2]; omega) (by unfold maxLen; omega) hb ?_
  intro w' ho hg'
  refine h w' ?_ hg'
  have e : (madeCells (Value.int .u8 0).cells (n * 1)).toList = List.replicate n (Value.int .u8 0) := by
    rw [Nat.mul_one]; exact toList_madeCells_one _ n
  rw [e] at ho
  exact ho
/-- The text of n bytes 0. -/
def zst (n : Nat) : ByteArray := ⟨(List.replicate n (0 : UInt8)).toArray⟩
theorem zst_size (n : Nat) : (zst n).size = n := by show (List.replicate n (0 : UInt8)).toArray.size = n; simp
theorem bs_zst (n : Nat) : bs (zst n) = List.replicate n 0 := by
  unfold bs zst
  simp
theorem own_zero {w : World} {base g n : Nat} (h : w.ownsRow base 5 1 (.slice (some ⟨g, 0, none⟩) n n) n (List.replicate n (.int .u8 0))) (i : Nat) (hi : i < n) : w.cell? ⟨g, i, none⟩ = some (.int .u8 0) := by
  rw [World.ownsRow.cellAt h i (by omega)]
  simp [hi]
theorem own_lt {w : World} {base g n : Nat} (h : w.ownsRow base 5 1 (.slice (some ⟨g, 0, none⟩) n n) n (List.replicate n (.int .u8 0))) : g < w.heap.size := by
  rcases h.2 with ⟨h', _⟩ | ⟨g', cap', cur, h', _, hg, _⟩
  · simp at h'
  · simp at h'
    obtain ⟨rfl, _⟩ := h'
    exact (Array.getElem?_eq_some_iff.1 hg).1
theorem conv_zero {w : World} {base g n : Nat} (h : w.ownsRow base 5 1 (.slice (some ⟨g, 0, none⟩) n n) n (List.replicate n (.int .u8 0))) :
    (convert 121 9 (.slice (some ⟨g, 0, none⟩) n n)).run Try.prog w = .ok (.string (zst n)) w := by
  have := run_convert_bytes_back (P := Try.prog) w 121 9 5 ⟨g, 0, none⟩ n (List.replicate n (0 : UInt8)) Try.underlying121 Try.underlying5 Try.underlying9 (fun j hj => by
    have hadd : (⟨g, 0, none⟩ : Addr).add j = ⟨g, 0 + j, none⟩ := by unfold Addr.add; split <;> simp_all
    rw [hadd, Nat.zero_add, own_zero h j (by simpa using hj)]
    simp)
  rw [List.length_replicate] at this
  exact this
theorem rd_zero {w : World} {base g n : Nat} (h : w.ownsRow base 5 1 (.slice (some ⟨g, 0, none⟩) n n) n (List.replicate n (.int .u8 0))) : RdL w (.slice (some ⟨g, 0, none⟩) n n) (List.replicate n 0) := by
  refine ⟨_, n, by rw [List.length_replicate], by rw [List.length_replicate]; exact Nat.le_refl _, .inr ⟨g, 0, rfl, own_lt h, fun i hi => ?_⟩⟩
  rw [List.length_replicate] at hi
  rw [Nat.zero_add, own_zero h i hi]
  simp [hi]
theorem grown_none {w w' : World} (hg : w.grownBy w' none) : Below w.heap.size w w' := (Below.refl _ _).grown hg (Nat.le_refl _) (fun k h => by cases h)

/-- The sum of so many bytes 0, and whether there is one. -/
def zeroR (n : Int) : Int × Bool := if 0 ≤ n ∧ n ≤ 400 then (((Crc.on 0 (List.replicate n.toNat 0) : Nat) : Int), true) else (0, false)
theorem onR_zst (n : Nat) (h : n ≤ 400) : onR 0 (zst n) = (((Crc.on 0 (List.replicate n 0) : Nat) : Int), true) := by
  unfold onR
  rw [if_pos ⟨by decide, by rw [zst_size]; exact h⟩, bs_zst]
  rfl

/-- Two sums put together, and whether they can be. -/
def jnR (a b n : Int) : Int × Bool := if ((0 ≤ a ∧ a ≤ 4294967295) ∧ (0 ≤ b ∧ b ≤ 4294967295)) ∧ (0 ≤ n ∧ n ≤ 400) then (((Crc.jn a.toNat b.toNat n.toNat : Nat) : Int), true) else (0, false)

end Go.Proofs.Ytpgmocogffolaaa

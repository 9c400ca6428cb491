/-
  A burst over a text's bits: the program's function and its model's, call by call. No condition but a bound on a text's length.
-/
import Derived.Test.YtpgmocogffolaaaSumZ
namespace Go.Proofs.Ytpgmocogffolaaa
open Go.RowKit

/-- Block g is a row of bytes, m places, that begins with these; it bears the mark of a text's bytes. -/
def BRow (w : World) (g m : Nat) (l : List Nat) : Prop :=
  ∃ C : Array Value, w.heap[g]? = some (.cells C 5 (m, m + 1)) ∧ l.length ≤ m ∧ C.size = m ∧ ∀ i, i < l.length → C[i]? = some (.int .u8 (l.getD i 0 : Nat))
theorem BRow.lt {w : World} {g m : Nat} {l : List Nat} (h : BRow w g m l) : g < w.heap.size := by
  obtain ⟨C, h1, _⟩ := h
  exact (Array.getElem?_eq_some_iff.1 h1).1
theorem BRow.cell {w : World} {g m : Nat} {l : List Nat} (h : BRow w g m l) (i : Nat) (hi : i < l.length) : w.cell? ⟨g, i, none⟩ = some (.int .u8 (l.getD i 0 : Nat)) := by
  obtain ⟨C, h1, _, _, h4⟩ := h
  rw [cell_of_row w g i C _ _ h1]
  exact h4 i hi
theorem BRow.frozen {w : World} {g m : Nat} {l : List Nat} (h : BRow w g m l) (i : Nat) (hi : i < l.length) : w.frozen? ⟨g, i, none⟩ = false := by
  obtain ⟨C, h1, h2, _⟩ := h
  simp [World.frozen?, h1]
  omega
theorem BRow.set {w : World} {g m : Nat} {l : List Nat} (h : BRow w g m l) (i v : Nat) : BRow (w.setCell ⟨g, i, none⟩ (.int .u8 (v : Nat))) g m (l.set i v) := by
  obtain ⟨C, h1, h2, h3, h4⟩ := h
  refine ⟨C.setIfInBounds i (.int .u8 (v : Nat)), ?_, by rw [List.length_set]; exact h2, by simpa using h3, fun j hj => ?_⟩
  · simp [World.setCell, Array.getElem?_modify, h1]
  · rw [List.length_set] at hj
    have e := h4 j hj
    rw [Array.getElem?_setIfInBounds, List.getD_eq_getElem?_getD, List.getElem?_set]
    by_cases hij : i = j
    · subst hij
      have hlt : i < C.size := by omega
      simp [hj, hlt]
    · rw [if_neg hij, if_neg hij, e, List.getD_eq_getElem?_getD]
theorem BRow.drew {w : World} {g m : Nat} {l : List Nat} (h : BRow w g m l) : BRow w.drew g m l := h
theorem BRow.rd {w : World} {g m : Nat} {l : List Nat} (h : BRow w g m l) : RdL w (.slice (some ⟨g, 0, none⟩) l.length m) l :=
  ⟨_, m, rfl, by obtain ⟨C, h1, h2, _⟩ := h; exact h2, .inr ⟨g, 0, rfl, h.lt, fun i hi => by rw [Nat.zero_add]; exact h.cell i hi⟩⟩
theorem bytesW_row (s : ByteArray) (w : World) : BRow (bytesW s w) w.heap.size (bytesC s w) (bs s) := by
  have hsz : (bytesRow s (bytesC s w)).size = bytesC s w := by
    have := bytesC_ge s w
    unfold bytesRow
    simp
    have e : s.data.size = s.size := rfl
    omega
  refine ⟨bytesRow s (bytesC s w), ?_, by rw [bs_length]; exact bytesC_ge s w, hsz, fun i hi => ?_⟩
  · have e : (bytesW s w).heap[w.heap.size]? = some (.cells (bytesRow s (bytesC s w)) 5 ((bytesRow s (bytesC s w)).size, (bytesRow s (bytesC s w)).size + 1)) := by
      show (w.heap.push _)[w.heap.size]? = _
      simp only [Array.getElem?_push_size]
      rfl
    rw [e, hsz]
  · rw [bs_length] at hi
    rw [bytesRow_at s _ i hi, bs_getD s i hi]
/-- The text with these bytes. -/
def ofN (l : List Nat) : ByteArray := ⟨(l.map UInt8.ofNat).toArray⟩
theorem ofN_size (l : List Nat) : (ofN l).size = l.length := by
  show (l.map UInt8.ofNat).toArray.size = _
  rw [List.size_toArray, List.length_map]
theorem map_ofNat {l : List Nat} (h : ∀ b ∈ l, b < 256) : (l.map UInt8.ofNat).map UInt8.toNat = l := by
  rw [List.map_map]
  conv => rhs; rw [← List.map_id l]
  refine List.map_congr_left fun b hb => ?_
  show (UInt8.ofNat b).toNat = b
  rw [UInt8.toNat_ofNat']
  exact Nat.mod_eq_of_lt (h b hb)
theorem bs_ofN {l : List Nat} (h : ∀ b ∈ l, b < 256) : bs (ofN l) = l := by
  unfold bs ofN
  exact map_ofNat h
theorem ofN_bs (s : ByteArray) : ofN (bs s) = s := by
  obtain ⟨⟨d⟩⟩ := s
  unfold ofN bs
  have e : (d.map UInt8.toNat).map UInt8.ofNat = d := by
    rw [List.map_map]
    conv => rhs; rw [← List.map_id d]
    refine List.map_congr_left fun b _ => ?_
    show UInt8.ofNat b.toNat = b
    simp
  show ByteArray.mk ((d.map UInt8.toNat).map UInt8.ofNat).toArray = _
  rw [e]
theorem conv_row {w : World} {g m n : Nat} {l : List Nat} (h : BRow w g m l) (hl : ∀ b ∈ l, b < 256) (hn : l.length = n) :
    (convert 121 9 (.slice (some ⟨g, 0, none⟩) n m)).run Try.prog w = .ok (.string (ofN l)) w := by
  have := run_convert_bytes_back (P := Try.prog) w 121 9 5 ⟨g, 0, none⟩ m (l.map UInt8.ofNat) Try.underlying121 Try.underlying5 Try.underlying9 (fun j hj => by
    have hj' : j < l.length := by simpa using hj
    have hadd : (⟨g, 0, none⟩ : Addr).add j = ⟨g, 0 + j, none⟩ := by unfold Addr.add; split <;> simp_all
    rw [hadd, Nat.zero_add, h.cell j hj', List.getD_eq_getElem?_getD, List.getElem?_eq_getElem hj', List.getElem_map, Option.getD_some]
    rw [UInt8.toNat_ofNat', Nat.mod_eq_of_lt (hl _ (List.getElem_mem hj'))])
  rw [List.length_map, hn] at this
  exact this

theorem burst_byte {z y k : Nat} (hz : z < 256) : bits .xor .u8 (z : Int) (wrap64 ((y : Int) % 2 * 2 ^ (k % 8)) % 256) = ((z ^^^ y % 2 * 2 ^ (k % 8) : Nat) : Int) := by
  have h1 := Crc.bit_small y k
  have e : (y : Int) % 2 * 2 ^ (k % 8) = ((y % 2 * 2 ^ (k % 8) : Nat) : Int) := by
    rw [Int.natCast_mul, Int.natCast_pow]
    rfl
  rw [e]
  generalize y % 2 * 2 ^ (k % 8) = c at h1 ⊢
  have e2 : wrap64 (c : Int) % 256 = (c : Int) := by
    unfold wrap64
    omega
  rw [e2]
  exact u8_xor_nat z c hz h1
theorem sburst_byte {z j : Nat} (hz : z < 256) : bits .xor .u8 (z : Int) (2 ^ (j % 8) % 256) = ((z ^^^ 2 ^ (j % 8) : Nat) : Int) := by
  have h1 : 2 ^ (j % 8) ≤ 2 ^ 7 := Nat.pow_le_pow_right (by omega) (by omega)
  have e : (2 : Int) ^ (j % 8) = ((2 ^ (j % 8) : Nat) : Int) := by
    rw [Int.natCast_pow]
    rfl
  rw [e]
  generalize 2 ^ (j % 8) = c at h1 ⊢
  rw [show (c : Int) % 256 = (c : Int) by omega]
  exact u8_xor_nat z c hz (by omega)
theorem sbit_odd {X k : Nat} (hX : X ≤ 4294967295) (h : (bits .and .i64 ((X : Int) / 2 ^ k) 1 == 1) = true) : X / 2 ^ k % 2 = 1 := by
  have e : (X : Int) / 2 ^ k = ((X / 2 ^ k : Nat) : Int) := by rw [Int.natCast_ediv, Int.natCast_pow]; rfl
  have hl : X / 2 ^ k < 4294967296 := Nat.lt_of_le_of_lt (Nat.div_le_self _ _) (by omega)
  rw [e, i64_and1 _ hl] at h
  simp at h
  omega
theorem sbit_even {X k : Nat} (hX : X ≤ 4294967295) (h : (bits .and .i64 ((X : Int) / 2 ^ k) 1 == 1) = false) : X / 2 ^ k % 2 = 0 := by
  have e : (X : Int) / 2 ^ k = ((X / 2 ^ k : Nat) : Int) := by rw [Int.natCast_ediv, Int.natCast_pow]; rfl
  have hl : X / 2 ^ k < 4294967296 := Nat.lt_of_le_of_lt (Nat.div_le_self _ _) (by omega)
  rw [e, i64_and1 _ hl] at h
  simp at h
  omega
theorem ret_text {a b : ByteArray} {c d : Bool} (h : a = b) (h' : c = d) : Ending.returned (.tuple #[.string a, .bool c]) = .returned (.tuple #[.string b, .bool d]) := by rw [h, h']
theorem bl_step {l T : List Nat} {k y n : Nat} (h : Crc.bl l k y (n - k) = T) (hk : k < n) : Crc.bl (Crc.xb l (k / 8) (y % 2 * 2 ^ (k % 8))) (k + 1) (y / 2) (n - (k + 1)) = T := by
  rw [show n - k = n - (k + 1) + 1 by omega, Crc.bl] at h
  exact h
theorem sbl_step {l T : List Nat} {P k X n : Nat} (h : Crc.bl l (P + k) (X / 2 ^ k) (n - (P + k)) = T) (hk : P + k < n) : Crc.bl (Crc.xb l ((P + k) / 8) (X / 2 ^ k % 2 * 2 ^ ((P + k) % 8))) (P + (k + 1)) (X / 2 ^ (k + 1)) (n - (P + (k + 1))) = T := by
  have := bl_step h hk
  rw [Nat.div_div_eq_div_mul, ← Nat.pow_succ] at this
  exact this
/-- A text with a burst over it, and whether there can be one. -/
def burstR (s : ByteArray) (p x : Int) : ByteArray × Bool :=
  if (s.size ≤ 400 ∧ 0 ≤ p ∧ p < 8 * (s.size : Int)) ∧ (0 ≤ x ∧ x ≤ 4294967295) then (ofN (Crc.burst (bs s) p.toNat x.toNat), true) else (⟨#[]⟩, false)

end Go.Proofs.Ytpgmocogffolaaa

/-
  A burst over a text's bits: the program's function and its model's, call by call. No condition but a bound on a text's length. A text with some bytes in the place of others, and its sum: the program's function and its model's, call by call. No condition but a bound on the texts' lengths. A frame's bytes, and what is read from them: mathematics over lists of bytes, no program. No condition but those that each fact names. Good frames: the program's function and its model's, call by call, and a frame handed over. No condition. A row of bytes that was made, written byte by byte and by copies; two bytes of a number, four of a sum: the program's functions call by call. Each contract says what it asks.
-/
import Derived.Test.YtbgadbokejaomaaHealthOfB1
namespace Go.Proofs.Ytbgadbokejaomaa
open Go.RowKit

/-- Block g is a row of bytes, m places, that begins with these; it bears the mark of a text's bytes. -/
def BRow (w : World) (g m : Nat) (l : List Nat) : Prop :=
  ∃ C : Array Value, w.heap[g]? = some (.cells C 5 (m, m + 1)) ∧ l.length ≤ m ∧ C.size = m ∧ ∀ i, i < l.length → C[i]? = some (.int .u8 (l.getD i 0 : Nat))
theorem BRow.lt {w : World} {g m : Nat} {l : List Nat} (h : BRow w g m l) : g < w.heap.size := by
  obtain ⟨C, h1, _⟩ := h
  exact (Array.getElem?_eq_some_iff.1 h1).1
theorem BRow.cell {w : World} {g m : Nat} {l : List Nat} (h : BRow w g m l) (i : Nat) (hi : i < l.length) : w.cell? ⟨g, i, none⟩ = some (.int .u8 (l.getD i 0 : Nat)) := by
  obtain ⟨C, h1, _, _, h4⟩ := h
  rw [cell_of_row w g i C _ _ h1]
  exact h4 i hi
theorem BRow.frozen {w : World} {g m : Nat} {l : List Nat} (h : BRow w g m l) (i : Nat) (hi : i < l.length) : w.frozen? ⟨g, i, none⟩ = false := by
  obtain ⟨C, h1, h2, _⟩ := h
  simp [World.frozen?, h1]
  omega
theorem BRow.set {w : World} {g m : Nat} {l : List Nat} (h : BRow w g m l) (i v : Nat) : BRow (w.setCell ⟨g, i, none⟩ (.int .u8 (v : Nat))) g m (l.set i v) := by
  obtain ⟨C, h1, h2, h3, h4⟩ := h
  refine ⟨C.setIfInBounds i (.int .u8 (v : Nat)), ?_, by rw [List.length_set]; exact h2, by simpa using h3, fun j hj => ?_⟩
  · simp [World.setCell, Array.getElem?_modify, h1]
  · rw [List.length_set] at hj
    have e := h4 j hj
    rw [Array.getElem?_setIfInBounds, List.getD_eq_getElem?_getD, List.getElem?_set]
    by_cases hij : i = j
    · subst hij
      have hlt : i < C.size := by omega
      simp [hj, hlt]
    · rw [if_neg hij, if_neg hij, e, List.getD_eq_getElem?_getD]
theorem BRow.drew {w : World} {g m : Nat} {l : List Nat} (h : BRow w g m l) : BRow w.drew g m l := h
theorem BRow.rd {w : World} {g m : Nat} {l : List Nat} (h : BRow w g m l) : RdL w (.slice (some ⟨g, 0, none⟩) l.length m) l :=
  ⟨_, m, rfl, by obtain ⟨C, h1, h2, _⟩ := h; exact h2, .inr ⟨g, 0, rfl, h.lt, fun i hi => by rw [Nat.zero_add]; exact h.cell i hi⟩⟩
theorem bytesW_row (s : ByteArray) (w : World) : BRow (bytesW s w) w.heap.size (bytesC s w) (bs s) := by
  have hsz : (bytesRow s (bytesC s w)).size = bytesC s w := by
    have := bytesC_ge s w
    unfold bytesRow
    simp
    have e : s.data.size = s.size := rfl
    omega
  refine ⟨bytesRow s (bytesC s w), ?_, by rw [bs_length]; exact bytesC_ge s w, hsz, fun i hi => ?_⟩
  · have e : (bytesW s w).heap[w.heap.size]? = some (.cells (bytesRow s (bytesC s w)) 5 ((bytesRow s (bytesC s w)).size, (bytesRow s (bytesC s w)).size + 1)) := by
      show (w.heap.push _)[w.heap.size]? = _
      simp only [Array.getElem?_push_size]
      rfl
    rw [e, hsz]
  · rw [bs_length] at hi
    rw [bytesRow_at s _ i hi, bs_getD s i hi]
/-- The text with these bytes. -/
def ofN (l : List Nat) : ByteArray := ⟨(l.map UInt8.ofNat).toArray⟩
theorem ofN_size (l : List Nat) : (ofN l).size = l.length := by
  show (l.map UInt8.ofNat).toArray.size = _
  rw [List.size_toArray, List.length_map]
theorem map_ofNat {l : List Nat} (h : ∀ b ∈ l, b < 256) : (l.map UInt8.ofNat).map UInt8.toNat = l := by
  rw [List.map_map]
  conv => rhs; rw [← List.map_id l]
  refine List.map_congr_left fun b hb => ?_
  show (UInt8.ofNat b).toNat = b
  rw [UInt8.toNat_ofNat']
  exact Nat.mod_eq_of_lt (h b hb)
theorem bs_ofN {l : List Nat} (h : ∀ b ∈ l, b < 256) : bs (ofN l) = l := by
  unfold bs ofN
  exact map_ofNat h
theorem ofN_bs (s : ByteArray) : ofN (bs s) = s := by
  obtain ⟨⟨d⟩⟩ := s
  unfold ofN bs
  have e : (d.map UInt8.toNat).map UInt8.ofNat = d := by
    rw [List.map_map]
    conv => rhs; rw [← List.map_id d]
    refine List.map_congr_left fun b _ => ?_
    show UInt8.ofNat b.toNat = b
    simp
  show ByteArray.mk ((d.map UInt8.toNat).map UInt8.ofNat).toArray = _
  rw [e]
theorem conv_row {w : World} {g m n : Nat} {l : List Nat} (h : BRow w g m l) (hl : ∀ b ∈ l, b < 256) (hn : l.length = n) :
    (convert 83 9 (.slice (some ⟨g, 0, none⟩) n m)).run Try.prog w = .ok (.string (ofN l)) w := by
  have := run_convert_bytes_back (P := Try.prog) w 83 9 5 ⟨g, 0, none⟩ m (l.map UInt8.ofNat) Try.underlying83 Try.underlying5 Try.underlying9 (fun j hj => by
    have hj' : j < l.length := by simpa using hj
    have hadd : (⟨g, 0, none⟩ : Addr).add j = ⟨g, 0 + j, none⟩ := by unfold Addr.add; split <;> simp_all
    rw [hadd, Nat.zero_add, h.cell j hj', List.getD_eq_getElem?_getD, List.getElem?_eq_getElem hj', List.getElem_map, Option.getD_some]
    rw [UInt8.toNat_ofNat', Nat.mod_eq_of_lt (hl _ (List.getElem_mem hj'))])
  rw [List.length_map, hn] at this
  exact this

theorem burst_byte {z y k : Nat} (hz : z < 256) : bits .xor .u8 (z : Int) (wrap64 ((y : Int) % 2 * 2 ^ (k % 8)) % 256) = ((z ^^^ y % 2 * 2 ^ (k % 8) : Nat) : Int) := by
  have h1 := Crc.bit_small y k
  have e : (y : Int) % 2 * 2 ^ (k % 8) = ((y % 2 * 2 ^ (k % 8) : Nat) : Int) := by
    rw [Int.natCast_mul, Int.natCast_pow]
    rfl
  rw [e]
  generalize y % 2 * 2 ^ (k % 8) = c at h1 ⊢
  have e2 : wrap64 (c : Int) % 256 = (c : Int) := by
    unfold wrap64
    omega
  rw [e2]
  exact u8_xor_nat z c hz h1
theorem sburst_byte {z j : Nat} (hz : z < 256) : bits .xor .u8 (z : Int) (2 ^ (j % 8) % 256) = ((z ^^^ 2 ^ (j % 8) : Nat) : Int) := by
  have h1 : 2 ^ (j % 8) ≤ 2 ^ 7 := Nat.pow_le_pow_right (by omega) (by omega)
  have e : (2 : Int) ^ (j % 8) = ((2 ^ (j % 8) : Nat) : Int) := by
    rw [Int.natCast_pow]
    rfl
  rw [e]
  generalize 2 ^ (j % 8) = c at h1 ⊢
  rw [show (c : Int) % 256 = (c : Int) by omega]
  exact u8_xor_nat z c hz (by omega)
theorem sbit_odd {X k : Nat} (hX : X ≤ 4294967295) (h : (bits .and .i64 ((X : Int) / 2 ^ k) 1 == 1) = true) : X / 2 ^ k % 2 = 1 := by
  have e : (X : Int) / 2 ^ k = ((X / 2 ^ k : Nat) : Int) := by rw [Int.natCast_ediv, Int.natCast_pow]; rfl
  have hl : X / 2 ^ k < 4294967296 := Nat.lt_of_le_of_lt (Nat.div_le_self _ _) (by omega)
  rw [e, i64_and1 _ hl] at h
  simp at h
  omega
theorem sbit_even {X k : Nat} (hX : X ≤ 4294967295) (h : (bits .and .i64 ((X : Int) / 2 ^ k) 1 == 1) = false) : X / 2 ^ k % 2 = 0 := by
  have e : (X : Int) / 2 ^ k = ((X / 2 ^ k : Nat) : Int) := by rw [Int.natCast_ediv, Int.natCast_pow]; rfl
  have hl : X / 2 ^ k < 4294967296 := Nat.lt_of_le_of_lt (Nat.div_le_self _ _) (by omega)
  rw [e, i64_and1 _ hl] at h
  simp at h
  omega
theorem ret_text {a b : ByteArray} {c d : Bool} (h : a = b) (h' : c = d) : Ending.returned (.tuple #[.string a, .bool c]) = .returned (.tuple #[.string b, .bool d]) := by rw [h, h']
theorem bl_step {l T : List Nat} {k y n : Nat} (h : Crc.bl l k y (n - k) = T) (hk : k < n) : Crc.bl (Crc.xb l (k / 8) (y % 2 * 2 ^ (k % 8))) (k + 1) (y / 2) (n - (k + 1)) = T := by
  rw [show n - k = n - (k + 1) + 1 by omega, Crc.bl] at h
  exact h
theorem sbl_step {l T : List Nat} {P k X n : Nat} (h : Crc.bl l (P + k) (X / 2 ^ k) (n - (P + k)) = T) (hk : P + k < n) : Crc.bl (Crc.xb l ((P + k) / 8) (X / 2 ^ k % 2 * 2 ^ ((P + k) % 8))) (P + (k + 1)) (X / 2 ^ (k + 1)) (n - (P + (k + 1))) = T := by
  have := bl_step h hk
  rw [Nat.div_div_eq_div_mul, ← Nat.pow_succ] at this
  exact this
/-- A text with a burst over it, and whether there can be one. -/
def burstR (s : ByteArray) (p x : Int) : ByteArray × Bool :=
  if (s.size ≤ 400 ∧ 0 ≤ p ∧ p < 8 * (s.size : Int)) ∧ (0 ≤ x ∧ x ≤ 4294967295) then (ofN (Crc.burst (bs s) p.toNat x.toNat), true) else (⟨#[]⟩, false)

end Go.Proofs.Ytbgadbokejaomaa

namespace Go.Proofs.Ytbgadbokejaomaa
open Go.RowKit

theorem seg_step {α : Type} (l : List α) (k : Nat) (v : α) (rest : List α) (hk : k + (rest.length + 1) ≤ l.length) :
    (l.set k v).take (k + 1) ++ rest ++ (l.set k v).drop (k + 1 + rest.length) = l.take k ++ (v :: rest) ++ l.drop (k + (rest.length + 1)) := by
  have h1 : (l.set k v).take (k + 1) = l.take k ++ [v] := by
    rw [List.take_succ_eq_append_getElem (by rw [List.length_set]; omega), List.getElem_set_self, List.take_set_of_le (Nat.le_refl _)]
  have h2 : (l.set k v).drop (k + 1 + rest.length) = l.drop (k + (rest.length + 1)) := by
    rw [List.drop_set_of_lt (by omega)]
    congr 1
    omega
  rw [h1, h2]
  simp
theorem BRow.grownBy_set {w : World} (g i : Nat) (v : Value) : w.grownBy (w.setCell ⟨g, i, none⟩ v) (some g) :=
  ⟨rfl, rfl, rfl, by simp, fun j _ hj => Below.heap_setCell _ _ _ j (fun e => hj (by rw [e]))⟩
theorem grown_trans {w w' w'' : World} {row : Option Nat} (h : w.grownBy w' row) (k : w'.grownBy w'' row) : w.grownBy w'' row :=
  ⟨k.os.trans h.os, k.tape.trans h.tape, k.output.trans h.output, Nat.le_trans h.size k.size, fun j hj hne => (k.block j (Nat.lt_of_lt_of_le hj h.size) hne).trans (h.block j hj hne)⟩
/-- Bytes stored one behind the other into a row of bytes. -/
theorem store_bytes (g o m : Nat) : ∀ (vs : List Nat) (i : Nat) (l : List Nat) (w : World), BRow w g m l → o + i + vs.length ≤ l.length →
    ∃ w', (storeCells ⟨g, o, none⟩ (vs.map fun b : Nat => Value.int .u8 (b : Int)) i).run Try.prog w = .ok () w' ∧ BRow w' g m (l.take (o + i) ++ vs ++ l.drop (o + i + vs.length)) ∧ w.grownBy w' (some g)
  | [], i, l, w, h, _ => ⟨w, rfl, by simpa using h, World.grownBy.refl _ _⟩
  | v :: rest, i, l, w, h, hl => by
    have hi : o + i < l.length := by simp at hl; omega
    have hadd : (⟨g, o, none⟩ : Addr).add i = ⟨g, o + i, none⟩ := by unfold Addr.add; split <;> simp_all
    have hst : (store ((⟨g, o, none⟩ : Addr).add i) (Value.int .u8 (v : Int))).run Try.prog w = .ok () (w.setCell ⟨g, o + i, none⟩ (.int .u8 (v : Int))) := by
      rw [hadd, run_store Try.prog w _ _ _ rfl, h.cell (o + i) hi]
      simp [h.frozen (o + i) hi]
    obtain ⟨w', e1, e2, e3⟩ := store_bytes g o m rest (i + 1) (l.set (o + i) v) (w.setCell ⟨g, o + i, none⟩ (.int .u8 (v : Int))) (h.set (o + i) v) (by rw [List.length_set]; simp at hl; omega)
    refine ⟨w', ?_, ?_, grown_trans (BRow.grownBy_set g (o + i) _) e3⟩
    · simp only [List.map_cons, storeCells, Sem.run_bind, hst, Result.andThen_ok, e1]
    · have e := seg_step l (o + i) v rest (by simp at hl; omega)
      rw [show o + (i + 1) = o + i + 1 by omega, e] at e2
      simpa using e2
/-- 'copy(dst, t)', t a text that fits, dst in a row of bytes from place o on. -/
theorem copy_text {w : World} {g m o dLen dCap : Nat} {l : List Nat} (t : ByteArray) (h : BRow w g m l) (hle : t.size ≤ dLen) (hf : o + t.size ≤ l.length) :
    ∃ w', (Builtin.copy_ #[83, 9] 3 #[.slice (some ⟨g, o, none⟩) dLen dCap, .string t]).run Try.prog w = .ok (goInt t.size) w' ∧ BRow w' g m (l.take o ++ bs t ++ l.drop (o + t.size)) ∧ w.grownBy w' (some g) := by
  obtain ⟨w', e1, e2, e3⟩ := store_bytes g o m (bs t) 0 l w h (by rw [bs_length]; omega)
  refine ⟨w', ?_, by rw [bs_length] at e2; simpa using e2, e3⟩
  have hmin : Nat.min t.size dLen = t.size := Nat.min_eq_left hle
  have htk : List.take t.size (List.map (fun b : UInt8 => Value.int IntKind.u8 (b.toNat : Int)) t.data.toList) = (bs t).map (fun b : Nat => Value.int .u8 (b : Int)) := by
    rw [List.take_of_length_le (by rw [List.length_map, Array.length_toList]; exact Nat.le_refl _)]
    unfold bs
    rw [List.map_map]
    rfl
  obtain ⟨i0, hi, hz0, hz1, hz2⟩ := info_parts infoByte
  simp [Builtin.copy_, run_underlying (P := Try.prog) Try.underlying83, Builtin.lenOf, Builtin.firstCells, sizeOf, typeInfo, hi, hmin]
  rw [htk, e1]
  simp [Result.andThen]

/-- Bytes in the place of others. -/
def pat (l m : List Nat) (p : Nat) : List Nat := l.take p ++ m ++ l.drop (p + m.length)
theorem pat_length (l m : List Nat) (p : Nat) (h : p + m.length ≤ l.length) : (pat l m p).length = l.length := by
  unfold pat
  rw [List.length_append, List.length_append, List.length_take, List.length_drop]
  omega
theorem pat_small {l m : List Nat} (hl : ∀ b ∈ l, b < 256) (hm : ∀ b ∈ m, b < 256) (p : Nat) : ∀ b ∈ pat l m p, b < 256 := by
  intro b hb
  unfold pat at hb
  rw [List.mem_append, List.mem_append] at hb
  rcases hb with (hb | hb) | hb
  · exact hl b (List.mem_of_mem_take hb)
  · exact hm b hb
  · exact hl b (List.mem_of_mem_drop hb)
/-- A text with another in the place of as many bytes from p on, its sum, and whether that can be. -/
def patchR (s : ByteArray) (p : Int) (t : ByteArray) : ByteArray × Int × Bool :=
  if (0 ≤ p ∧ p ≤ (s.size : Int) - (t.size : Int)) ∧ s.size ≤ 400 then (ofN (pat (bs s) (bs t) p.toNat), ((Crc.on 0 (pat (bs s) (bs t) p.toNat) : Nat) : Int), true) else (⟨#[]⟩, 0, false)

theorem onR_pat {l : List Nat} (hl : ∀ b ∈ l, b < 256) (h : l.length ≤ 400) : onR 0 (ofN l) = (((Crc.on 0 l : Nat) : Int), true) := by
  unfold onR
  rw [if_pos ⟨by decide, by rw [ofN_size]; exact h⟩, bs_ofN hl]
  rfl
theorem pat_none (l : List Nat) (p : Nat) : pat l [] p = l := by simp [pat]
theorem ofN_map (L : List UInt8) : ofN (L.map UInt8.toNat) = ⟨L.toArray⟩ := by
  unfold ofN
  have e : (L.map UInt8.toNat).map UInt8.ofNat = L := by
    rw [List.map_map]
    conv => rhs; rw [← List.map_id L]
    refine List.map_congr_left fun b _ => ?_
    show UInt8.ofNat b.toNat = b
    simp
  rw [e]
theorem put_text (s t : ByteArray) (P : Nat) : s.extract 0 P ++ t ++ s.extract (P + t.size) s.size = ofN (pat (bs s) (bs t) P) := by
  obtain ⟨⟨ls⟩⟩ := s
  obtain ⟨⟨lt⟩⟩ := t
  have e1 : bs ⟨⟨ls⟩⟩ = ls.map UInt8.toNat := rfl
  have e2 : bs ⟨⟨lt⟩⟩ = lt.map UInt8.toNat := rfl
  have n1 : (ByteArray.mk ⟨ls⟩).size = ls.length := rfl
  have n2 : (ByteArray.mk ⟨lt⟩).size = lt.length := rfl
  rw [e1, e2, n1, n2]
  unfold pat
  rw [List.length_map, ← List.map_take, ← List.map_drop, ← List.map_append, ← List.map_append, ofN_map]
  have x1 : (ByteArray.mk ⟨ls⟩).extract 0 P = ByteArray.mk (ls.take P).toArray := by
    have := ByteArray.extract_mk ls 0 P
    simpa using this
  have x2 : (ByteArray.mk ⟨ls⟩).extract (P + lt.length) ls.length = ByteArray.mk (ls.drop (P + lt.length)).toArray := by
    have := ByteArray.extract_mk ls (P + lt.length) ls.length
    rw [List.take_of_length_le (by rw [List.length_drop]; exact Nat.le_refl _)] at this
    exact this
  have x3 : ByteArray.mk ⟨lt⟩ = ByteArray.mk lt.toArray := rfl
  rw [x1, x2, x3, ByteArray.mk_append_mk, ByteArray.mk_append_mk]
theorem ret_patch {a b : ByteArray} {c d : Int} (h : a = b) (h' : c = d) : Ending.returned (.tuple #[.string a, .int .i64 c, .bool true]) = .returned (.tuple #[.string b, .int .i64 d, .bool true]) := by rw [h, h']
theorem grown_row {w w' w'' : World} {g : Nat} (h : Below w.heap.size w w') (k : w'.grownBy w'' (some g)) (hg : w.heap.size ≤ g) : Below w.heap.size w w'' :=
  h.grown k h.size (fun j hj => by cases hj; exact hg)

end Go.Proofs.Ytbgadbokejaomaa

namespace Go.Proofs.Ytbgadbokejaomaa
open Go.RowKit

/-- Four bytes of a sum, the lowest first. -/
def low4 (n : Nat) : List Nat := [n % 256, n / 256 % 256, n / 65536 % 256, n / 16777216 % 256]
/-- All of a frame ahead of its sum. -/
def headB (K A E : Nat) (b : List Nat) : List Nat := [K, A / 256, A % 256, E / 256, E % 256, b.length] ++ (b ++ List.replicate (18 - b.length) 0)
def frB (K A E : Nat) (b : List Nat) : List Nat := headB K A E b ++ low4 (Crc.on 0 (headB K A E b))
theorem low4_length (n : Nat) : (low4 n).length = 4 := rfl
theorem low4_small (n : Nat) : ∀ b ∈ low4 n, b < 256 := by
  intro b hb
  simp only [low4, List.mem_cons, List.not_mem_nil, or_false] at hb
  omega
theorem headB_length {K A E : Nat} {b : List Nat} (h : b.length ≤ 16) : (headB K A E b).length = 24 := by
  unfold headB
  rw [List.length_append, List.length_append, List.length_replicate]
  simp
  omega
theorem headB_small {K A E : Nat} {b : List Nat} (hK : K < 256) (hA : A < 65536) (hE : E < 65536) (h : b.length ≤ 16) (hb : ∀ x ∈ b, x < 256) : ∀ x ∈ headB K A E b, x < 256 := by
  intro x hx
  unfold headB at hx
  rw [List.mem_append, List.mem_append] at hx
  rcases hx with hx | hx | hx
  · simp only [List.mem_cons, List.not_mem_nil, or_false] at hx
    omega
  · exact hb x hx
  · have := (List.mem_replicate.1 hx).2
    omega
theorem frB_length {K A E : Nat} {b : List Nat} (h : b.length ≤ 16) : (frB K A E b).length = 28 := by
  unfold frB
  rw [List.length_append, headB_length h, low4_length]
theorem frB_small {K A E : Nat} {b : List Nat} (hK : K < 256) (hA : A < 65536) (hE : E < 65536) (h : b.length ≤ 16) (hb : ∀ x ∈ b, x < 256) : ∀ x ∈ frB K A E b, x < 256 := by
  intro x hx
  unfold frB at hx
  rw [List.mem_append] at hx
  rcases hx with hx | hx
  · exact headB_small hK hA hE h hb x hx
  · exact low4_small _ x hx
theorem frB_take {K A E : Nat} {b : List Nat} (h : b.length ≤ 16) : (frB K A E b).take 24 = headB K A E b := by
  unfold frB
  rw [← headB_length (K := K) (A := A) (E := E) h, List.take_left]
theorem frB_drop {K A E : Nat} {b : List Nat} (h : b.length ≤ 16) : (frB K A E b).drop 24 = low4 (Crc.on 0 (headB K A E b)) := by
  unfold frB
  rw [← headB_length (K := K) (A := A) (E := E) h, List.drop_left]
theorem frB_body {K A E : Nat} {b : List Nat} : ((frB K A E b).drop 6).take b.length = b := by
  show ((b ++ List.replicate (18 - b.length) 0) ++ low4 (Crc.on 0 (headB K A E b))).take b.length = b
  rw [List.append_assoc, List.take_left]
/-- A good frame. -/
abbrev goodF (K A E : Int) (n : Nat) : Prop := ((1 ≤ K ∧ K ≤ 255) ∧ (0 ≤ A ∧ A ≤ 60000)) ∧ (0 ≤ E ∧ E ≤ 60000) ∧ n ≤ 16
def goodD (K A E : Int) (n : Nat) : Bool := decide (goodF K A E n)
theorem goodD_yes {K A E : Int} {n : Nat} (h : goodF K A E n) : goodD K A E n = true := decide_eq_true h
theorem goodD_no {K A E : Int} {n : Nat} (h : ¬ goodF K A E n) : goodD K A E n = false := decide_eq_false h
/-- What FrameBytes answers. -/
def frR (K A E : Int) (b : ByteArray) : ByteArray × Bool :=
  if goodF K A E b.size then (ofN (frB K.toNat A.toNat E.toNat (bs b)), true) else (⟨#[]⟩, false)
/-- What is in a frame that is read. -/
structure Fr where
  K : Int
  A : Int
  E : Int
  B : ByteArray
  code : Int
  ok : Bool
def frNo (c : Int) : Fr := ⟨0, 0, 0, ⟨#[]⟩, c, false⟩
def kindOf (l : List Nat) : Nat := l.getD 0 0
def atOf (l : List Nat) : Nat := l.getD 1 0 * 256 + l.getD 2 0
def epochOf (l : List Nat) : Nat := l.getD 3 0 * 256 + l.getD 4 0
def longOf (l : List Nat) : Nat := l.getD 5 0
def bodyOf (l : List Nat) : List Nat := (l.drop 6).take (longOf l)
/-- What ReadFrame answers. -/
def rdR (s : ByteArray) : Fr :=
  if s.size = 28 then
    if (bs s).drop 24 = low4 (Crc.on 0 ((bs s).take 24)) then
      if longOf (bs s) ≤ 16 ∧ goodF (kindOf (bs s)) (atOf (bs s)) (epochOf (bs s)) (longOf (bs s)) ∧ frB (kindOf (bs s)) (atOf (bs s)) (epochOf (bs s)) (bodyOf (bs s)) = bs s then
        ⟨kindOf (bs s), atOf (bs s), epochOf (bs s), ofN (bodyOf (bs s)), 0, true⟩
      else frNo 3
    else frNo 2
  else frNo 1
/-- What CheckFrame answers. -/
def ckR (s : ByteArray) (kind at_ least : Int) : Fr :=
  if (rdR s).ok = true then
    if (rdR s).K = kind then if (rdR s).A = at_ then if least ≤ (rdR s).E then rdR s else frNo 5 else frNo 4 else frNo 3
  else frNo (rdR s).code
theorem bs_inj {s t : ByteArray} (h : bs s = bs t) : s = t := by rw [← ofN_bs s, ← ofN_bs t, h]
theorem fr_eq {a b : Fr} (h1 : a.K = b.K) (h2 : a.A = b.A) (h3 : a.E = b.E) (h4 : a.B = b.B) (h5 : a.code = b.code) (h6 : a.ok = b.ok) : a = b := by
  cases a; cases b; simp_all
/-- What was put into a frame's bytes is read. -/
theorem rd_fr {K A E : Int} {b : ByteArray} (hg : goodF K A E b.size) : rdR (frR K A E b).1 = ⟨K, A, E, b, 0, true⟩ := by
  have hg' := hg
  obtain ⟨⟨⟨k0, k1⟩, a0, a1⟩, ⟨e0, e1⟩, hn⟩ := hg
  obtain ⟨k, rfl⟩ := Int.eq_ofNat_of_zero_le (show 0 ≤ K by omega)
  obtain ⟨a, rfl⟩ := Int.eq_ofNat_of_zero_le a0
  obtain ⟨e, rfl⟩ := Int.eq_ofNat_of_zero_le e0
  have hl : (bs b).length ≤ 16 := by rw [bs_length]; exact hn
  have e1' : (frR k a e b).1 = ofN (frB k a e (bs b)) := by unfold frR; rw [if_pos hg']; rfl
  have eb : bs (ofN (frB k a e (bs b))) = frB k a e (bs b) := bs_ofN (frB_small (by omega) (by omega) (by omega) hl (bs_lt b))
  have hk : kindOf (frB k a e (bs b)) = k := rfl
  have ha : atOf (frB k a e (bs b)) = a := by
    show a / 256 * 256 + a % 256 = a
    omega
  have he : epochOf (frB k a e (bs b)) = e := by
    show e / 256 * 256 + e % 256 = e
    omega
  have hlo : longOf (frB k a e (bs b)) = b.size := by
    show (bs b).length = b.size
    exact bs_length b
  have hbo : bodyOf (frB k a e (bs b)) = bs b := by
    unfold bodyOf
    rw [hlo, ← bs_length b]
    exact frB_body
  rw [e1']
  unfold rdR
  rw [ofN_size, frB_length hl, if_pos rfl, eb, frB_take hl, frB_drop hl, if_pos rfl, hk, ha, he, hlo, hbo, if_pos ⟨hn, hg', rfl⟩, ofN_bs]
end Go.Proofs.Ytbgadbokejaomaa

namespace Go.Proofs.Ytbgadbokejaomaa
open Go.RowKit

theorem ret_bool {a b : Bool} (h : a = b) : Ending.returned (.bool a) = .returned (.bool b) := by rw [h]
theorem below_box (w : World) (o : Obj) : Below w.heap.size w (w.alloc o) := (Below.refl _ _).alloc (Nat.le_refl _) o

theorem frInfo : (Try.prog.info? 62).map (·.size) = some 4 := by kernel_rfl
/-- A function whose result is a frame that lies in a cell. -/
theorem res_frame {fn : Func} {p : Tmp} (h : fn.results = #[.cell p 62]) (tmps : Array Value) (w : World) (g : Nat) (K A E : Int) (b : ByteArray) (fr : Nat × Nat) (hp : tmps.getD p undef = .pointer (some ⟨g, 0, none⟩))
    (hg : w.heap[g]? = some (.cells #[.int .i64 K, .int .i64 A, .int .i64 E, .string b] 62 fr)) : (results fn tmps).run Try.prog w = .ok (.agg #[.int .i64 K, .int .i64 A, .int .i64 E, .string b]) w :=
  results_cell_row h tmps w g _ _ fr _ hp hg Try.underlying62 rfl frInfo
theorem res_frame2 {fn : Func} {p u : Tmp} (h : fn.results = #[.cell p 62, .tmp u]) (tmps : Array Value) (w : World) (g : Nat) (K A E : Int) (b : ByteArray) (fr : Nat × Nat) (hp : tmps.getD p undef = .pointer (some ⟨g, 0, none⟩))
    (hg : w.heap[g]? = some (.cells #[.int .i64 K, .int .i64 A, .int .i64 E, .string b] 62 fr)) : (results fn tmps).run Try.prog w = .ok (.tuple #[.agg #[.int .i64 K, .int .i64 A, .int .i64 E, .string b], tmps.getD u undef]) w := by
  have hp' : tmps[p]?.getD undef = .pointer (some ⟨g, 0, none⟩) := by simpa using hp
  simp [results, h, hp', asAddr, run_loadVar_row w g _ _ _ fr _ hg Try.underlying62 rfl frInfo]
theorem res_frame3 {fn : Func} {p u v : Tmp} (h : fn.results = #[.cell p 62, .tmp u, .tmp v]) (tmps : Array Value) (w : World) (g : Nat) (K A E : Int) (b : ByteArray) (fr : Nat × Nat) (hp : tmps.getD p undef = .pointer (some ⟨g, 0, none⟩))
    (hg : w.heap[g]? = some (.cells #[.int .i64 K, .int .i64 A, .int .i64 E, .string b] 62 fr)) : (results fn tmps).run Try.prog w = .ok (.tuple #[.agg #[.int .i64 K, .int .i64 A, .int .i64 E, .string b], tmps.getD u undef, tmps.getD v undef]) w := by
  have hp' : tmps[p]?.getD undef = .pointer (some ⟨g, 0, none⟩) := by simpa using hp
  simp [results, h, hp', asAddr, run_loadVar_row w g _ _ _ fr _ hg Try.underlying62 rfl frInfo]

set_option maxRecDepth 100000 in
theorem isEpoch_calls (e : Int) (w : World) :
    Calls Try.prog 72 #[.int .i64 e] w fun x w' => x = .returned (.bool (decide (0 ≤ e ∧ e ≤ 60000))) ∧ w = w' := by
  go_enter Try.func72, Try.ntmps72
  go_wp2
  all_goals
    go_ret
    refine ⟨ret_bool ?_, rfl⟩
    simp
    try omega

set_option maxRecDepth 100000 in
set_option maxHeartbeats 800000 in
theorem goodFrame_calls (K A E : Int) (b : ByteArray) (w : World) (hb : b.size ≤ maxLen) :
    Calls Try.prog 68 #[.agg #[.int .i64 K, .int .i64 A, .int .i64 E, .string b]] w fun e w' => e = .returned (.bool (goodD K A E b.size)) ∧ Below w.heap.size w w' := by
  unfold maxLen at hb
  go_enter Try.func68, Try.ntmps68
  go_wp2_with (go_at_call 72; refine (isEpoch_calls E _).mono ?_; rintro x w1 ⟨rfl, rfl⟩; rcases hE : decide (0 ≤ E ∧ E ≤ 60000) with _ | _)
  all_goals
    go_ret
    refine ⟨ret_bool ?_, below_box _ _⟩
    first
      | (symm; exact goodD_no (by unfold goodF; omega))
      | (symm; exact goodD_no (by unfold goodF; intro q; have := of_decide_eq_false hE; omega))
      | (have hE' := of_decide_eq_true hE
         by_cases h16 : b.size ≤ 16
         · rw [goodD_yes (by unfold goodF; omega)]; simp; omega
         · rw [goodD_no (by unfold goodF; omega)]; simp; omega)

set_option maxRecDepth 100000 in
set_option maxHeartbeats 800000 in
theorem sGoodFrame_calls (K A E : Int) (b : ByteArray) (w : World) (hb : b.size ≤ maxLen) :
    Calls Try.prog 47 #[.agg #[.int .i64 K, .int .i64 A, .int .i64 E, .string b]] w fun e w' => e = .returned (.bool (goodD K A E b.size)) ∧ Below w.heap.size w w' := by
  unfold maxLen at hb
  by_cases hK : 1 ≤ K ∧ K ≤ 255
  case neg =>
    have e0 : goodD K A E b.size = false := goodD_no (by unfold goodF; omega)
    rw [e0]
    clear e0
    go_enter Try.func47, Try.ntmps47
    go_wp2_with fail
    refine (l1In_no _ _ _ _ (by omega)).mono ?_
    rintro e w1 ⟨rfl, rfl⟩
    go_wp2
    go_ret
    exact ⟨rfl, below_box _ _⟩
  by_cases hA : 0 ≤ A ∧ A ≤ 60000
  case neg =>
    have e0 : goodD K A E b.size = false := goodD_no (by unfold goodF; omega)
    rw [e0]
    clear e0
    go_enter Try.func47, Try.ntmps47
    go_wp2_with fail
    refine (l1In_yes _ _ _ _ hK.1 hK.2).mono ?_
    rintro e w1 ⟨rfl, rfl⟩
    go_wp2_with fail
    refine (l1In_no _ _ _ _ (by omega)).mono ?_
    rintro e w1 ⟨rfl, rfl⟩
    go_wp2
    go_ret
    exact ⟨rfl, below_box _ _⟩
  by_cases hE : 0 ≤ E ∧ E ≤ 60000
  case neg =>
    have e0 : goodD K A E b.size = false := goodD_no (by unfold goodF; omega)
    rw [e0]
    clear e0
    go_enter Try.func47, Try.ntmps47
    go_wp2_with fail
    refine (l1In_yes _ _ _ _ hK.1 hK.2).mono ?_
    rintro e w1 ⟨rfl, rfl⟩
    go_wp2_with fail
    refine (l1In_yes _ _ _ _ hA.1 hA.2).mono ?_
    rintro e w1 ⟨rfl, rfl⟩
    go_wp2_with fail
    refine (l1In_no _ _ _ _ (by omega)).mono ?_
    rintro e w1 ⟨rfl, rfl⟩
    go_wp2
    go_ret
    exact ⟨rfl, below_box _ _⟩
  go_enter Try.func47, Try.ntmps47
  go_wp2_with fail
  refine (l1In_yes _ _ _ _ hK.1 hK.2).mono ?_
  rintro e w1 ⟨rfl, rfl⟩
  go_wp2_with fail
  refine (l1In_yes _ _ _ _ hA.1 hA.2).mono ?_
  rintro e w1 ⟨rfl, rfl⟩
  go_wp2_with fail
  refine (l1In_yes _ _ _ _ hE.1 hE.2).mono ?_
  rintro e w1 ⟨rfl, rfl⟩
  go_wp2
  all_goals
    go_ret
    refine ⟨ret_bool ?_, below_box _ _⟩
    first
      | (symm; exact goodD_no (by unfold goodF; omega))
      | (by_cases h16 : b.size ≤ 16
         · rw [goodD_yes (by unfold goodF; omega)]; simp; omega
         · rw [goodD_no (by unfold goodF; omega)]; simp; omega)

end Go.Proofs.Ytbgadbokejaomaa

namespace Go.Proofs.Ytbgadbokejaomaa
open Go.RowKit

def u8v (b : Nat) : Value := .int .u8 (b : Int)
/-- Block g is a row of just these bytes. -/
def ZRow (w : World) (g : Nat) (l : List Nat) : Prop := w.heap[g]? = some (.cells (l.map u8v).toArray 5 (0, 0))
theorem ZRow.lt {w : World} {g : Nat} {l : List Nat} (h : ZRow w g l) : g < w.heap.size := (Array.getElem?_eq_some_iff.1 h).1
theorem ZRow.cell {w : World} {g : Nat} {l : List Nat} (h : ZRow w g l) (i : Nat) (hi : i < l.length) : w.cell? ⟨g, i, none⟩ = some (.int .u8 (l.getD i 0 : Nat)) := by
  rw [cell_of_row w g i _ _ _ h, List.getElem?_toArray, List.getElem?_map, List.getD_eq_getElem?_getD, List.getElem?_eq_getElem hi]
  rfl
theorem ZRow.frozen {w : World} {g : Nat} {l : List Nat} (h : ZRow w g l) (i : Nat) : w.frozen? ⟨g, i, none⟩ = false := frozen_of_row w g i _ _ h
theorem ZRow.set {w : World} {g : Nat} {l : List Nat} (h : ZRow w g l) (i v : Nat) : ZRow (w.setCell ⟨g, i, none⟩ (.int .u8 (v : Nat))) g (l.set i v) := by
  have := heap_setCell_same w g i _ _ (Value.int .u8 (v : Nat)) h
  unfold ZRow
  rw [this, List.map_set]
  congr 2
  simp [u8v]
theorem ZRow.drew {w : World} {g : Nat} {l : List Nat} (h : ZRow w g l) : ZRow w.drew g l := h
theorem ZRow.kept {w w' : World} {g : Nat} {l : List Nat} (h : ZRow w g l) (hb : Below w.heap.size w w') : ZRow w' g l := by
  have hl := h.lt
  unfold ZRow at h ⊢
  rw [hb.block g hl]
  exact h
theorem ZRow.conv {w : World} {g n cap : Nat} {l : List Nat} (h : ZRow w g l) (hl : ∀ b ∈ l, b < 256) (hn : n ≤ l.length) :
    (convert 83 9 (.slice (some ⟨g, 0, none⟩) n cap)).run Try.prog w = .ok (.string (ofN (l.take n))) w := by
  have := run_convert_bytes_back (P := Try.prog) w 83 9 5 ⟨g, 0, none⟩ cap ((l.take n).map UInt8.ofNat) Try.underlying83 Try.underlying5 Try.underlying9 (fun j hj => by
    have hj' : j < n := by simp at hj; omega
    have hadd : (⟨g, 0, none⟩ : Addr).add j = ⟨g, 0 + j, none⟩ := by unfold Addr.add; split <;> simp_all
    rw [hadd, Nat.zero_add, h.cell j (by omega), List.getD_eq_getElem?_getD, List.getElem?_eq_getElem (by omega), List.getElem_map, List.getElem_take, Option.getD_some]
    rw [UInt8.toNat_ofNat', Nat.mod_eq_of_lt (hl _ (List.getElem_mem _))])
  rw [List.length_map, List.length_take, Nat.min_eq_left hn] at this
  exact this
theorem zrow_made {w : World} {base g n : Nat} (h : w.ownsRow base 5 1 (.slice (some ⟨g, 0, none⟩) n n) n (List.replicate n (.int .u8 0))) : ZRow w g (List.replicate n 0) := by
  rcases h.2 with ⟨h', _⟩ | ⟨g', cap', cur, h', _, hg, _, _, hs, ht⟩
  · simp at h'
  · simp at h'
    obtain ⟨rfl, rfl⟩ := h'
    unfold ZRow
    rw [hg]
    congr 2
    have e : cur.toList = List.replicate n (.int .u8 0) := by
      rw [← ht, List.take_of_length_le]
      rw [Array.length_toList]
      omega
    apply Array.ext'
    rw [e]
    simp [u8v]
/-- Bytes stored one behind the other. -/
theorem store_z (g o : Nat) : ∀ (vs : List Nat) (i : Nat) (l : List Nat) (w : World), ZRow w g l → o + i + vs.length ≤ l.length →
    ∃ w', (storeCells ⟨g, o, none⟩ (vs.map fun b : Nat => Value.int .u8 (b : Int)) i).run Try.prog w = .ok () w' ∧ ZRow w' g (l.take (o + i) ++ vs ++ l.drop (o + i + vs.length)) ∧ w.grownBy w' (some g)
  | [], i, l, w, h, _ => ⟨w, rfl, by simpa using h, World.grownBy.refl _ _⟩
  | v :: rest, i, l, w, h, hl => by
    have hi : o + i < l.length := by simp at hl; omega
    have hadd : (⟨g, o, none⟩ : Addr).add i = ⟨g, o + i, none⟩ := by unfold Addr.add; split <;> simp_all
    have hst : (store ((⟨g, o, none⟩ : Addr).add i) (Value.int .u8 (v : Int))).run Try.prog w = .ok () (w.setCell ⟨g, o + i, none⟩ (.int .u8 (v : Int))) := by
      rw [hadd, run_store Try.prog w _ _ _ rfl, h.cell (o + i) hi]
      simp [h.frozen (o + i)]
    obtain ⟨w', e1, e2, e3⟩ := store_z g o rest (i + 1) (l.set (o + i) v) (w.setCell ⟨g, o + i, none⟩ (.int .u8 (v : Int))) (h.set (o + i) v) (by rw [List.length_set]; simp at hl; omega)
    refine ⟨w', ?_, ?_, grown_trans (BRow.grownBy_set g (o + i) _) e3⟩
    · simp only [List.map_cons, storeCells, Sem.run_bind, hst, Result.andThen_ok, e1]
    · have e := seg_step l (o + i) v rest (by simp at hl; omega)
      rw [show o + (i + 1) = o + i + 1 by omega, e] at e2
      simpa using e2
/-- 'copy(dst, t)', t a text that fits, dst in a made row of bytes from place o on. -/
theorem copy_z {w : World} {g o dLen dCap : Nat} {l : List Nat} (t : ByteArray) (h : ZRow w g l) (hle : t.size ≤ dLen) (hf : o + t.size ≤ l.length) :
    ∃ w', (Builtin.copy_ #[83, 9] 3 #[.slice (some ⟨g, o, none⟩) dLen dCap, .string t]).run Try.prog w = .ok (goInt t.size) w' ∧ ZRow w' g (l.take o ++ bs t ++ l.drop (o + t.size)) ∧ w.grownBy w' (some g) := by
  obtain ⟨w', e1, e2, e3⟩ := store_z g o (bs t) 0 l w h (by rw [bs_length]; omega)
  refine ⟨w', ?_, by rw [bs_length] at e2; simpa using e2, e3⟩
  have hmin : Nat.min t.size dLen = t.size := Nat.min_eq_left hle
  have htk : List.take t.size (List.map (fun b : UInt8 => Value.int IntKind.u8 (b.toNat : Int)) t.data.toList) = (bs t).map (fun b : Nat => Value.int .u8 (b : Int)) := by
    rw [List.take_of_length_le (by rw [List.length_map, Array.length_toList]; exact Nat.le_refl _)]
    unfold bs
    rw [List.map_map]
    rfl
  obtain ⟨i0, hi, hz0, hz1, hz2⟩ := info_parts infoByte
  simp [Builtin.copy_, run_underlying (P := Try.prog) Try.underlying83, Builtin.lenOf, Builtin.firstCells, sizeOf, typeInfo, hi, hmin]
  rw [htk, e1]
  simp [Result.andThen]

set_option maxRecDepth 100000 in
set_option maxHeartbeats 800000 in
theorem putHigh_calls (g o len cap n : Nat) (l : List Nat) (w : World) (h : ZRow w g l) (ho : o + 1 < l.length) (hlen : 2 ≤ len) (hn : n < 65536) :
    Calls Try.prog 69 #[.slice (some ⟨g, o, none⟩) len cap, .int .i64 n] w fun e w' => e = .returned (.tuple #[]) ∧ ZRow w' g ((l.set o (n / 256)).set (o + 1) (n % 256)) ∧ w.grownBy w' (some g) := by
  have c0 := h.cell o (by omega)
  have f0 := h.frozen o
  have c1 := h.cell (o + 1) ho
  have f1 := h.frozen (o + 1)
  have t1 : (0 : Int) < (len : Int) := by omega
  have t2 : (1 : Int) < (len : Int) := by omega
  have H1 := hide h
  clear h
  go_enter Try.func69, Try.ntmps69
  go_wp2
  go_end0
  exact ⟨rfl, (H1.out.set o (n / 256)).set (o + 1) (n % 256), grown_trans (BRow.grownBy_set g o _) (BRow.grownBy_set g (o + 1) _)⟩

/-- The first k of a sum's bytes, and noughts. -/
def lowTo (n k : Nat) : List Nat := (low4 n).take k ++ List.replicate (4 - k) 0
theorem lowTo_step (n k : Nat) (h : k < 4) : (lowTo n k).set k (n / 256 ^ k % 256) = lowTo n (k + 1) := by
  have : k = 0 ∨ k = 1 ∨ k = 2 ∨ k = 3 := by omega
  rcases this with rfl | rfl | rfl | rfl <;> simp [lowTo, low4]
theorem lowTo_length (n k : Nat) (h : k ≤ 4) : (lowTo n k).length = 4 := by
  unfold lowTo
  rw [List.length_append, List.length_take, List.length_replicate, low4_length]
  omega

set_option maxRecDepth 100000 in
set_option maxHeartbeats 800000 in
theorem sumBytes_calls (s : ByteArray) (w : World) (hs : s.size ≤ 400) :
    Calls Try.prog 61 #[.string s] w fun e w' => e = .returned (.string (ofN (low4 (Crc.on 0 (bs s))))) ∧ Below w.heap.size w w' := by
  have e : onR 0 s = (((Crc.on 0 (bs s) : Nat) : Int), true) := if_pos ⟨by decide, hs⟩
  have hlt : Crc.on 0 (bs s) < 4294967296 := Crc.on_lt (by decide) (bs_lt s)
  generalize Crc.on 0 (bs s) = n at hlt e ⊢
  have E0 := hide e
  clear e
  go_enter Try.func61, Try.ntmps61
  go_wp2_with fail
  refine (sumOf_calls s _ (by unfold maxLen; omega)).mono ?_
  rintro e' w1 ⟨rfl, b1⟩
  rw [E0.out]
  have hw1 : w.heap.size ≤ w1.heap.size := b1.size
  have B1 := hide b1
  clear b1
  go_wp2_with (at_make; refine wpList_make_bytes rfl _ _ rfl w1.heap.size _ _ 4 rfl rfl (by omega) (by omega) (by omega) (Nat.le_refl _) ?_)
  intro w2 hown hgrow
  have Z2 := hide (zrow_made hown)
  have B2 := hide (B1.out.trans ((grown_none hgrow).mono B1.out.size))
  clear hown hgrow B1
  go_wp2
  go_loopw [3, 15] (fun vx vk wr => ∃ (k x : Nat), vx = .int .i64 x ∧ vk = .int .i64 k ∧ k ≤ 4 ∧ x = n / 256 ^ k ∧ ZRow wr w1.heap.size (lowTo n k) ∧ Below w.heap.size w wr) (fun _ vk _ => 4 - (intOf vk).toNat)
  case atStart => exact ⟨0, n, rfl, rfl, by omega, by simp, Z2.out, B2.out⟩
  case round =>
    obtain ⟨k, x, rfl, rfl, hk, hx, hz, hb⟩ := hrel
    have hxl : x < 4294967296 := by rw [hx]; exact Nat.lt_of_le_of_lt (Nat.div_le_self _ _) hlt
    have HX := hide hx
    have HB := hide hb
    have HZ := hide hz
    clear hx hb
    by_cases h4 : k < 4
    · have c0 := hz.cell k (by rw [lowTo_length n k hk]; exact h4)
      have f0 := hz.frozen k
      have h4' : (k : Int) < 4 := by omega
      clear hz
      go_wp2
      go_roundw
      case rel =>
        refine ⟨k + 1, x / 256, int_eq (by omega), int_eq (by omega), by omega, ?_, ?_, ?_⟩
        · rw [HX.out, Nat.div_div_eq_div_mul, ← Nat.pow_succ]
        · rw [← lowTo_step n k h4, ← HX.out]
          exact HZ.out.set k (x % 256)
        · exact HB.out.setCell hw1 _
      case measure => simp [intOf]; omega
    · obtain rfl : k = 4 := by omega
      have hcv := hz.conv (n := 4) (cap := 4) (low4_small _) (by rw [lowTo_length n 4 hk]; exact Nat.le_refl _)
      clear hz
      have et : List.take 4 (lowTo n 4) = low4 n := by simp [lowTo, low4]
      rw [et] at hcv
      go_wp2
      go_ret
      exact ⟨rfl, HB.out⟩
end Go.Proofs.Ytbgadbokejaomaa

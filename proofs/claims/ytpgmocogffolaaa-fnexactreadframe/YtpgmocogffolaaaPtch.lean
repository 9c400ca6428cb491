/-
  A text with some bytes in the place of others, and its sum: the program's function and its model's, call by call. No condition but a bound on the texts' lengths.
-/
import Derived.Test.YtpgmocogffolaaaBrst
namespace Go.Proofs.Ytpgmocogffolaaa
open Go.RowKit

theorem seg_step {α : Type} (l : List α) (k : Nat) (v : α) (rest : List α) (hk : k + (rest.length + 1) ≤ l.length) :
    (l.set k v).take (k + 1) ++ rest ++ (l.set k v).drop (k + 1 + rest.length) = l.take k ++ (v :: rest) ++ l.drop (k + (rest.length + 1)) := by
  have h1 : (l.set k v).take (k + 1) = l.take k ++ [v] := by
    rw [List.take_succ_eq_append_getElem (by rw [List.length_set]; omega), List.getElem_set_self, List.take_set_of_le (Nat.le_refl _)]
  have h2 : (l.set k v).drop (k + 1 + rest.length) = l.drop (k + (rest.length + 1)) := by
    rw [List.drop_set_of_lt (by omega)]
    congr 1
    omega
  rw [h1, h2]
  simp
theorem BRow.grownBy_set {w : World} (g i : Nat) (v : Value) : w.grownBy (w.setCell ⟨g, i, none⟩ v) (some g) :=
  ⟨rfl, rfl, rfl, by simp, fun j _ hj => Below.heap_setCell _ _ _ j (fun e => hj (by rw [e]))⟩
theorem grown_trans {w w' w'' : World} {row : Option Nat} (h : w.grownBy w' row) (k : w'.grownBy w'' row) : w.grownBy w'' row :=
  ⟨k.os.trans h.os, k.tape.trans h.tape, k.output.trans h.output, Nat.le_trans h.size k.size, fun j hj hne => (k.block j (Nat.lt_of_lt_of_le hj h.size) hne).trans (h.block j hj hne)⟩
/-- Bytes stored one behind the other into a row of bytes. -/
theorem store_bytes (g o m : Nat) : ∀ (vs : List Nat) (i : Nat) (l : List Nat) (w : World), BRow w g m l → o + i + vs.length ≤ l.length →
    ∃ w', (storeCells ⟨g, o, none⟩ (vs.map fun b : Nat => Value.int .u8 (b : Int)) i).run Try.prog w = .ok () w' ∧ BRow w' g m (l.take (o + i) ++ vs ++ l.drop (o + i + vs.length)) ∧ w.grownBy w' (some g)
  | [], i, l, w, h, _ => ⟨w, rfl, by simpa using h, World.grownBy.refl _ _⟩
  | v :: rest, i, l, w, h, hl => by
    have hi : o + i < l.length := by simp at hl; omega
    have hadd : (⟨g, o, none⟩ : Addr).add i = ⟨g, o + i, none⟩ := by unfold Addr.add; split <;> simp_all
    have hst : (store ((⟨g, o, none⟩ : Addr).add i) (Value.int .u8 (v : Int))).run Try.prog w = .ok () (w.setCell ⟨g, o + i, none⟩ (.int .u8 (v : Int))) := by
      rw [hadd, run_store Try.prog w _ _ _ rfl, h.cell (o + i) hi]
      simp [h.frozen (o + i) hi]
    obtain ⟨w', e1, e2, e3⟩ := store_bytes g o m rest (i + 1) (l.set (o + i) v) (w.setCell ⟨g, o + i, none⟩ (.int .u8 (v : Int))) (h.set (o + i) v) (by rw [List.length_set]; simp at hl; omega)
    refine ⟨w', ?_, ?_, grown_trans (BRow.grownBy_set g (o + i) _) e3⟩
    · simp only [List.map_cons, storeCells, Sem.run_bind, hst, Result.andThen_ok, e1]
    · have e := seg_step l (o + i) v rest (by simp at hl; omega)
      rw [show o + (i + 1) = o + i + 1 by omega, e] at e2
      simpa using e2
/-- 'copy(dst, t)', t a text that fits, dst in a row of bytes from place o on. -/
theorem copy_text {w : World} {g m o dLen dCap : Nat} {l : List Nat} (t : ByteArray) (h : BRow w g m l) (hle : t.size ≤ dLen) (hf : o + t.size ≤ l.length) :
    ∃ w', (Builtin.copy_ #[121, 9] 3 #[.slice (some ⟨g, o, none⟩) dLen dCap, .string t]).run Try.prog w = .ok (goInt t.size) w' ∧ BRow w' g m (l.take o ++ bs t ++ l.drop (o + t.size)) ∧ w.grownBy w' (some g) := by
  obtain ⟨w', e1, e2, e3⟩ := store_bytes g o m (bs t) 0 l w h (by rw [bs_length]; omega)
  refine ⟨w', ?_, by rw [bs_length] at e2; simpa using e2, e3⟩
  have hmin : Nat.min t.size dLen = t.size := Nat.min_eq_left hle
  have htk : List.take t.size (List.map (fun b : UInt8 => Value.int IntKind.u8 (b.toNat : Int)) t.data.toList) = (bs t).map (fun b : Nat => Value.int .u8 (b : Int)) := by
    rw [List.take_of_length_le (by rw [List.length_map, Array.length_toList]; exact Nat.le_refl _)]
    unfold bs
    rw [List.map_map]
    rfl
  obtain ⟨i0, hi, hz0, hz1, hz2⟩ := info_parts infoByte
  simp [Builtin.copy_, run_underlying (P := Try.prog) Try.underlying121, Builtin.lenOf, Builtin.firstCells, sizeOf, typeInfo, hi, hmin]
  rw [htk, e1]
  simp [Result.andThen]

/-- Bytes in the place of others. -/
def pat (l m : List Nat) (p : Nat) : List Nat := l.take p ++ m ++ l.drop (p + m.length)
theorem pat_length (l m : List Nat) (p : Nat) (h : p + m.length ≤ l.length) : (pat l m p).length = l.length := by
  unfold pat
  rw [List.length_append, List.length_append, List.length_take, List.length_drop]
  omega
theorem pat_small {l m : List Nat} (hl : ∀ b ∈ l, b < 256) (hm : ∀ b ∈ m, b < 256) (p : Nat) : ∀ b ∈ pat l m p, b < 256 := by
  intro b hb
  unfold pat at hb
  rw [List.mem_append, List.mem_append] at hb
  rcases hb with (hb | hb) | hb
  · exact hl b (List.mem_of_mem_take hb)
  · exact hm b hb
  · exact hl b (List.mem_of_mem_drop hb)
/-- A text with another in the place of as many bytes from p on, its sum, and whether that can be. -/
def patchR (s : ByteArray) (p : Int) (t : ByteArray) : ByteArray × Int × Bool :=
  if (0 ≤ p ∧ p ≤ (s.size : Int) - (t.size : Int)) ∧ s.size ≤ 400 then (ofN (pat (bs s) (bs t) p.toNat), ((Crc.on 0 (pat (bs s) (bs t) p.toNat) : Nat) : Int), true) else (⟨#[]⟩, 0, false)

theorem onR_pat {l : List Nat} (hl : ∀ b ∈ l, b < 256) (h : l.length ≤ 400) : onR 0 (ofN l) = (((Crc.on 0 l : Nat) : Int), true) := by
  unfold onR
  rw [if_pos ⟨by decide, by rw [ofN_size]; exact h⟩, bs_ofN hl]
  rfl
theorem pat_none (l : List Nat) (p : Nat) : pat l [] p = l := by simp [pat]
theorem ofN_map (L : List UInt8) : ofN (L.map UInt8.toNat) = ⟨L.toArray⟩ := by
  unfold ofN
  have e : (L.map UInt8.toNat).map UInt8.ofNat = L := by
    rw [List.map_map]
    conv => rhs; rw [← List.map_id L]
    refine List.map_congr_left fun b _ => ?_
    show UInt8.ofNat b.toNat = b
    simp
  rw [e]
theorem put_text (s t : ByteArray) (P : Nat) : s.extract 0 P ++ t ++ s.extract (P + t.size) s.size = ofN (pat (bs s) (bs t) P) := by
  obtain ⟨⟨ls⟩⟩ := s
  obtain ⟨⟨lt⟩⟩ := t
  have e1 : bs ⟨⟨ls⟩⟩ = ls.map UInt8.toNat := rfl
  have e2 : bs ⟨⟨lt⟩⟩ = lt.map UInt8.toNat := rfl
  have n1 : (ByteArray.mk ⟨ls⟩).size = ls.length := rfl
  have n2 : (ByteArray.mk ⟨lt⟩).size = lt.length := rfl
  rw [e1, e2, n1, n2]
  unfold pat
  rw [List.length_map, ← List.map_take, ← List.map_drop, ← List.map_append, ← List.map_append, ofN_map]
  have x1 : (ByteArray.mk ⟨ls⟩).extract 0 P = ByteArray.mk (ls.take P).toArray := by
    have := ByteArray.extract_mk ls 0 P
    simpa using this
  have x2 : (ByteArray.mk ⟨ls⟩).extract (P + lt.length) ls.length = ByteArray.mk (ls.drop (P + lt.length)).toArray := by
    have := ByteArray.extract_mk ls (P + lt.length) ls.length
    rw [List.take_of_length_le (by rw [List.length_drop]; exact Nat.le_refl _)] at this
    exact this
  have x3 : ByteArray.mk ⟨lt⟩ = ByteArray.mk lt.toArray := rfl
  rw [x1, x2, x3, ByteArray.mk_append_mk, ByteArray.mk_append_mk]
theorem ret_patch {a b : ByteArray} {c d : Int} (h : a = b) (h' : c = d) : Ending.returned (.tuple #[.string a, .int .i64 c, .bool true]) = .returned (.tuple #[.string b, .int .i64 d, .bool true]) := by rw [h, h']
theorem grown_row {w w' w'' : World} {g : Nat} (h : Below w.heap.size w w') (k : w'.grownBy w'' (some g)) (hg : w.heap.size ≤ g) : Below w.heap.size w w'' :=
  h.grown k h.size (fun j hj => by cases hj; exact hg)

end Go.Proofs.Ytpgmocogffolaaa

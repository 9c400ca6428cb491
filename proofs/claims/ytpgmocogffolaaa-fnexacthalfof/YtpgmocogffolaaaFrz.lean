/-
  A row of bytes that was made, written byte by byte and by copies; two bytes of a number, four of a sum: the program's functions call by call. Each contract says what it asks.
-/
import Derived.Test.YtpgmocogffolaaaFrg
namespace Go.Proofs.Ytpgmocogffolaaa
open Go.RowKit

def u8v (b : Nat) : Value := .int .u8 (b : Int)
/-- Block g is a row of just these bytes. -/
def ZRow (w : World) (g : Nat) (l : List Nat) : Prop := w.heap[g]? = some (.cells (l.map u8v).toArray 5 (0, 0))
theorem ZRow.lt {w : World} {g : Nat} {l : List Nat} (h : ZRow w g l) : g < w.heap.size := (Array.getElem?_eq_some_iff.1 h).1
theorem ZRow.cell {w : World} {g : Nat} {l : List Nat} (h : ZRow w g l) (i : Nat) (hi : i < l.length) : w.cell? ⟨g, i, none⟩ = some (.int .u8 (l.getD i 0 : Nat)) := by
  rw [cell_of_row w g i _ _ _ h, List.getElem?_toArray, List.getElem?_map, List.getD_eq_getElem?_getD, List.getElem?_eq_getElem hi]
  rfl
theorem ZRow.frozen {w : World} {g : Nat} {l : List Nat} (h : ZRow w g l) (i : Nat) : w.frozen? ⟨g, i, none⟩ = false := frozen_of_row w g i _ _ h
theorem ZRow.set {w : World} {g : Nat} {l : List Nat} (h : ZRow w g l) (i v : Nat) : ZRow (w.setCell ⟨g, i, none⟩ (.int .u8 (v : Nat))) g (l.set i v) := by
  have := heap_setCell_same w g i _ _ (Value.int .u8 (v : Nat)) h
  unfold ZRow
  rw [this, List.map_set]
  congr 2
  simp [u8v]
theorem ZRow.drew {w : World} {g : Nat} {l : List Nat} (h : ZRow w g l) : ZRow w.drew g l := h
theorem ZRow.kept {w w' : World} {g : Nat} {l : List Nat} (h : ZRow w g l) (hb : Below w.heap.size w w') : ZRow w' g l := by
  have hl := h.lt
  unfold ZRow at h ⊢
  rw [hb.block g hl]
  exact h
theorem ZRow.conv {w : World} {g n cap : Nat} {l : List Nat} (h : ZRow w g l) (hl : ∀ b ∈ l, b < 256) (hn : n ≤ l.length) :
    (convert 121 9 (.slice (some ⟨g, 0, none⟩) n cap)).run Try.prog w = .ok (.string (ofN (l.take n))) w := by
  have := run_convert_bytes_back (P := Try.prog) w 121 9 5 ⟨g, 0, none⟩ cap ((l.take n).map UInt8.ofNat) Try.underlying121 Try.underlying5 Try.underlying9 (fun j hj => by
    have hj' : j < n := by simp at hj; omega
    have hadd : (⟨g, 0, none⟩ : Addr).add j = ⟨g, 0 + j, none⟩ := by unfold Addr.add; split <;> simp_all
    rw [hadd, Nat.zero_add, h.cell j (by omega), List.getD_eq_getElem?_getD, List.getElem?_eq_getElem (by omega), List.getElem_map, List.getElem_take, Option.getD_some]
    rw [UInt8.toNat_ofNat', Nat.mod_eq_of_lt (hl _ (List.getElem_mem _))])
  rw [List.length_map, List.length_take, Nat.min_eq_left hn] at this
  exact this
theorem zrow_made {w : World} {base g n : Nat} (h : w.ownsRow base 5 1 (.slice (some ⟨g, 0, none⟩) n n) n (List.replicate n (.int .u8 0))) : ZRow w g (List.replicate n 0) := by
  rcases h.2 with ⟨h', _⟩ | ⟨g', cap', cur, h', _, hg, _, _, hs, ht⟩
  · simp at h'
  · simp at h'
    obtain ⟨rfl, rfl⟩ := h'
    unfold ZRow
    rw [hg]
    congr 2
    have e : cur.toList = List.replicate n (.int .u8 0) := by
      rw [← ht, List.take_of_length_le]
      rw [Array.length_toList]
      omega
    apply Array.ext'
    rw [e]
    simp [u8v]
/-- Bytes stored one behind the other. -/
theorem store_z (g o : Nat) : ∀ (vs : List Nat) (i : Nat) (l : List Nat) (w : World), ZRow w g l → o + i + vs.length ≤ l.length →
    ∃ w', (storeCells ⟨g, o, none⟩ (vs.map fun b : Nat => Value.int .u8 (b : Int)) i).run Try.prog w = .ok () w' ∧ ZRow w' g (l.take (o + i) ++ vs ++ l.drop (o + i + vs.length)) ∧ w.grownBy w' (some g)
  | [], i, l, w, h, _ => ⟨w, rfl, by simpa using h, World.grownBy.refl _ _⟩
  | v :: rest, i, l, w, h, hl => by
    have hi : o + i < l.length := by simp at hl; omega
    have hadd : (⟨g, o, none⟩ : Addr).add i = ⟨g, o + i, none⟩ := by unfold Addr.add; split <;> simp_all
    have hst : (store ((⟨g, o, none⟩ : Addr).add i) (Value.int .u8 (v : Int))).run Try.prog w = .ok () (w.setCell ⟨g, o + i, none⟩ (.int .u8 (v : Int))) := by
      rw [hadd, run_store Try.prog w _ _ _ rfl, h.cell (o + i) hi]
      simp [h.frozen (o + i)]
    obtain ⟨w', e1, e2, e3⟩ := store_z g o rest (i + 1) (l.set (o + i) v) (w.setCell ⟨g, o + i, none⟩ (.int .u8 (v : Int))) (h.set (o + i) v) (by rw [List.length_set]; simp at hl; omega)
    refine ⟨w', ?_, ?_, grown_trans (BRow.grownBy_set g (o + i) _) e3⟩
    · simp only [List.map_cons, storeCells, Sem.run_bind, hst, Result.andThen_ok, e1]
    · have e := seg_step l (o + i) v rest (by simp at hl; omega)
      rw [show o + (i + 1) = o + i + 1 by omega, e] at e2
      simpa using e2
/-- 'copy(dst, t)', t a text that fits, dst in a made row of bytes from place o on. -/
theorem copy_z {w : World} {g o dLen dCap : Nat} {l : List Nat} (t : ByteArray) (h : ZRow w g l) (hle : t.size ≤ dLen) (hf : o + t.size ≤ l.length) :
    ∃ w', (Builtin.copy_ #[121, 9] 3 #[.slice (some ⟨g, o, none⟩) dLen dCap, .string t]).run Try.prog w = .ok (goInt t.size) w' ∧ ZRow w' g (l.take o ++ bs t ++ l.drop (o + t.size)) ∧ w.grownBy w' (some g) := by
  obtain ⟨w', e1, e2, e3⟩ := store_z g o (bs t) 0 l w h (by rw [bs_length]; omega)
  refine ⟨w', ?_, by rw [bs_length] at e2; simpa using e2, e3⟩
  have hmin : Nat.min t.size dLen = t.size := Nat.min_eq_left hle
  have htk : List.take t.size (List.map (fun b : UInt8 => Value.int IntKind.u8 (b.toNat : Int)) t.data.toList) = (bs t).map (fun b : Nat => Value.int .u8 (b : Int)) := by
    rw [List.take_of_length_le (by rw [List.length_map, Array.length_toList]; exact Nat.le_refl _)]
    unfold bs
    rw [List.map_map]
    rfl
  obtain ⟨i0, hi, hz0, hz1, hz2⟩ := info_parts infoByte
  simp [Builtin.copy_, run_underlying (P := Try.prog) Try.underlying121, Builtin.lenOf, Builtin.firstCells, sizeOf, typeInfo, hi, hmin]
  rw [htk, e1]
  simp [Result.andThen]

set_option maxRecDepth 100000 in
set_option maxHeartbeats 800000 in
theorem putHigh_calls (g o len cap n : Nat) (l : List Nat) (w : World) (h : ZRow w g l) (ho : o + 1 < l.length) (hlen : 2 ≤ len) (hn : n < 65536) :
    Calls Try.prog 102 #[.slice (some ⟨g, o, none⟩) len cap, .int .i64 n] w fun e w' => e = .returned (.tuple #[]) ∧ ZRow w' g ((l.set o (n / 256)).set (o + 1) (n % 256)) ∧ w.grownBy w' (some g) := by
  have c0 := h.cell o (by omega)
  have f0 := h.frozen o
  have c1 := h.cell (o + 1) ho
  have f1 := h.frozen (o + 1)
  have t1 : (0 : Int) < (len : Int) := by omega
  have t2 : (1 : Int) < (len : Int) := by omega
  have H1 := hide h
  clear h
  go_enter Try.func102, Try.ntmps102
  go_wp2
  go_end0
  exact ⟨rfl, (H1.out.set o (n / 256)).set (o + 1) (n % 256), grown_trans (BRow.grownBy_set g o _) (BRow.grownBy_set g (o + 1) _)⟩

/-- The first k of a sum's bytes, and noughts. -/
def lowTo (n k : Nat) : List Nat := (low4 n).take k ++ List.replicate (4 - k) 0
theorem lowTo_step (n k : Nat) (h : k < 4) : (lowTo n k).set k (n / 256 ^ k % 256) = lowTo n (k + 1) := by
  have : k = 0 ∨ k = 1 ∨ k = 2 ∨ k = 3 := by omega
  rcases this with rfl | rfl | rfl | rfl <;> simp [lowTo, low4]
theorem lowTo_length (n k : Nat) (h : k ≤ 4) : (lowTo n k).length = 4 := by
  unfold lowTo
  rw [List.length_append, List.length_take, List.length_replicate, low4_length]
  omega

set_option maxRecDepth 100000 in
set_option maxHeartbeats 800000 in
theorem sumBytes_calls (s : ByteArray) (w : World) (hs : s.size ≤ 400) :
    Calls Try.prog 103 #[.string s] w fun e w' => e = .returned (.string (ofN (low4 (Crc.on 0 (bs s))))) ∧ Below w.heap.size w w' := by
  have e : onR 0 s = (((Crc.on 0 (bs s) : Nat) : Int), true) := if_pos ⟨by decide, hs⟩
  have hlt : Crc.on 0 (bs s) < 4294967296 := Crc.on_lt (by decide) (bs_lt s)
  generalize Crc.on 0 (bs s) = n at hlt e ⊢
  have E0 := hide e
  clear e
  go_enter Try.func103, Try.ntmps103
  go_wp2_with fail
  refine (sumOf_calls s _ (by unfold maxLen; omega)).mono ?_
  rintro e' w1 ⟨rfl, b1⟩
  rw [E0.out]
  have hw1 : w.heap.size ≤ w1.heap.size := b1.size
  have B1 := hide b1
  clear b1
  go_wp2_with (at_make; refine wpList_make_bytes rfl _ _ rfl w1.heap.size _ _ 4 rfl rfl (by omega) (by omega) (by omega) (Nat.le_refl _) ?_)
  intro w2 hown hgrow
  have Z2 := hide (zrow_made hown)
  have B2 := hide (B1.out.trans ((grown_none hgrow).mono B1.out.size))
  clear hown hgrow B1
  go_wp2
  go_loopw [3, 15] (fun vx vk wr => ∃ (k x : Nat), vx = .int .i64 x ∧ vk = .int .i64 k ∧ k ≤ 4 ∧ x = n / 256 ^ k ∧ ZRow wr w1.heap.size (lowTo n k) ∧ Below w.heap.size w wr) (fun _ vk _ => 4 - (intOf vk).toNat)
  case atStart => exact ⟨0, n, rfl, rfl, by omega, by simp, Z2.out, B2.out⟩
  case round =>
    obtain ⟨k, x, rfl, rfl, hk, hx, hz, hb⟩ := hrel
    have hxl : x < 4294967296 := by rw [hx]; exact Nat.lt_of_le_of_lt (Nat.div_le_self _ _) hlt
    have HX := hide hx
    have HB := hide hb
    have HZ := hide hz
    clear hx hb
    by_cases h4 : k < 4
    · have c0 := hz.cell k (by rw [lowTo_length n k hk]; exact h4)
      have f0 := hz.frozen k
      have h4' : (k : Int) < 4 := by omega
      clear hz
      go_wp2
      go_roundw
      case rel =>
        refine ⟨k + 1, x / 256, int_eq (by omega), int_eq (by omega), by omega, ?_, ?_, ?_⟩
        · rw [HX.out, Nat.div_div_eq_div_mul, ← Nat.pow_succ]
        · rw [← lowTo_step n k h4, ← HX.out]
          exact HZ.out.set k (x % 256)
        · exact HB.out.setCell hw1 _
      case measure => simp [intOf]; omega
    · obtain rfl : k = 4 := by omega
      have hcv := hz.conv (n := 4) (cap := 4) (low4_small _) (by rw [lowTo_length n 4 hk]; exact Nat.le_refl _)
      clear hz
      have et : List.take 4 (lowTo n 4) = low4 n := by simp [lowTo, low4]
      rw [et] at hcv
      go_wp2
      go_ret
      exact ⟨rfl, HB.out⟩
end Go.Proofs.Ytpgmocogffolaaa

/-
  A row of bytes that was made, written byte by byte and by copies; two bytes of a number, four of a sum: the program's functions call by call. Each contract says what it asks. A frame's bytes: the program's function, call by call. No condition but a bound on the body's length. Bytes of a number, a number of bytes, a frame's bytes: the model's functions, call by call. Each contract says what it asks.
-/
import Derived.Test.YtbgadbokejaomaaGreatDoorRewriteAtB2
namespace Go.Proofs.YtbgadbokejaomaaGreatDoor
open Go.RowKit

def u8v (b : Nat) : Value := .int .u8 (b : Int)
/-- Block g is a row of just these bytes. -/
def ZRow (w : World) (g : Nat) (l : List Nat) : Prop := w.heap[g]? = some (.cells (l.map u8v).toArray 5 (0, 0))
theorem ZRow.lt {w : World} {g : Nat} {l : List Nat} (h : ZRow w g l) : g < w.heap.size := (Array.getElem?_eq_some_iff.1 h).1
theorem ZRow.cell {w : World} {g : Nat} {l : List Nat} (h : ZRow w g l) (i : Nat) (hi : i < l.length) : w.cell? ⟨g, i, none⟩ = some (.int .u8 (l.getD i 0 : Nat)) := by
  rw [cell_of_row w g i _ _ _ h, List.getElem?_toArray, List.getElem?_map, List.getD_eq_getElem?_getD, List.getElem?_eq_getElem hi]
  rfl
theorem ZRow.frozen {w : World} {g : Nat} {l : List Nat} (h : ZRow w g l) (i : Nat) : w.frozen? ⟨g, i, none⟩ = false := frozen_of_row w g i _ _ h
theorem ZRow.set {w : World} {g : Nat} {l : List Nat} (h : ZRow w g l) (i v : Nat) : ZRow (w.setCell ⟨g, i, none⟩ (.int .u8 (v : Nat))) g (l.set i v) := by
  have := heap_setCell_same w g i _ _ (Value.int .u8 (v : Nat)) h
  unfold ZRow
  rw [this, List.map_set]
  congr 2
  simp [u8v]
theorem ZRow.drew {w : World} {g : Nat} {l : List Nat} (h : ZRow w g l) : ZRow w.drew g l := h
theorem ZRow.kept {w w' : World} {g : Nat} {l : List Nat} (h : ZRow w g l) (hb : Below w.heap.size w w') : ZRow w' g l := by
  have hl := h.lt
  unfold ZRow at h ⊢
  rw [hb.block g hl]
  exact h
theorem ZRow.conv {w : World} {g n cap : Nat} {l : List Nat} (h : ZRow w g l) (hl : ∀ b ∈ l, b < 256) (hn : n ≤ l.length) :
    (convert 56 9 (.slice (some ⟨g, 0, none⟩) n cap)).run Tryz.prog w = .ok (.string (ofN (l.take n))) w := by
  have := run_convert_bytes_back (P := Tryz.prog) w 56 9 5 ⟨g, 0, none⟩ cap ((l.take n).map UInt8.ofNat) Tryz.underlying56 Tryz.underlying5 Tryz.underlying9 (fun j hj => by
    have hj' : j < n := by simp at hj; omega
    have hadd : (⟨g, 0, none⟩ : Addr).add j = ⟨g, 0 + j, none⟩ := by unfold Addr.add; split <;> simp_all
    rw [hadd, Nat.zero_add, h.cell j (by omega), List.getD_eq_getElem?_getD, List.getElem?_eq_getElem (by omega), List.getElem_map, List.getElem_take, Option.getD_some]
    rw [UInt8.toNat_ofNat', Nat.mod_eq_of_lt (hl _ (List.getElem_mem _))])
  rw [List.length_map, List.length_take, Nat.min_eq_left hn] at this
  exact this
theorem zrow_made {w : World} {base g n : Nat} (h : w.ownsRow base 5 1 (.slice (some ⟨g, 0, none⟩) n n) n (List.replicate n (.int .u8 0))) : ZRow w g (List.replicate n 0) := by
  rcases h.2 with ⟨h', _⟩ | ⟨g', cap', cur, h', _, hg, _, _, hs, ht⟩
  · simp at h'
  · simp at h'
    obtain ⟨rfl, rfl⟩ := h'
    unfold ZRow
    rw [hg]
    congr 2
    have e : cur.toList = List.replicate n (.int .u8 0) := by
      rw [← ht, List.take_of_length_le]
      rw [Array.length_toList]
      omega
    apply Array.ext'
    rw [e]
    simp [u8v]
/-- Bytes stored one behind the other. -/
theorem store_z (g o : Nat) : ∀ (vs : List Nat) (i : Nat) (l : List Nat) (w : World), ZRow w g l → o + i + vs.length ≤ l.length →
    ∃ w', (storeCells ⟨g, o, none⟩ (vs.map fun b : Nat => Value.int .u8 (b : Int)) i).run Tryz.prog w = .ok () w' ∧ ZRow w' g (l.take (o + i) ++ vs ++ l.drop (o + i + vs.length)) ∧ w.grownBy w' (some g)
  | [], i, l, w, h, _ => ⟨w, rfl, by simpa using h, World.grownBy.refl _ _⟩
  | v :: rest, i, l, w, h, hl => by
    have hi : o + i < l.length := by simp at hl; omega
    have hadd : (⟨g, o, none⟩ : Addr).add i = ⟨g, o + i, none⟩ := by unfold Addr.add; split <;> simp_all
    have hst : (store ((⟨g, o, none⟩ : Addr).add i) (Value.int .u8 (v : Int))).run Tryz.prog w = .ok () (w.setCell ⟨g, o + i, none⟩ (.int .u8 (v : Int))) := by
      rw [hadd, run_store Tryz.prog w _ _ _ rfl, h.cell (o + i) hi]
      simp [h.frozen (o + i)]
    obtain ⟨w', e1, e2, e3⟩ := store_z g o rest (i + 1) (l.set (o + i) v) (w.setCell ⟨g, o + i, none⟩ (.int .u8 (v : Int))) (h.set (o + i) v) (by rw [List.length_set]; simp at hl; omega)
    refine ⟨w', ?_, ?_, grown_trans (BRow.grownBy_set g (o + i) _) e3⟩
    · simp only [List.map_cons, storeCells, Sem.run_bind, hst, Result.andThen_ok, e1]
    · have e := seg_step l (o + i) v rest (by simp at hl; omega)
      rw [show o + (i + 1) = o + i + 1 by omega, e] at e2
      simpa using e2
/-- 'copy(dst, t)', t a text that fits, dst in a made row of bytes from place o on. -/
theorem copy_z {w : World} {g o dLen dCap : Nat} {l : List Nat} (t : ByteArray) (h : ZRow w g l) (hle : t.size ≤ dLen) (hf : o + t.size ≤ l.length) :
    ∃ w', (Builtin.copy_ #[56, 9] 3 #[.slice (some ⟨g, o, none⟩) dLen dCap, .string t]).run Tryz.prog w = .ok (goInt t.size) w' ∧ ZRow w' g (l.take o ++ bs t ++ l.drop (o + t.size)) ∧ w.grownBy w' (some g) := by
  obtain ⟨w', e1, e2, e3⟩ := store_z g o (bs t) 0 l w h (by rw [bs_length]; omega)
  refine ⟨w', ?_, by rw [bs_length] at e2; simpa using e2, e3⟩
  have hmin : Nat.min t.size dLen = t.size := Nat.min_eq_left hle
  have htk : List.take t.size (List.map (fun b : UInt8 => Value.int IntKind.u8 (b.toNat : Int)) t.data.toList) = (bs t).map (fun b : Nat => Value.int .u8 (b : Int)) := by
    rw [List.take_of_length_le (by rw [List.length_map, Array.length_toList]; exact Nat.le_refl _)]
    unfold bs
    rw [List.map_map]
    rfl
  obtain ⟨i0, hi, hz0, hz1, hz2⟩ := info_parts infoByte
  simp [Builtin.copy_, run_underlying (P := Tryz.prog) Tryz.underlying56, Builtin.lenOf, Builtin.firstCells, sizeOf, typeInfo, hi, hmin]
  rw [htk, e1]
  simp [Result.andThen]

set_option maxRecDepth 100000 in
set_option maxHeartbeats 800000 in
theorem putHigh_calls (g o len cap n : Nat) (l : List Nat) (w : World) (h : ZRow w g l) (ho : o + 1 < l.length) (hlen : 2 ≤ len) (hn : n < 65536) :
    Calls Tryz.prog 212 #[.slice (some ⟨g, o, none⟩) len cap, .int .i64 n] w fun e w' => e = .returned (.tuple #[]) ∧ ZRow w' g ((l.set o (n / 256)).set (o + 1) (n % 256)) ∧ w.grownBy w' (some g) := by
  have c0 := h.cell o (by omega)
  have f0 := h.frozen o
  have c1 := h.cell (o + 1) ho
  have f1 := h.frozen (o + 1)
  have t1 : (0 : Int) < (len : Int) := by omega
  have t2 : (1 : Int) < (len : Int) := by omega
  have H1 := hide h
  clear h
  go_enter Tryz.func212, Tryz.ntmps212
  go_wp2
  go_end0
  exact ⟨rfl, (H1.out.set o (n / 256)).set (o + 1) (n % 256), grown_trans (BRow.grownBy_set g o _) (BRow.grownBy_set g (o + 1) _)⟩

/-- The first k of a sum's bytes, and noughts. -/
def lowTo (n k : Nat) : List Nat := (low4 n).take k ++ List.replicate (4 - k) 0
theorem lowTo_step (n k : Nat) (h : k < 4) : (lowTo n k).set k (n / 256 ^ k % 256) = lowTo n (k + 1) := by
  have : k = 0 ∨ k = 1 ∨ k = 2 ∨ k = 3 := by omega
  rcases this with rfl | rfl | rfl | rfl <;> simp [lowTo, low4]
theorem lowTo_length (n k : Nat) (h : k ≤ 4) : (lowTo n k).length = 4 := by
  unfold lowTo
  rw [List.length_append, List.length_take, List.length_replicate, low4_length]
  omega

set_option maxRecDepth 100000 in
set_option maxHeartbeats 800000 in
theorem sumBytes_calls (s : ByteArray) (w : World) (hs : s.size ≤ 400) :
    Calls Tryz.prog 213 #[.string s] w fun e w' => e = .returned (.string (ofN (low4 (Crc.on 0 (bs s))))) ∧ Below w.heap.size w w' := by
  have e : onR 0 s = (((Crc.on 0 (bs s) : Nat) : Int), true) := if_pos ⟨by decide, hs⟩
  have hlt : Crc.on 0 (bs s) < 4294967296 := Crc.on_lt (by decide) (bs_lt s)
  generalize Crc.on 0 (bs s) = n at hlt e ⊢
  have E0 := hide e
  clear e
  go_enter Tryz.func213, Tryz.ntmps213
  go_wp2_with fail
  refine (sumOf_calls s _ (by unfold maxLen; omega)).mono ?_
  rintro e' w1 ⟨rfl, b1⟩
  rw [E0.out]
  have hw1 : w.heap.size ≤ w1.heap.size := b1.size
  have B1 := hide b1
  clear b1
  go_wp2_with (at_make; refine wpList_make_bytes rfl _ _ rfl w1.heap.size _ _ 4 rfl rfl (by omega) (by omega) (by omega) (Nat.le_refl _) ?_)
  intro w2 hown hgrow
  have Z2 := hide (zrow_made hown)
  have B2 := hide (B1.out.trans ((grown_none hgrow).mono B1.out.size))
  clear hown hgrow B1
  go_wp2
  go_loopw [3, 15] (fun vx vk wr => ∃ (k x : Nat), vx = .int .i64 x ∧ vk = .int .i64 k ∧ k ≤ 4 ∧ x = n / 256 ^ k ∧ ZRow wr w1.heap.size (lowTo n k) ∧ Below w.heap.size w wr) (fun _ vk _ => 4 - (intOf vk).toNat)
  case atStart => exact ⟨0, n, rfl, rfl, by omega, by simp, Z2.out, B2.out⟩
  case round =>
    obtain ⟨k, x, rfl, rfl, hk, hx, hz, hb⟩ := hrel
    have hxl : x < 4294967296 := by rw [hx]; exact Nat.lt_of_le_of_lt (Nat.div_le_self _ _) hlt
    have HX := hide hx
    have HB := hide hb
    have HZ := hide hz
    clear hx hb
    by_cases h4 : k < 4
    · have c0 := hz.cell k (by rw [lowTo_length n k hk]; exact h4)
      have f0 := hz.frozen k
      have h4' : (k : Int) < 4 := by omega
      clear hz
      go_wp2
      go_roundw
      case rel =>
        refine ⟨k + 1, x / 256, int_eq (by omega), int_eq (by omega), by omega, ?_, ?_, ?_⟩
        · rw [HX.out, Nat.div_div_eq_div_mul, ← Nat.pow_succ]
        · rw [← lowTo_step n k h4, ← HX.out]
          exact HZ.out.set k (x % 256)
        · exact HB.out.setCell hw1 _
      case measure => simp [intOf]; omega
    · obtain rfl : k = 4 := by omega
      have hcv := hz.conv (n := 4) (cap := 4) (low4_small _) (by rw [lowTo_length n 4 hk]; exact Nat.le_refl _)
      clear hz
      have et : List.take 4 (lowTo n 4) = low4 n := by simp [lowTo, low4]
      rw [et] at hcv
      go_wp2
      go_ret
      exact ⟨rfl, HB.out⟩
end Go.Proofs.YtbgadbokejaomaaGreatDoor

namespace Go.Proofs.YtbgadbokejaomaaGreatDoor
open Go.RowKit

theorem box_cell0 {w w1 : World} {cs : Array Value} {T : TypeId} (h : Below (w.alloc (.cells cs T)).heap.size (w.alloc (.cells cs T)) w1) (i : Nat) : w1.cell? ⟨w.heap.size, i, none⟩ = cs[i]? := by
  rw [h.cell (p := ⟨w.heap.size, i, none⟩) (by simp), cell_of_row _ w.heap.size i cs T (0, 0) (heap_alloc_new w _)]
theorem below_grown {w w' w'' : World} {B g : Nat} (h : Below B w w') (hB : B ≤ w'.heap.size) (k : w'.grownBy w'' (some g)) (hg : B ≤ g) : Below B w w'' :=
  h.grown k hB (fun j hj => by cases hj; exact hg)
theorem row4 (k a e n : Nat) : ((((((List.replicate 28 0).set 0 k).set 1 (a / 256)).set 2 (a % 256)).set 3 (e / 256)).set 4 (e % 256)).set 5 n = [k, a / 256, a % 256, e / 256, e % 256, n] ++ List.replicate 22 0 := rfl
theorem row5 (k a e : Nat) (b : List Nat) (h : b.length ≤ 16) :
    ([k, a / 256, a % 256, e / 256, e % 256, b.length] ++ List.replicate 22 0).take 6 ++ b ++ ([k, a / 256, a % 256, e / 256, e % 256, b.length] ++ List.replicate 22 0).drop (6 + b.length) = headB k a e b ++ List.replicate 4 0 := by
  have e1 : ([k, a / 256, a % 256, e / 256, e % 256, b.length] ++ List.replicate 22 0).take 6 = [k, a / 256, a % 256, e / 256, e % 256, b.length] := rfl
  have e2 : ([k, a / 256, a % 256, e / 256, e % 256, b.length] ++ List.replicate 22 0).drop (6 + b.length) = List.replicate (22 - b.length) 0 := by
    rw [← List.drop_drop]
    show (List.replicate 22 0).drop b.length = _
    rw [List.drop_replicate]
  rw [e1, e2]
  unfold headB
  rw [List.append_assoc, List.append_assoc, List.append_assoc, List.replicate_append_replicate]
  congr 4
  omega
theorem row6 (k a e : Nat) (b : List Nat) (h : b.length ≤ 16) :
    (headB k a e b ++ List.replicate 4 0).take 24 = headB k a e b ∧ (headB k a e b ++ List.replicate 4 0).take 24 ++ low4 (Crc.on 0 (headB k a e b)) ++ (headB k a e b ++ List.replicate 4 0).drop 28 = frB k a e b := by
  have hl := headB_length (K := k) (A := a) (E := e) h
  have e1 : (headB k a e b ++ List.replicate 4 0).take 24 = headB k a e b := by rw [← hl, List.take_left]
  refine ⟨e1, ?_⟩
  have e2 : (headB k a e b ++ List.replicate 4 0).drop 28 = [] := by
    apply List.drop_of_length_le
    rw [List.length_append, hl, List.length_replicate]
    omega
  rw [e1, e2, List.append_nil]
  rfl

set_option maxRecDepth 100000 in
set_option maxHeartbeats 1600000 in
theorem frameBytes_calls (K A E : Int) (b : ByteArray) (w : World) (hb : b.size ≤ maxLen) :
    Calls Tryz.prog 179 #[.agg #[.int .i64 K, .int .i64 A, .int .i64 E, .string b]] w fun e w' => e = .returned (.tuple #[.string (frR K A E b).1, .bool (frR K A E b).2]) ∧ Below w.heap.size w w' := by
  have B0 := hide (below_box w (.cells #[.int .i64 K, .int .i64 A, .int .i64 E, .string b] 160))
  by_cases hg : goodF K A E b.size
  case neg =>
    have e1 : frR K A E b = (⟨#[]⟩, false) := if_neg hg
    have e2 : goodD K A E b.size = false := goodD_no hg
    rw [e1]
    have E2 := hide e2
    clear e1 e2
    go_enter Tryz.func179, Tryz.ntmps179
    go_wp2_with fail
    refine (goodFrame_calls K A E b _ hb).mono ?_
    rintro e w1 ⟨rfl, h1⟩
    rw [E2.out]
    have S1 := hide h1
    clear h1
    go_wp2
    go_ret2
    exact ⟨rfl, B0.out.trans (S1.out.mono (by simp))⟩
  have e1 : frR K A E b = (ofN (frB K.toNat A.toNat E.toNat (bs b)), true) := if_pos hg
  have e2 : goodD K A E b.size = true := goodD_yes hg
  rw [e1]
  have E2 := hide e2
  clear e1 e2
  obtain ⟨⟨⟨k0, k1⟩, a0, a1⟩, ⟨f0, f1⟩, hn⟩ := hg
  obtain ⟨k, rfl⟩ := Int.eq_ofNat_of_zero_le (show 0 ≤ K by omega)
  obtain ⟨a, rfl⟩ := Int.eq_ofNat_of_zero_le a0
  obtain ⟨e, rfl⟩ := Int.eq_ofNat_of_zero_le f0
  simp only [Int.toNat_natCast]
  have hl : (bs b).length ≤ 16 := by rw [bs_length]; exact hn
  have hsmall := frB_small (K := k) (A := a) (E := e) (by omega) (by omega) (by omega) hl (bs_lt b)
  have hhead := headB_small (K := k) (A := a) (E := e) (by omega) (by omega) (by omega) hl (bs_lt b)
  have HS := hide hsmall
  have HH := hide hhead
  have HL := hide hl
  clear hsmall hhead hl
  go_enter Tryz.func179, Tryz.ntmps179
  go_wp2_with fail
  refine (goodFrame_calls k a e b _ hb).mono ?_
  rintro e' w1 ⟨rfl, h1⟩
  rw [E2.out]
  have hw1 : w.heap.size + 1 ≤ w1.heap.size := by have := h1.size; simpa using this
  have S1 := hide h1
  clear h1
  go_wp2_with (at_make; refine wpList_make_bytes rfl _ _ rfl w1.heap.size _ _ 28 rfl rfl (by omega) (by omega) (by omega) (Nat.le_refl _) ?_)
  intro w2 hown hgrow
  have Z2 := hide (zrow_made hown)
  have S2 := hide (S1.out.trans ((grown_none hgrow).mono S1.out.size))
  clear hown hgrow S1
  have c0 := box_cell0 S2.out 0
  have z0 := Z2.out.cell 0 (by simp)
  have y0 := Z2.out.frozen 0
  have Z3 := hide (Z2.out.set 0 k)
  have S3 := hide (S2.out.setCell (p := ⟨w1.heap.size, 0, none⟩) (by simpa using hw1) (.int .u8 (k : Int)))
  simp only [List.getElem?_toArray, List.getElem?_cons_zero] at c0
  go_wp2
  generalize w2.setCell ⟨w1.heap.size, 0, none⟩ (.int .u8 (k : Int)) = w3 at Z3 S3 ⊢
  clear c0 z0 y0 Z2 S2
  have c1 := box_cell0 S3.out 1
  simp only [List.getElem?_toArray, List.getElem?_cons_zero, List.getElem?_cons_succ] at c1
  go_region_with (go_at_call 212; refine (putHigh_calls w1.heap.size 1 27 27 a _ w3.drew (by exact Z3.out.drew) (by simp) (by omega) (by omega)).mono ?_; rintro e' w4 ⟨rfl, z4, g4⟩)
  have Z4 := hide z4
  have S4 := hide (below_grown S3.out.drew (by simpa using S3.out.size) g4 (by simpa using hw1))
  clear z4 g4 Z3 S3 c1
  have c2 := box_cell0 S4.out 2
  simp only [List.getElem?_toArray, List.getElem?_cons_zero, List.getElem?_cons_succ] at c2
  go_wp2
  go_region_with (go_at_call 212; refine (putHigh_calls w1.heap.size 3 25 25 e _ w4.drew (by exact Z4.out.drew) (by simp) (by omega) (by omega)).mono ?_; rintro e' w5 ⟨rfl, z5, g5⟩)
  have Z5 := hide z5
  have S5 := hide (below_grown S4.out.drew (by simpa using S4.out.size) g5 (by simpa using hw1))
  clear z5 g5 Z4 S4 c2
  have c3 := box_cell0 S5.out 3
  simp only [List.getElem?_toArray, List.getElem?_cons_zero, List.getElem?_cons_succ] at c3
  have z5 := Z5.out.cell 5 (by simp)
  have y5 := Z5.out.frozen 5
  have Z6 := hide (Z5.out.set 5 b.size)
  have S6 := hide (S5.out.setCell (p := ⟨w1.heap.size, 5, none⟩) (by simpa using hw1) (.int .u8 ((b.size : Nat) : Int)))
  go_wp2
  generalize w5.setCell ⟨w1.heap.size, 5, none⟩ (.int .u8 ((b.size : Nat) : Int)) = w6 at Z6 S6 ⊢
  clear c3 z5 y5 Z5 S5
  have c3 := box_cell0 S6.out 3
  simp only [List.getElem?_toArray, List.getElem?_cons_zero, List.getElem?_cons_succ] at c3
  have z6 := Z6.out
  rw [row4, ← bs_length b] at z6
  obtain ⟨w7, q1, q2, q3⟩ := copy_z (o := 6) (dLen := 22) (dCap := 22) b z6.drew (by omega) (by simp; omega)
  rw [← bs_length b, row5 _ _ _ _ HL.out] at q2
  have Z7 := hide q2
  have S7 := hide (below_grown S6.out.drew (by simpa using S6.out.size) q3 (by simpa using hw1))
  clear z6 q2 q3 Z6 S6
  go_region
  obtain ⟨x1, x2⟩ := row6 k a e (bs b) HL.out
  have hcv := (Z7.out.drew).conv (n := 24) (cap := 28) (fun y hy => by
    rw [List.mem_append] at hy
    rcases hy with hy | hy
    · exact HH.out y hy
    · have := (List.mem_replicate.1 hy).2; omega) (by rw [List.length_append, headB_length HL.out]; omega)
  rw [x1] at hcv
  rw [x1] at x2
  have hsz : (ofN (headB k a e (bs b))).size ≤ 400 := by rw [ofN_size, headB_length HL.out]; omega
  have CP : Hid (∀ w8, Below w7.drew.heap.size w7.drew w8 → ∃ w9, (Builtin.copy_ #[56, 9] 3 #[.slice (some ⟨w1.heap.size, 24, none⟩) 4 4, .string (ofN (low4 (Crc.on 0 (headB k a e (bs b)))))]).run Tryz.prog w8 = .ok (goInt (ofN (low4 (Crc.on 0 (headB k a e (bs b))))).size) w9 ∧ ZRow w9 w1.heap.size (frB k a e (bs b)) ∧ Below (w.alloc (.cells #[.int .i64 k, .int .i64 a, .int .i64 e, .string b] 160)).heap.size (w.alloc (.cells #[.int .i64 k, .int .i64 a, .int .i64 e, .string b] 160)) w9) := by
    show ∀ w8, _
    intro w8 b8
    have hz8 : ZRow w8 w1.heap.size (headB k a e (bs b) ++ List.replicate 4 0) := Z7.out.drew.kept b8
    obtain ⟨w9, r1, r2, r3⟩ := copy_z (o := 24) (dLen := 4) (dCap := 4) (ofN (low4 (Crc.on 0 (headB k a e (bs b))))) hz8 (by rw [ofN_size]; exact Nat.le_refl _) (by rw [ofN_size, List.length_append, headB_length HL.out]; simp [low4])
    refine ⟨w9, r1, ?_, ?_⟩
    · rw [bs_ofN (low4_small _), ofN_size, x1] at r2
      rw [← x2]
      exact r2
    · exact below_grown (S7.out.drew.trans (b8.mono (by simpa using S7.out.size))) (Nat.le_trans S7.out.size b8.size) r3 (by simpa using hw1)
  have X2 := hide x2
  clear x1 x2 c3
  go_wp2
  go_region_with (go_at_call 213; refine (sumBytes_calls (ofN (headB k a e (bs b))) w7.drew hsz).mono ?_; rintro e' w8 ⟨rfl, b8⟩; rw [bs_ofN HH.out]; obtain ⟨w9, r1, r2, r3⟩ := CP.out w8 b8)
  have S9 := hide r3
  have hc9 := r2.conv (n := 28) (cap := 28) HS.out (by rw [frB_length HL.out]; exact Nat.le_refl _)
  rw [List.take_of_length_le (by rw [frB_length HL.out]; exact Nat.le_refl _)] at hc9
  clear r1 r2 r3
  go_wp2
  go_ret2
  exact ⟨rfl, B0.out.trans (S9.out.mono (by simp))⟩
end Go.Proofs.YtbgadbokejaomaaGreatDoor

namespace Go.Proofs.YtbgadbokejaomaaGreatDoor
open Go.RowKit

/-- So many bytes of a number, the highest first. -/
def hiB (n : Nat) : Nat → List Nat
  | 0 => []
  | m + 1 => hiB (n / 256) m ++ [n % 256]
theorem hiB_small (m : Nat) : ∀ n, ∀ b ∈ hiB n m, b < 256 := by
  induction m with
  | zero => intro n b hb; simp [hiB] at hb
  | succ m ih =>
    intro n b hb
    rw [hiB, List.mem_append] at hb
    rcases hb with hb | hb
    · exact ih _ b hb
    · simp at hb; omega
theorem hiB_length (m : Nat) : ∀ n, (hiB n m).length = m := by
  induction m with
  | zero => intro n; rfl
  | succ m ih => intro n; rw [hiB, List.length_append, ih]; rfl
theorem rep_set (j v : Nat) (T : List Nat) : (List.replicate (j + 1) 0 ++ T).set j v = List.replicate j 0 ++ (v :: T) := by
  induction j with
  | zero => rfl
  | succ j ih => rw [List.replicate_succ, List.cons_append, List.set_cons_succ, ih, List.replicate_succ, List.cons_append]

set_option maxRecDepth 100000 in
set_option maxHeartbeats 800000 in
theorem l6Bytes_calls (n m : Nat) (w : World) (hn : n < 4294967296) (hm : m ≤ 16) :
    Calls Tryz.prog 137 #[.int .i64 n, .int .i64 m] w fun e w' => e = .returned (.string (ofN (hiB n m))) ∧ Below w.heap.size w w' := by
  obtain ⟨T0, hT⟩ : ∃ T, T = hiB n m := ⟨_, rfl⟩
  have hTs : ∀ b ∈ T0, b < 256 := by rw [hT]; exact hiB_small m n
  have hTl : T0.length = m := by rw [hT]; exact hiB_length m n
  rw [← hT]
  have HT := hide hT
  have HS := hide hTs
  have HL := hide hTl
  clear hT hTs hTl
  go_enter Tryz.func137, Tryz.ntmps137
  go_wp2_with (at_make; refine wpList_make_bytes rfl _ _ rfl w.heap.size _ _ m rfl rfl (by omega) (by omega) (by omega) (Nat.le_refl _) ?_)
  intro w2 hown hgrow
  have Z2 := hide (zrow_made hown)
  have B2 := hide (grown_none hgrow)
  clear hown hgrow
  go_wp2
  go_loopw [0, 6] (fun vx vk wr => ∃ (j x : Nat) (T : List Nat), vx = .int .i64 x ∧ vk = .int .i64 ((j : Int) - 1) ∧ j ≤ m ∧ x < 4294967296 ∧ ZRow wr w.heap.size (List.replicate j 0 ++ T) ∧ T0 = hiB x j ++ T ∧ Below w.heap.size w wr) (fun _ vk _ => (intOf vk + 1).toNat)
  case atStart => exact ⟨m, n, [], rfl, rfl, by omega, hn, by rw [List.append_nil]; exact Z2.out, by rw [List.append_nil]; exact HT.out, B2.out⟩
  case round =>
    obtain ⟨j, x, T, rfl, rfl, hj, hx, hz, ht, hb⟩ := hrel
    have TT := hide ht
    have HB := hide hb
    have HZ := hide hz
    clear ht hb
    by_cases h0 : 0 < j
    · obtain ⟨i, rfl⟩ : ∃ i, j = i + 1 := ⟨j - 1, by omega⟩
      have c0 := hz.cell i (by rw [List.length_append, List.length_replicate]; omega)
      have f0 := hz.frozen i
      have ei : (((i + 1 : Nat) : Int) - 1) = (i : Int) := by omega
      have i2 : (i : Int) < (m : Int) := by omega
      clear hz
      rw [ei]
      clear ei
      go_wp2
      go_roundw
      case rel =>
        refine ⟨i, x / 256, x % 256 :: T, int_eq (by omega), int_eq (by omega), by omega, by omega, ?_, ?_, HB.out.setCell (Nat.le_refl _) _⟩
        · rw [← rep_set]
          exact HZ.out.set i (x % 256)
        · rw [TT.out, hiB, List.append_assoc]
          rfl
      case measure => simp [intOf]
    · obtain rfl : j = 0 := by omega
      have e0 : T0 = T := TT.out
      have hcv := hz.conv (n := m) (cap := m) (by rw [List.replicate_zero, List.nil_append, ← e0]; exact HS.out) (by rw [List.replicate_zero, List.nil_append, ← e0, HL.out]; exact Nat.le_refl _)
      rw [List.replicate_zero, List.nil_append, ← e0, List.take_of_length_le (by rw [HL.out]; exact Nat.le_refl _)] at hcv
      clear hz e0
      go_wp2
      go_ret
      exact ⟨rfl, HB.out⟩

theorem shr_byte (n k : Nat) : (n : Int) / 2 ^ (8 * k) = ((n / 256 ^ k : Nat) : Int) := by
  rw [Int.natCast_ediv, Int.natCast_pow, show (((256 : Nat) : Int)) = 2 ^ 8 by decide, ← Int.pow_mul]
theorem low4_take (n k : Nat) (h : k < 4) : (low4 n).take (k + 1) = (low4 n).take k ++ [n / 256 ^ k % 256] := by
  have : k = 0 ∨ k = 1 ∨ k = 2 ∨ k = 3 := by omega
  rcases this with rfl | rfl | rfl | rfl <;> simp [low4]
theorem ofN_append (l m : List Nat) : ofN l ++ ofN m = ofN (l ++ m) := by
  unfold ofN
  rw [ByteArray.mk_append_mk, List.map_append]

set_option maxRecDepth 100000 in
set_option maxHeartbeats 800000 in
theorem l6Low_calls (n : Nat) (w : World) (hn : n < 4294967296) :
    Calls Tryz.prog 172 #[.int .i64 n] w fun e w' => e = .returned (.string (ofN (low4 n))) ∧ Below w.heap.size w w' := by
  go_enter Tryz.func172, Tryz.ntmps172
  go_wp2
  go_loopw [3, 4] (fun vs vk wr => ∃ k : Nat, vk = .int .i64 k ∧ vs = .string (ofN ((low4 n).take k)) ∧ k ≤ 4 ∧ Below w.heap.size w wr) (fun _ vk _ => 4 - (intOf vk).toNat)
  case atStart => exact ⟨0, rfl, rfl, by omega, Below.refl _ _⟩
  case round =>
    obtain ⟨k, rfl, rfl, hk, hb⟩ := hrel
    have HB := hide hb
    clear hb
    by_cases h4 : k < 4
    · have h4' : (k : Int) < 4 := by omega
      go_wp2_with fail
      rw [shr_byte n k]
      refine (l6Bytes_calls (n / 256 ^ k) 1 _ (Nat.lt_of_le_of_lt (Nat.div_le_self _ _) hn) (by omega)).mono ?_
      rintro e w' ⟨rfl, b1⟩
      have HB2 := hide (HB.out.trans (b1.mono HB.out.size))
      clear b1
      have hadd := run_string_add_sum (P := Tryz.prog) (w := w') (ofN ((low4 n).take k)) (ofN (hiB (n / 256 ^ k) 1)) (by rw [ofN_size, ofN_size, hiB_length, List.length_take, low4_length]; omega)
      go_wp2
      refine ⟨⟨k + 1, int_eq (by omega), ?_, by omega, HB2.out⟩, by simp [intOf]; omega⟩
      rw [ofN_append, low4_take n k h4]
      rfl
    · obtain rfl : k = 4 := by omega
      go_wp2
      go_ret
      exact ⟨rfl, HB.out⟩

end Go.Proofs.YtbgadbokejaomaaGreatDoor

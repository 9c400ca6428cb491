/-
  A frame's bytes: the program's function, call by call. No condition but a bound on the body's length. Bytes of a number, a number of bytes, a frame's bytes: the model's functions, call by call. Each contract says what it asks. Slices of texts: what is read, what is owned, and what the laws' own small functions do with them (copy, compare, measure, mark, look whether the marks are held), call by call. Each contract says what it asks.
-/
import Derived.Test.YtbgadbokejaomaaHealthOfB2
import Derived.Laws.AppendOwnNone
import Derived.Deep.RegionHeld3
namespace Go.Proofs.Ytbgadbokejaomaa
open Go.RowKit

theorem box_cell0 {w w1 : World} {cs : Array Value} {T : TypeId} (h : Below (w.alloc (.cells cs T)).heap.size (w.alloc (.cells cs T)) w1) (i : Nat) : w1.cell? ⟨w.heap.size, i, none⟩ = cs[i]? := by
  rw [h.cell (p := ⟨w.heap.size, i, none⟩) (by simp), cell_of_row _ w.heap.size i cs T (0, 0) (heap_alloc_new w _)]
theorem below_grown {w w' w'' : World} {B g : Nat} (h : Below B w w') (hB : B ≤ w'.heap.size) (k : w'.grownBy w'' (some g)) (hg : B ≤ g) : Below B w w'' :=
  h.grown k hB (fun j hj => by cases hj; exact hg)
theorem row4 (k a e n : Nat) : ((((((List.replicate 28 0).set 0 k).set 1 (a / 256)).set 2 (a % 256)).set 3 (e / 256)).set 4 (e % 256)).set 5 n = [k, a / 256, a % 256, e / 256, e % 256, n] ++ List.replicate 22 0 := rfl
theorem row5 (k a e : Nat) (b : List Nat) (h : b.length ≤ 16) :
    ([k, a / 256, a % 256, e / 256, e % 256, b.length] ++ List.replicate 22 0).take 6 ++ b ++ ([k, a / 256, a % 256, e / 256, e % 256, b.length] ++ List.replicate 22 0).drop (6 + b.length) = headB k a e b ++ List.replicate 4 0 := by
  have e1 : ([k, a / 256, a % 256, e / 256, e % 256, b.length] ++ List.replicate 22 0).take 6 = [k, a / 256, a % 256, e / 256, e % 256, b.length] := rfl
  have e2 : ([k, a / 256, a % 256, e / 256, e % 256, b.length] ++ List.replicate 22 0).drop (6 + b.length) = List.replicate (22 - b.length) 0 := by
    rw [← List.drop_drop]
    show (List.replicate 22 0).drop b.length = _
    rw [List.drop_replicate]
  rw [e1, e2]
  unfold headB
  rw [List.append_assoc, List.append_assoc, List.append_assoc, List.replicate_append_replicate]
  congr 4
  omega
theorem row6 (k a e : Nat) (b : List Nat) (h : b.length ≤ 16) :
    (headB k a e b ++ List.replicate 4 0).take 24 = headB k a e b ∧ (headB k a e b ++ List.replicate 4 0).take 24 ++ low4 (Crc.on 0 (headB k a e b)) ++ (headB k a e b ++ List.replicate 4 0).drop 28 = frB k a e b := by
  have hl := headB_length (K := k) (A := a) (E := e) h
  have e1 : (headB k a e b ++ List.replicate 4 0).take 24 = headB k a e b := by rw [← hl, List.take_left]
  refine ⟨e1, ?_⟩
  have e2 : (headB k a e b ++ List.replicate 4 0).drop 28 = [] := by
    apply List.drop_of_length_le
    rw [List.length_append, hl, List.length_replicate]
    omega
  rw [e1, e2, List.append_nil]
  rfl

set_option maxRecDepth 100000 in
set_option maxHeartbeats 1600000 in
theorem frameBytes_calls (K A E : Int) (b : ByteArray) (w : World) (hb : b.size ≤ maxLen) :
    Calls Try.prog 66 #[.agg #[.int .i64 K, .int .i64 A, .int .i64 E, .string b]] w fun e w' => e = .returned (.tuple #[.string (frR K A E b).1, .bool (frR K A E b).2]) ∧ Below w.heap.size w w' := by
  have B0 := hide (below_box w (.cells #[.int .i64 K, .int .i64 A, .int .i64 E, .string b] 62))
  by_cases hg : goodF K A E b.size
  case neg =>
    have e1 : frR K A E b = (⟨#[]⟩, false) := if_neg hg
    have e2 : goodD K A E b.size = false := goodD_no hg
    rw [e1]
    have E2 := hide e2
    clear e1 e2
    go_enter Try.func66, Try.ntmps66
    go_wp2_with fail
    refine (goodFrame_calls K A E b _ hb).mono ?_
    rintro e w1 ⟨rfl, h1⟩
    rw [E2.out]
    have S1 := hide h1
    clear h1
    go_wp2
    go_ret2
    exact ⟨rfl, B0.out.trans (S1.out.mono (by simp))⟩
  have e1 : frR K A E b = (ofN (frB K.toNat A.toNat E.toNat (bs b)), true) := if_pos hg
  have e2 : goodD K A E b.size = true := goodD_yes hg
  rw [e1]
  have E2 := hide e2
  clear e1 e2
  obtain ⟨⟨⟨k0, k1⟩, a0, a1⟩, ⟨f0, f1⟩, hn⟩ := hg
  obtain ⟨k, rfl⟩ := Int.eq_ofNat_of_zero_le (show 0 ≤ K by omega)
  obtain ⟨a, rfl⟩ := Int.eq_ofNat_of_zero_le a0
  obtain ⟨e, rfl⟩ := Int.eq_ofNat_of_zero_le f0
  simp only [Int.toNat_natCast]
  have hl : (bs b).length ≤ 16 := by rw [bs_length]; exact hn
  have hsmall := frB_small (K := k) (A := a) (E := e) (by omega) (by omega) (by omega) hl (bs_lt b)
  have hhead := headB_small (K := k) (A := a) (E := e) (by omega) (by omega) (by omega) hl (bs_lt b)
  have HS := hide hsmall
  have HH := hide hhead
  have HL := hide hl
  clear hsmall hhead hl
  go_enter Try.func66, Try.ntmps66
  go_wp2_with fail
  refine (goodFrame_calls k a e b _ hb).mono ?_
  rintro e' w1 ⟨rfl, h1⟩
  rw [E2.out]
  have hw1 : w.heap.size + 1 ≤ w1.heap.size := by have := h1.size; simpa using this
  have S1 := hide h1
  clear h1
  go_wp2_with (at_make; refine wpList_make_bytes rfl _ _ rfl w1.heap.size _ _ 28 rfl rfl (by omega) (by omega) (by omega) (Nat.le_refl _) ?_)
  intro w2 hown hgrow
  have Z2 := hide (zrow_made hown)
  have S2 := hide (S1.out.trans ((grown_none hgrow).mono S1.out.size))
  clear hown hgrow S1
  have c0 := box_cell0 S2.out 0
  have z0 := Z2.out.cell 0 (by simp)
  have y0 := Z2.out.frozen 0
  have Z3 := hide (Z2.out.set 0 k)
  have S3 := hide (S2.out.setCell (p := ⟨w1.heap.size, 0, none⟩) (by simpa using hw1) (.int .u8 (k : Int)))
  simp only [List.getElem?_toArray, List.getElem?_cons_zero] at c0
  go_wp2
  generalize w2.setCell ⟨w1.heap.size, 0, none⟩ (.int .u8 (k : Int)) = w3 at Z3 S3 ⊢
  clear c0 z0 y0 Z2 S2
  have c1 := box_cell0 S3.out 1
  simp only [List.getElem?_toArray, List.getElem?_cons_zero, List.getElem?_cons_succ] at c1
  go_region_with (go_at_call 69; refine (putHigh_calls w1.heap.size 1 27 27 a _ w3.drew (by exact Z3.out.drew) (by simp) (by omega) (by omega)).mono ?_; rintro e' w4 ⟨rfl, z4, g4⟩)
  have Z4 := hide z4
  have S4 := hide (below_grown S3.out.drew (by simpa using S3.out.size) g4 (by simpa using hw1))
  clear z4 g4 Z3 S3 c1
  have c2 := box_cell0 S4.out 2
  simp only [List.getElem?_toArray, List.getElem?_cons_zero, List.getElem?_cons_succ] at c2
  go_wp2
  go_region_with (go_at_call 69; refine (putHigh_calls w1.heap.size 3 25 25 e _ w4.drew (by exact Z4.out.drew) (by simp) (by omega) (by omega)).mono ?_; rintro e' w5 ⟨rfl, z5, g5⟩)
  have Z5 := hide z5
  have S5 := hide (below_grown S4.out.drew (by simpa using S4.out.size) g5 (by simpa using hw1))
  clear z5 g5 Z4 S4 c2
  have c3 := box_cell0 S5.out 3
  simp only [List.getElem?_toArray, List.getElem?_cons_zero, List.getElem?_cons_succ] at c3
  have z5 := Z5.out.cell 5 (by simp)
  have y5 := Z5.out.frozen 5
  have Z6 := hide (Z5.out.set 5 b.size)
  have S6 := hide (S5.out.setCell (p := ⟨w1.heap.size, 5, none⟩) (by simpa using hw1) (.int .u8 ((b.size : Nat) : Int)))
  go_wp2
  generalize w5.setCell ⟨w1.heap.size, 5, none⟩ (.int .u8 ((b.size : Nat) : Int)) = w6 at Z6 S6 ⊢
  clear c3 z5 y5 Z5 S5
  have c3 := box_cell0 S6.out 3
  simp only [List.getElem?_toArray, List.getElem?_cons_zero, List.getElem?_cons_succ] at c3
  have z6 := Z6.out
  rw [row4, ← bs_length b] at z6
  obtain ⟨w7, q1, q2, q3⟩ := copy_z (o := 6) (dLen := 22) (dCap := 22) b z6.drew (by omega) (by simp; omega)
  rw [← bs_length b, row5 _ _ _ _ HL.out] at q2
  have Z7 := hide q2
  have S7 := hide (below_grown S6.out.drew (by simpa using S6.out.size) q3 (by simpa using hw1))
  clear z6 q2 q3 Z6 S6
  go_region
  obtain ⟨x1, x2⟩ := row6 k a e (bs b) HL.out
  have hcv := (Z7.out.drew).conv (n := 24) (cap := 28) (fun y hy => by
    rw [List.mem_append] at hy
    rcases hy with hy | hy
    · exact HH.out y hy
    · have := (List.mem_replicate.1 hy).2; omega) (by rw [List.length_append, headB_length HL.out]; omega)
  rw [x1] at hcv
  rw [x1] at x2
  have hsz : (ofN (headB k a e (bs b))).size ≤ 400 := by rw [ofN_size, headB_length HL.out]; omega
  have CP : Hid (∀ w8, Below w7.drew.heap.size w7.drew w8 → ∃ w9, (Builtin.copy_ #[83, 9] 3 #[.slice (some ⟨w1.heap.size, 24, none⟩) 4 4, .string (ofN (low4 (Crc.on 0 (headB k a e (bs b)))))]).run Try.prog w8 = .ok (goInt (ofN (low4 (Crc.on 0 (headB k a e (bs b))))).size) w9 ∧ ZRow w9 w1.heap.size (frB k a e (bs b)) ∧ Below (w.alloc (.cells #[.int .i64 k, .int .i64 a, .int .i64 e, .string b] 62)).heap.size (w.alloc (.cells #[.int .i64 k, .int .i64 a, .int .i64 e, .string b] 62)) w9) := by
    show ∀ w8, _
    intro w8 b8
    have hz8 : ZRow w8 w1.heap.size (headB k a e (bs b) ++ List.replicate 4 0) := Z7.out.drew.kept b8
    obtain ⟨w9, r1, r2, r3⟩ := copy_z (o := 24) (dLen := 4) (dCap := 4) (ofN (low4 (Crc.on 0 (headB k a e (bs b))))) hz8 (by rw [ofN_size]; exact Nat.le_refl _) (by rw [ofN_size, List.length_append, headB_length HL.out]; simp [low4])
    refine ⟨w9, r1, ?_, ?_⟩
    · rw [bs_ofN (low4_small _), ofN_size, x1] at r2
      rw [← x2]
      exact r2
    · exact below_grown (S7.out.drew.trans (b8.mono (by simpa using S7.out.size))) (Nat.le_trans S7.out.size b8.size) r3 (by simpa using hw1)
  have X2 := hide x2
  clear x1 x2 c3
  go_wp2
  go_region_with (go_at_call 61; refine (sumBytes_calls (ofN (headB k a e (bs b))) w7.drew hsz).mono ?_; rintro e' w8 ⟨rfl, b8⟩; rw [bs_ofN HH.out]; obtain ⟨w9, r1, r2, r3⟩ := CP.out w8 b8)
  have S9 := hide r3
  have hc9 := r2.conv (n := 28) (cap := 28) HS.out (by rw [frB_length HL.out]; exact Nat.le_refl _)
  rw [List.take_of_length_le (by rw [frB_length HL.out]; exact Nat.le_refl _)] at hc9
  clear r1 r2 r3
  go_wp2
  go_ret2
  exact ⟨rfl, B0.out.trans (S9.out.mono (by simp))⟩
end Go.Proofs.Ytbgadbokejaomaa

namespace Go.Proofs.Ytbgadbokejaomaa
open Go.RowKit

/-- So many bytes of a number, the highest first. -/
def hiB (n : Nat) : Nat → List Nat
  | 0 => []
  | m + 1 => hiB (n / 256) m ++ [n % 256]
theorem hiB_small (m : Nat) : ∀ n, ∀ b ∈ hiB n m, b < 256 := by
  induction m with
  | zero => intro n b hb; simp [hiB] at hb
  | succ m ih =>
    intro n b hb
    rw [hiB, List.mem_append] at hb
    rcases hb with hb | hb
    · exact ih _ b hb
    · simp at hb; omega
theorem hiB_length (m : Nat) : ∀ n, (hiB n m).length = m := by
  induction m with
  | zero => intro n; rfl
  | succ m ih => intro n; rw [hiB, List.length_append, ih]; rfl
theorem rep_set (j v : Nat) (T : List Nat) : (List.replicate (j + 1) 0 ++ T).set j v = List.replicate j 0 ++ (v :: T) := by
  induction j with
  | zero => rfl
  | succ j ih => rw [List.replicate_succ, List.cons_append, List.set_cons_succ, ih, List.replicate_succ, List.cons_append]

set_option maxRecDepth 100000 in
set_option maxHeartbeats 800000 in
theorem l6Bytes_calls (n m : Nat) (w : World) (hn : n < 4294967296) (hm : m ≤ 16) :
    Calls Try.prog 55 #[.int .i64 n, .int .i64 m] w fun e w' => e = .returned (.string (ofN (hiB n m))) ∧ Below w.heap.size w w' := by
  obtain ⟨T0, hT⟩ : ∃ T, T = hiB n m := ⟨_, rfl⟩
  have hTs : ∀ b ∈ T0, b < 256 := by rw [hT]; exact hiB_small m n
  have hTl : T0.length = m := by rw [hT]; exact hiB_length m n
  rw [← hT]
  have HT := hide hT
  have HS := hide hTs
  have HL := hide hTl
  clear hT hTs hTl
  go_enter Try.func55, Try.ntmps55
  go_wp2_with (at_make; refine wpList_make_bytes rfl _ _ rfl w.heap.size _ _ m rfl rfl (by omega) (by omega) (by omega) (Nat.le_refl _) ?_)
  intro w2 hown hgrow
  have Z2 := hide (zrow_made hown)
  have B2 := hide (grown_none hgrow)
  clear hown hgrow
  go_wp2
  go_loopw [0, 6] (fun vx vk wr => ∃ (j x : Nat) (T : List Nat), vx = .int .i64 x ∧ vk = .int .i64 ((j : Int) - 1) ∧ j ≤ m ∧ x < 4294967296 ∧ ZRow wr w.heap.size (List.replicate j 0 ++ T) ∧ T0 = hiB x j ++ T ∧ Below w.heap.size w wr) (fun _ vk _ => (intOf vk + 1).toNat)
  case atStart => exact ⟨m, n, [], rfl, rfl, by omega, hn, by rw [List.append_nil]; exact Z2.out, by rw [List.append_nil]; exact HT.out, B2.out⟩
  case round =>
    obtain ⟨j, x, T, rfl, rfl, hj, hx, hz, ht, hb⟩ := hrel
    have TT := hide ht
    have HB := hide hb
    have HZ := hide hz
    clear ht hb
    by_cases h0 : 0 < j
    · obtain ⟨i, rfl⟩ : ∃ i, j = i + 1 := ⟨j - 1, by omega⟩
      have c0 := hz.cell i (by rw [List.length_append, List.length_replicate]; omega)
      have f0 := hz.frozen i
      have ei : (((i + 1 : Nat) : Int) - 1) = (i : Int) := by omega
      have i2 : (i : Int) < (m : Int) := by omega
      clear hz
      rw [ei]
      clear ei
      go_wp2
      go_roundw
      case rel =>
        refine ⟨i, x / 256, x % 256 :: T, int_eq (by omega), int_eq (by omega), by omega, by omega, ?_, ?_, HB.out.setCell (Nat.le_refl _) _⟩
        · rw [← rep_set]
          exact HZ.out.set i (x % 256)
        · rw [TT.out, hiB, List.append_assoc]
          rfl
      case measure => simp [intOf]
    · obtain rfl : j = 0 := by omega
      have e0 : T0 = T := TT.out
      have hcv := hz.conv (n := m) (cap := m) (by rw [List.replicate_zero, List.nil_append, ← e0]; exact HS.out) (by rw [List.replicate_zero, List.nil_append, ← e0, HL.out]; exact Nat.le_refl _)
      rw [List.replicate_zero, List.nil_append, ← e0, List.take_of_length_le (by rw [HL.out]; exact Nat.le_refl _)] at hcv
      clear hz e0
      go_wp2
      go_ret
      exact ⟨rfl, HB.out⟩

theorem shr_byte (n k : Nat) : (n : Int) / 2 ^ (8 * k) = ((n / 256 ^ k : Nat) : Int) := by
  rw [Int.natCast_ediv, Int.natCast_pow, show (((256 : Nat) : Int)) = 2 ^ 8 by decide, ← Int.pow_mul]
theorem low4_take (n k : Nat) (h : k < 4) : (low4 n).take (k + 1) = (low4 n).take k ++ [n / 256 ^ k % 256] := by
  have : k = 0 ∨ k = 1 ∨ k = 2 ∨ k = 3 := by omega
  rcases this with rfl | rfl | rfl | rfl <;> simp [low4]
theorem ofN_append (l m : List Nat) : ofN l ++ ofN m = ofN (l ++ m) := by
  unfold ofN
  rw [ByteArray.mk_append_mk, List.map_append]

set_option maxRecDepth 100000 in
set_option maxHeartbeats 800000 in
theorem l6Low_calls (n : Nat) (w : World) (hn : n < 4294967296) :
    Calls Try.prog 44 #[.int .i64 n] w fun e w' => e = .returned (.string (ofN (low4 n))) ∧ Below w.heap.size w w' := by
  go_enter Try.func44, Try.ntmps44
  go_wp2
  go_loopw [3, 4] (fun vs vk wr => ∃ k : Nat, vk = .int .i64 k ∧ vs = .string (ofN ((low4 n).take k)) ∧ k ≤ 4 ∧ Below w.heap.size w wr) (fun _ vk _ => 4 - (intOf vk).toNat)
  case atStart => exact ⟨0, rfl, rfl, by omega, Below.refl _ _⟩
  case round =>
    obtain ⟨k, rfl, rfl, hk, hb⟩ := hrel
    have HB := hide hb
    clear hb
    by_cases h4 : k < 4
    · have h4' : (k : Int) < 4 := by omega
      go_wp2_with fail
      rw [shr_byte n k]
      refine (l6Bytes_calls (n / 256 ^ k) 1 _ (Nat.lt_of_le_of_lt (Nat.div_le_self _ _) hn) (by omega)).mono ?_
      rintro e w' ⟨rfl, b1⟩
      have HB2 := hide (HB.out.trans (b1.mono HB.out.size))
      clear b1
      have hadd := run_string_add_sum (P := Try.prog) (w := w') (ofN ((low4 n).take k)) (ofN (hiB (n / 256 ^ k) 1)) (by rw [ofN_size, ofN_size, hiB_length, List.length_take, low4_length]; omega)
      go_wp2
      refine ⟨⟨k + 1, int_eq (by omega), ?_, by omega, HB2.out⟩, by simp [intOf]; omega⟩
      rw [ofN_append, low4_take n k h4]
      rfl
    · obtain rfl : k = 4 := by omega
      go_wp2
      go_ret
      exact ⟨rfl, HB.out⟩

/-- The number of some bytes, the highest first. -/
def valB (l : List Nat) : Nat := l.foldl (fun n b => n * 256 + b) 0
theorem valB_snoc (l : List Nat) (b : Nat) : valB (l ++ [b]) = valB l * 256 + b := by simp [valB, List.foldl_append]
theorem valB_lt (l : List Nat) (h : ∀ b ∈ l, b < 256) (hl : l.length ≤ 2) : valB l < 65536 := by
  match l, hl with
  | [], _ => decide
  | [x], _ => have := h x (by simp); simp [valB]; omega
  | [x, y], _ => have := h x (by simp); have := h y (by simp); simp [valB]; omega
theorem i64_or (a b : Nat) (ha : a < 16777216) (hb : b < 256) : bits .or .i64 ((a : Int) * 256) (b : Int) = ((a * 256 + b : Nat) : Int) := by
  have e : a * 256 ||| b = a * 256 + b := by
    have := Nat.shiftLeft_add_eq_or_of_lt (i := 8) (b := b) hb a
    rw [Nat.shiftLeft_eq] at this
    exact this.symm
  show IntKind.i64.wrap ((BitVec.ofInt 64 ((a : Int) * 256) ||| BitVec.ofInt 64 (b : Int)).toNat : Int) = _
  rw [show ((a : Int) * 256) = ((a * 256 : Nat) : Int) by omega, BitVec.toNat_or, ofInt_i64, ofInt_i64, Nat.mod_eq_of_lt (by omega), Nat.mod_eq_of_lt (by omega), e]
  simp [IntKind.wrap, IntKind.bits, IntKind.signed]
  omega

set_option maxRecDepth 100000 in
set_option maxHeartbeats 800000 in
theorem l6Value_calls (s : ByteArray) (w : World) (hs : s.size ≤ 2) :
    Calls Try.prog 46 #[.string s] w fun e w' => e = .returned (.int .i64 (valB (bs s) : Nat)) ∧ w = w' := by
  go_enter Try.func46, Try.ntmps46
  go_wp2
  go_loop [3, 4] (fun vn vk => ∃ k n : Nat, vk = .int .i64 k ∧ vn = .int .i64 n ∧ k ≤ s.size ∧ n = valB ((bs s).take k)) (fun _ vk => s.size - (intOf vk).toNat)
  case atStart => exact ⟨0, 0, rfl, rfl, by omega, rfl⟩
  case round =>
    obtain ⟨k, n, rfl, rfl, hk, hn⟩ := hrel
    have hl : n < 65536 := by rw [hn]; exact valB_lt _ (mem_take_lt (bs_lt s) k) (by rw [List.length_take, bs_length]; omega)
    have HN := hide hn
    clear hn
    by_cases hlt : k < s.size
    · obtain ⟨z, hz⟩ : ∃ z, z = s[k].toNat := ⟨_, rfl⟩
      have hz256 : z < 256 := by rw [hz]; exact (s[k]).toNat_lt
      have hxz := i64_or n z (by omega) hz256
      have hs1 : Hid (valB ((bs s).take (k + 1)) = n * 256 + z) := by
        show _ = _
        rw [bs_snoc s k hlt, valB_snoc, ← HN.out, hz]
      have hz' := hz.symm
      clear hz
      go_wp2
      exact ⟨⟨k + 1, n * 256 + z, int_eq (by omega), rfl, by omega, by rw [hs1.out]⟩, by simp [intOf]; omega⟩
    · obtain rfl : k = s.size := by omega
      go_wp2
      go_ret
      refine ⟨ret_int ?_, rfl⟩
      rw [HN.out, List.take_of_length_le (by rw [bs_length]; exact Nat.le_refl _)]
end Go.Proofs.Ytbgadbokejaomaa

namespace Go.Proofs.Ytbgadbokejaomaa
open Go.RowKit
set_option linter.unusedVariables false

theorem infoStr : (Try.prog.info? 9).map (fun i => (i.zero, i.size, i.bytes)) = some (some (.string ⟨#[]⟩), 1, 16) := by kernel_rfl
/-- The value v is a slice that reads as these texts, in this world. -/
def RdT (w : World) (v : Value) (xs : List ByteArray) : Prop :=
  ∃ a cap, v = .slice a xs.length cap ∧ xs.length ≤ cap ∧ (cap ≤ maxLen ∧ (a = none → cap = 0)) ∧ (∀ s ∈ xs, s.size ≤ maxLen) ∧ (xs = [] ∨ ∃ b off, a = some ⟨b, off, none⟩ ∧ b < w.heap.size ∧ ∀ i, i < xs.length → w.cell? ⟨b, off + i, none⟩ = some (.string (xs.getD i ⟨#[]⟩)))
/-- The value v is a slice of the call's own (its block is base or later) that reads as these texts. -/
abbrev OwnT (w : World) (base : Nat) (v : Value) (xs : List ByteArray) : Prop := w.ownsRow base 9 1 v xs.length (xs.map Value.string)

theorem RdT.below {w w' : World} {v : Value} {xs : List ByteArray} (h : RdT w v xs) (hb : Below w.heap.size w w') : RdT w' v xs := by
  obtain ⟨a, cap, rfl, h1, h2, h4, h3⟩ := h
  refine ⟨a, cap, rfl, h1, h2, h4, ?_⟩
  rcases h3 with h3 | ⟨b, off, rfl, hlt, hc⟩
  · exact .inl h3
  · exact .inr ⟨b, off, rfl, Nat.lt_of_lt_of_le hlt hb.size, fun i hi => (hb.cell (p := ⟨b, off + i, none⟩) hlt).trans (hc i hi)⟩
theorem OwnT.rd {w : World} {base : Nat} {v : Value} {xs : List ByteArray} (h : OwnT w base v xs) (hsz : ∀ s ∈ xs, s.size ≤ maxLen) : RdT w v xs := by
  rcases h.2 with ⟨rfl, hn⟩ | ⟨g, cap, cur, rfl, hb, hg, hc, hm, hs, ht⟩
  · have : xs = [] := List.eq_nil_of_length_eq_zero hn
    subst this
    exact ⟨none, 0, rfl, Nat.le_refl _, ⟨Nat.zero_le _, fun _ => rfl⟩, hsz, .inl rfl⟩
  · refine ⟨_, cap, rfl, hc, ⟨hm, fun h => by cases h⟩, hsz, .inr ⟨g, 0, rfl, (Array.getElem?_eq_some_iff.1 hg).1, fun i hi => ?_⟩⟩
    have := World.ownsRow.cellAt h i (by omega)
    rw [Nat.zero_add, this]
    simp [hi]
theorem OwnT.below {w w' : World} {base : Nat} {v : Value} {xs : List ByteArray} (h : OwnT w base v xs) (hb : Below w.heap.size w w') : OwnT w' base v xs := by
  refine ⟨h.1, ?_⟩
  rcases h.2 with hn | ⟨g, cap, cur, rfl, hb', hg, rest⟩
  · exact .inl hn
  · exact .inr ⟨g, cap, cur, rfl, hb', by rw [hb.block g (Array.getElem?_eq_some_iff.1 hg).1]; exact hg, rest⟩
theorem OwnT.mono {w : World} {base base' : Nat} {v : Value} {xs : List ByteArray} (h : OwnT w base v xs) (hb : base' ≤ base) : OwnT w base' v xs := by
  refine ⟨h.1, ?_⟩
  rcases h.2 with hn | ⟨g, cap, cur, rfl, hb', rest⟩
  · exact .inl hn
  · exact .inr ⟨g, cap, cur, rfl, Nat.le_trans hb hb', rest⟩
/-- A row of another is as it was behind a call that writes into a row of its own, base or later. -/
theorem RdT.grown {w w' : World} {v : Value} {xs : List ByteArray} {g : Option Nat} (h : RdT w v xs) (hg : w.grownBy w' g) (hne : ∀ a n c b off, v = .slice a n c → a = some ⟨b, off, none⟩ → g ≠ some b) : RdT w' v xs := by
  obtain ⟨a, cap, rfl, h1, h2, h4, h3⟩ := h
  refine ⟨a, cap, rfl, h1, h2, h4, ?_⟩
  rcases h3 with h3 | ⟨b, off, rfl, hlt, hc⟩
  · exact .inl h3
  · refine .inr ⟨b, off, rfl, Nat.lt_of_lt_of_le hlt hg.size, fun i hi => ?_⟩
    have e := hg.block b hlt (fun e => hne _ _ _ b off rfl rfl e.symm)
    rw [← hc i hi]
    unfold World.cell?
    rw [e]
theorem rdT_nil (w : World) : RdT w (.slice none 0 0) [] := ⟨none, 0, rfl, Nat.le_refl _, ⟨Nat.zero_le _, fun _ => rfl⟩, by simp, .inl rfl⟩
theorem rdT_open {w : World} {x : Addr} {len cap : Nat} {ss : List ByteArray} (hl : len ≤ cap) (hm : cap ≤ maxLen) (hz : ss.length = cap)
    (hcell : ∀ i, i < ss.length → w.cell? (x.add i) = some (.string (ss.getD i ByteArray.empty))) (hwz : ∀ s ∈ ss, s.size ≤ maxLen) : RdT w (.slice (some x) len cap) (ss.take len) := by
  obtain ⟨b, off, sp⟩ := x
  have el : (ss.take len).length = len := by rw [List.length_take]; omega
  refine ⟨_, cap, by rw [el], by rw [el]; exact hl, ⟨hm, fun h => by cases h⟩, fun s hs => hwz s (List.mem_of_mem_take hs), ?_⟩
  by_cases h0 : len = 0
  · left
    subst h0
    rfl
  · right
    have h00 := hcell 0 (by omega)
    obtain rfl : sp = none := by simpa [Addr.add] using World.cell?_spot h00
    refine ⟨b, off, rfl, ?_, ?_⟩
    · have : w.cell? ⟨b, off, none⟩ = some (.string (ss.getD 0 ByteArray.empty)) := by simpa [Addr.add] using h00
      unfold World.cell? at this
      cases hh : w.heap[b]? with
      | none => simp [hh] at this
      | some o => exact (Array.getElem?_eq_some_iff.1 hh).1
    · intro i hi
      rw [el] at hi
      have := hcell i (by omega)
      have hadd : (⟨b, off, none⟩ : Addr).add i = ⟨b, off + i, none⟩ := by unfold Addr.add; split <;> simp_all
      rw [hadd] at this
      rw [this]
      have hiz : i < ss.length := by omega
      simp only [List.getD_eq_getElem?_getD, List.getElem?_take, if_pos hi, List.getElem?_eq_getElem hiz, Option.getD_some]
theorem strs_oneCell (zs : List ByteArray) : ∀ u ∈ zs.map Value.string, u.oneCell' = true := by
  intro u hu
  obtain ⟨b, _, rfl⟩ := List.mem_map.1 hu
  rfl

/-- 'append(out, p...)', out the call's own, p a row of the next block but one: one text. -/
theorem wpList_append_text1 {w : World} {ops : Array Oper} {rest : List Oper} {o : Oper} {a : Act} {Q : Exit → Act → World → Prop} (hgd : o.guard = none) (s x : Operand)
    (ho : o.op = .call { callee := .builtin .append, args := #[s, x], argTypes := #[22, 22] })
    (base : Nat) (v : Value) (n : Nat) (xs : List ByteArray) (z : ByteArray) (hs : a.eval s = v) (hown : w.ownsRow base 9 1 v n (xs.map Value.string)) (g : Nat) (hx : a.eval x = .slice (some ⟨g, 0, none⟩) 1 1) (hr : w.cell? ⟨g, 0, none⟩ = some (.string z))
    (hm : n + 1 ≤ 1073741824) (hbase : base ≤ w.heap.size)
    (h : ∀ v' w', OwnT w' base v' (xs ++ [z]) → w.grownBy w' v.ownBlock → wpList Try.prog ops Q rest (a.put o.dst v') w') : wpList Try.prog ops Q (o :: rest) a w := by
  obtain ⟨i0, hi, hz0, hz1, hz2⟩ := info_parts infoStr
  have hxn : xs.length = n := by have := hown.1; simpa using this
  refine wpList_append_own (w := w) hgd s x _ ho base _ i0 (.string ⟨#[]⟩) 1 16 Try.underlying22 hi hz0 hz1 hz2 rfl (by decide) v n _ hs hown ⟨g, 0, none⟩ 1 1 ([z].map Value.string) hx (by simp) ?_ (strs_oneCell _) (by unfold maxLen; omega) (by omega) hbase ?_
  · intro j y hj
    have hjl : j = 0 := by have := (List.getElem?_eq_some_iff.1 hj).1; simp at this; exact this
    subst hjl
    have hadd : (⟨g, 0, none⟩ : Addr).add 0 = ⟨g, 0, none⟩ := by unfold Addr.add; split <;> simp_all
    rw [hadd, hr]
    simpa using hj
  · intro v' w' ho' hg' _
    refine h v' w' ?_ hg'
    show World.ownsRow _ _ _ _ _ (xs ++ [z]).length _
    rw [List.map_append, List.length_append, hxn]
    exact ho'
/-- 'make([]string, n)': n empty texts of the call's own, in the next block. -/
theorem wpList_make_texts {w : World} {ops : Array Oper} {rest : List Oper} {o : Oper} {a : Act} {Q : Exit → Act → World → Prop} (hg : o.guard = none) (l c : Operand) (hop : o.op = Op.makeSlice 22 l c)
    (base : Nat) (L C : Int) (n : Nat) (hl : a.eval l = .int .i64 L) (hc : a.eval c = .int .i64 C) (hL : L = (n : Int)) (hC : C = (n : Int)) (hn : n ≤ 1073741824) (hb : base ≤ w.heap.size)
    (h : ∀ w', OwnT w' base (.slice (some ⟨w.heap.size, 0, none⟩) n n) (List.replicate n ⟨#[]⟩) → w.grownBy w' none → wpList Try.prog ops Q rest (a.put o.dst (.slice (some ⟨w.heap.size, 0, none⟩) n n)) w') : wpList Try.prog ops Q (o :: rest) a w := by
  obtain ⟨i0, hi, hz0, hz1, hz2⟩ := info_parts infoStr
  refine wpList_make_full w hg l c _ hop base 9 i0 (.string ⟨#[]⟩) 1 Try.underlying22 hi hz0 hz1 _ _ L C n hl hc hL hC (by rw [hz2]; omega) (by unfold maxLen; omega) hb ?_
  intro w' ho hg'
  refine h w' ?_ hg'
  show World.ownsRow _ _ _ _ _ (List.replicate n (⟨#[]⟩ : ByteArray)).length _
  rw [List.length_replicate, List.map_replicate]
  have e : (madeCells (Value.string ⟨#[]⟩).cells (n * 1)).toList = List.replicate n (Value.string ⟨#[]⟩) := by
    rw [Nat.mul_one]; exact toList_madeCells_one _ n
  rw [e] at ho
  exact ho

/-- What is copied so far. -/
def cpT (xs : List ByteArray) (k : Nat) : List ByteArray := xs.take k ++ List.replicate (xs.length - k) ⟨#[]⟩
theorem cpT_length (xs : List ByteArray) (k : Nat) (h : k ≤ xs.length) : (cpT xs k).length = xs.length := by simp [cpT]; omega
theorem cpT_step (xs : List ByteArray) (k : Nat) (h : k < xs.length) : (cpT xs k).set k (xs.getD k ⟨#[]⟩) = cpT xs (k + 1) := by
  have e1 : (xs.take k).length = k := by simp; omega
  unfold cpT
  rw [List.set_append_right _ _ (by omega), e1, Nat.sub_self]
  obtain ⟨m, hm⟩ : ∃ m, xs.length - k = m + 1 := ⟨xs.length - k - 1, by omega⟩
  have hm2 : xs.length - (k + 1) = m := by omega
  rw [hm, hm2, List.replicate_succ, List.set_cons_zero, List.take_succ_eq_append_getElem h, List.append_assoc]
  simp only [List.getD_eq_getElem?_getD, List.getElem?_eq_getElem h, Option.getD_some, List.singleton_append]
theorem cpT_end (xs : List ByteArray) : cpT xs xs.length = xs := by simp [cpT]
theorem cpT_zero (xs : List ByteArray) : cpT xs 0 = List.replicate xs.length ⟨#[]⟩ := by simp [cpT]

set_option maxRecDepth 100000 in
set_option maxHeartbeats 400000 in
theorem toStringS_calls (v : Value) (xs : List ByteArray) (w : World) (h : RdT w v xs) (hn : xs.length ≤ 1048576) :
    Calls Try.prog 19 #[v] w fun e w' => ∃ v', e = .returned v' ∧ OwnT w' w.heap.size v' xs ∧ Below w.heap.size w w' := by
  obtain ⟨a, cap, rfl, h1, h2, h4, h3⟩ := h
  have H3 := hide h3
  clear h3 h4
  go_enter Try.func19, Try.ntmps19
  go_wp2_with (at_make; refine wpList_make_texts rfl _ _ rfl w.heap.size _ _ xs.length rfl rfl (by omega) (by omega) (by omega) (Nat.le_refl _) ?_)
  intro w0 hown0 hgrow0
  have E0 := hide hown0
  have G0 := hide hgrow0
  clear hown0 hgrow0
  go_wp2
  go_loopw [4] (fun vi wr => ∃ k : Nat, k ≤ xs.length ∧ vi = .int .i64 k ∧ wr.ownsRow w.heap.size 9 1 (.slice (some ⟨w.heap.size, 0, none⟩) xs.length xs.length) xs.length ((cpT xs k).map Value.string) ∧ Below w.heap.size w wr) (fun vi _ => xs.length - (intOf vi).toNat)
  case atStart =>
    refine ⟨0, Nat.zero_le _, rfl, ?_, (Below.refl _ _).grown G0.out (Nat.le_refl _) (fun k h => by cases h)⟩
    rw [cpT_zero]
    have := E0.out
    unfold OwnT at this
    rwa [List.length_replicate] at this
  case round =>
    obtain ⟨k, hk, rfl, hown, hb⟩ := hrel
    by_cases hlt : k < xs.length
    · rcases H3.out with h3 | ⟨b, off, rfl, hbs, hc⟩
      · subst h3; simp at hlt
      · have hc1 : wr.cell? ⟨b, off + k, none⟩ = some (.string (xs.getD k ⟨#[]⟩)) := (hb.cell (by exact hbs)).trans (hc k hlt)
        have hc2 : wr.frozen? ⟨w.heap.size, k, none⟩ = false := hown.frozenAt k
        obtain ⟨old, hc3⟩ : ∃ old, wr.cell? ⟨w.heap.size, k, none⟩ = some old := by
          rw [hown.cellAt k (by omega)]
          have := cpT_length xs k hk
          exact ⟨_, List.getElem?_eq_getElem (by simp; omega)⟩
        have hst := hown.stored k (.string (xs.getD k ⟨#[]⟩))
        have K := hide hst
        clear hst hc
        go_wp2
        go_roundw
        case rel =>
          refine ⟨k + 1, by omega, by go_num, ?_, ?_⟩
          · have := K.out.1
            rw [← List.map_set, cpT_step xs k hlt] at this
            simpa [hlt] using this
          · exact hb.setCell (Nat.le_refl _) _
        case measure => simp [intOf]; omega
    · obtain rfl : k = xs.length := by omega
      go_wp2
      go_ret
      rw [cpT_end] at hown
      exact ⟨_, rfl, hown, hb⟩

set_option maxRecDepth 100000 in
set_option maxHeartbeats 400000 in
theorem eqStringS_same (v1 v2 : Value) (xs : List ByteArray) (w : World) (h1 : RdT w v1 xs) (h2 : RdT w v2 xs) :
    Calls Try.prog 25 #[v1, v2] w fun e w' => e = .returned (.bool true) ∧ Below w.heap.size w w' := by
  obtain ⟨a1, c1, rfl, _, m1, _, k1⟩ := h1
  obtain ⟨a2, c2, rfl, _, _, _, k2⟩ := h2
  have hm : xs.length ≤ maxLen := by omega
  unfold maxLen at hm
  have K := hide k1
  have L := hide k2
  clear k1 k2 m1
  go_enter Try.func25, Try.ntmps25
  go_wp2
  go_loopw [5] (fun vi wr => ∃ k : Nat, k ≤ xs.length ∧ vi = .int .i64 k ∧ Below w.heap.size w wr) (fun vi _ => xs.length - (intOf vi).toNat)
  case atStart => exact ⟨0, Nat.zero_le _, rfl, Below.refl _ _⟩
  case round =>
    obtain ⟨k, hk, rfl, hb⟩ := hrel
    by_cases hlt : k < xs.length
    · rcases K.out with h3 | ⟨b, off, rfl, hbs, hc⟩
      · subst h3; simp at hlt
      rcases L.out with h3 | ⟨b', off', rfl, hbs', hc'⟩
      · subst h3; simp at hlt
      have e1 : wr.cell? ⟨b, off + k, none⟩ = some (.string (xs.getD k ⟨#[]⟩)) := (hb.cell (by exact hbs)).trans (hc k hlt)
      have e2 : wr.cell? ⟨b', off' + k, none⟩ = some (.string (xs.getD k ⟨#[]⟩)) := (hb.cell (by exact hbs')).trans (hc' k hlt)
      have hlt' : (k : Int) < (xs.length : Int) := by omega
      clear hc hc'
      generalize xs.getD k ⟨#[]⟩ = z at e1 e2
      go_wp2
      go_quiet (fail)
      go_wp2
      go_roundw
      case rel => exact ⟨k + 1, by omega, by go_num, below_drewN hb _⟩
      case measure => simp [intOf]; omega
    · obtain rfl : k = xs.length := by omega
      go_wp2
      go_ret
      exact ⟨rfl, hb⟩

/-- What the measure of some texts tells. -/
def SzOk (xs : List ByteArray) (r : Int) : Prop := r < 0 ∨ (0 ≤ r ∧ xs.length ≤ 1048576 ∧ ∀ i, i < xs.length → (xs.getD i ⟨#[]⟩).size ≤ 1048576)

set_option maxRecDepth 100000 in
set_option maxHeartbeats 400000 in
theorem szStringS_calls (v : Value) (xs : List ByteArray) (w : World) (h : RdT w v xs) :
    Calls Try.prog 13 #[v, .int .i64 1048576] w fun e w' => (∃ r : Int, e = .returned (.int .i64 r) ∧ SzOk xs r) ∧ w = w' := by
  obtain ⟨a, cap, rfl, h1, h2, h4, h3⟩ := h
  have hm : xs.length ≤ maxLen := by omega
  unfold maxLen at hm
  have H3 := hide h3
  have H4 := hide h4
  clear h3 h4 h2 h1
  by_cases hn : xs.length ≤ 1048576
  case neg =>
    have hn' : 1048576 - (xs.length : Int) < 0 := by omega
    go_enter Try.func13, Try.ntmps13
    go_wp2
    go_ret
    exact ⟨⟨-1, rfl, .inl (by decide)⟩, rfl⟩
  have hn' : ¬ 1048576 - (xs.length : Int) < 0 := by omega
  go_enter Try.func13, Try.ntmps13
  go_wp2
  go_loop [1, 5] (fun vl vi => ∃ (k : Nat) (l : Int), k ≤ xs.length ∧ vi = .int .i64 k ∧ vl = .int .i64 l ∧ 0 ≤ l ∧ l ≤ 1048576 ∧ ∀ i, i < k → (xs.getD i ⟨#[]⟩).size ≤ 1048576) (fun _ vi => xs.length - (intOf vi).toNat)
  case atStart => exact ⟨0, _, Nat.zero_le _, rfl, rfl, by omega, by omega, fun i hi => by omega⟩
  case round =>
    obtain ⟨k, l, hk, rfl, rfl, hl0, hl1, hall⟩ := hrel
    have HA := hide hall
    clear hall
    by_cases hlt : k < xs.length
    · rcases H3.out with h3 | ⟨b, off, rfl, hbs, hc⟩
      · subst h3; simp at hlt
      have hc1 := hc k hlt
      have hz : (xs.getD k ⟨#[]⟩).size ≤ maxLen := by
        apply H4.out
        rw [List.getD_eq_getElem?_getD, List.getElem?_eq_getElem hlt]
        exact List.getElem_mem hlt
      unfold maxLen at hz
      clear hc
      obtain ⟨z, hzz⟩ : ∃ z, z = xs.getD k ⟨#[]⟩ := ⟨_, rfl⟩
      rw [← hzz] at hc1 hz
      have HZ := hide hzz
      clear hzz
      by_cases hle : (z.size : Int) ≤ l
      · have t1 : ¬ l - (z.size : Int) < 0 := by omega
        go_wp2
        go_round
        case rel =>
          refine ⟨k + 1, _, by omega, by go_num, rfl, by omega, by omega, fun i hi => ?_⟩
          by_cases e : i = k
          · subst e
            rw [← HZ.out]
            omega
          · exact HA.out i (by omega)
        case measure => simp [intOf]; omega
      · have t1 : l - (z.size : Int) < 0 := by omega
        go_wp2
        go_ret
        exact ⟨⟨-1, rfl, .inl (by decide)⟩, rfl⟩
    · obtain rfl : k = xs.length := by omega
      go_wp2
      go_ret
      exact ⟨⟨l, rfl, Or.inr ⟨hl0, hn, HA.out⟩⟩, rfl⟩

/-- A number's digits, as bytes, so many of them at most. -/
def decF : Nat → Nat → List Nat
  | 0, _ => []
  | f + 1, k => if k = 0 then [] else decF f (k / 10) ++ [48 + k % 10]
theorem decF_same : ∀ (f g k : Nat), k < f → k < g → decF f k = decF g k
  | 0, _, _, h, _ => by omega
  | _, 0, _, _, h => by omega
  | f + 1, g + 1, k, h1, h2 => by
    unfold decF
    by_cases h : k = 0
    · rw [if_pos h, if_pos h]
    · rw [if_neg h, if_neg h, decF_same f g (k / 10) (by omega) (by omega)]
/-- A number's digits, as bytes. -/
def decL (k : Nat) : List Nat := decF (k + 1) k
theorem decL_zero : decL 0 = [] := rfl
theorem decL_pos (k : Nat) (h : 0 < k) : decL k = decL (k / 10) ++ [48 + k % 10] := by
  unfold decL
  rw [decF_same (k / 10 + 1) k (k / 10) (by omega) (by omega)]
  show (if k = 0 then [] else decF k (k / 10) ++ [48 + k % 10]) = _
  rw [if_neg (by omega)]
theorem decL_length (k : Nat) : (decL k).length ≤ k := by
  induction k using Nat.strongRecOn with
  | ind k ih =>
    by_cases h : k = 0
    · subst h; rw [decL_zero]; exact Nat.le_refl _
    · rw [decL_pos k (by omega), List.length_append]
      have := ih (k / 10) (by omega)
      simp
      omega
/-- The mark of a number. -/
def mt (k : Nat) : ByteArray := ofN (109 :: decL k)
theorem mt_size (k : Nat) : (mt k).size ≤ k + 1 := by
  unfold mt
  rw [ofN_size, List.length_cons]
  have := decL_length k
  omega
theorem byte_text (d : Nat) (hd : d < 256) (W : World) : (convert 83 9 (.slice (some ⟨W.heap.size, 0, none⟩) 1 1)).run Try.prog (W.alloc (.cells #[.int .u8 (d : Int)] 5)) = .ok (.string (ofN [d])) (W.alloc (.cells #[.int .u8 (d : Int)] 5)) := by
  have hz : ZRow (W.alloc (.cells #[.int .u8 (d : Int)] 5)) W.heap.size [d] := heap_alloc_new W _
  have := hz.conv (n := 1) (cap := 1) (by simpa using hd) (Nat.le_refl _)
  exact this

set_option maxRecDepth 100000 in
set_option maxHeartbeats 400000 in
theorem markText_calls (K : Nat) (w : World) (h0 : 0 < K) (hK : K ≤ 1099511627776) :
    Calls Try.prog 38 #[.int .i64 K] w fun e w' => e = .returned (.string (mt K)) ∧ Below w.heap.size w w' := by
  have hlen := decL_length K
  obtain ⟨T, hT⟩ : ∃ T, T = decL K := ⟨_, rfl⟩
  rw [← hT] at hlen
  have HT := hide hT
  unfold mt
  rw [← hT]
  clear hT
  have h0' : ¬ (K : Int) ≤ 0 := by omega
  go_enter Try.func38, Try.ntmps38
  go_wp2
  go_loopw [0, 3] (fun vk vo wr => ∃ (k : Nat) (l : List Nat), vk = .int .i64 k ∧ vo = .string (ofN l) ∧ k ≤ K ∧ T = decL k ++ l ∧ Below w.heap.size w wr) (fun vk _ _ => (intOf vk).toNat)
  case atStart => exact ⟨K, [], rfl, rfl, Nat.le_refl _, by rw [List.append_nil]; exact HT.out, Below.refl _ _⟩
  case round =>
    obtain ⟨k, l, rfl, rfl, hk, hl, hb⟩ := hrel
    have hll : l.length ≤ K := by
      have := congrArg List.length hl
      rw [List.length_append] at this
      omega
    have HLL := hide hl
    have HB := hide hb
    clear hl hb
    by_cases hk0 : 0 < k
    · have hk0' : (0 : Int) < (k : Int) := by omega
      have hcv := byte_text (48 + k % 10) (by omega) wr
      have ecast : (((48 + k % 10 : Nat) : Int)) = 48 + (k : Int) % 10 := by omega
      rw [ecast] at hcv
      have hadd := fun W : World => run_string_add_sum (P := Try.prog) (w := W) (ofN [48 + k % 10]) (ofN l) (by rw [ofN_size, ofN_size]; simp; omega)
      clear ecast
      go_wp2
      refine ⟨⟨k / 10, (48 + k % 10) :: l, int_eq (by omega), ?_, by omega, ?_, HB.out.alloc HB.out.size _⟩, by simp [intOf]; omega⟩
      · rw [ofN_append]
        rfl
      · rw [HLL.out, decL_pos k hk0, List.append_assoc]
        rfl
    · obtain rfl : k = 0 := by omega
      have e0 : T = l := by have := HLL.out; rw [decL_zero] at this; exact this
      have hadd := fun W : World => run_string_add_sum (P := Try.prog) (w := W) (⟨#[109]⟩ : ByteArray) (ofN l) (by rw [ofN_size]; show 1 + l.length ≤ _; omega)
      have E0 := hide e0
      clear e0
      go_wp2
      go_ret
      refine ⟨?_, HB.out⟩
      have e1 : (⟨#[109]⟩ : ByteArray) = ofN [109] := rfl
      rw [e1, ofN_append, E0.out]
      rfl
end Go.Proofs.Ytbgadbokejaomaa

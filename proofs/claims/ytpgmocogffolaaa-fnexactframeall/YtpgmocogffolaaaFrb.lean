/-
  A frame's bytes: the program's function, call by call. No condition but a bound on the body's length.
-/
import Derived.Test.YtpgmocogffolaaaFrz
namespace Go.Proofs.Ytpgmocogffolaaa
open Go.RowKit

theorem box_cell0 {w w1 : World} {cs : Array Value} {T : TypeId} (h : Below (w.alloc (.cells cs T)).heap.size (w.alloc (.cells cs T)) w1) (i : Nat) : w1.cell? ⟨w.heap.size, i, none⟩ = cs[i]? := by
  rw [h.cell (p := ⟨w.heap.size, i, none⟩) (by simp), cell_of_row _ w.heap.size i cs T (0, 0) (heap_alloc_new w _)]
theorem below_grown {w w' w'' : World} {B g : Nat} (h : Below B w w') (hB : B ≤ w'.heap.size) (k : w'.grownBy w'' (some g)) (hg : B ≤ g) : Below B w w'' :=
  h.grown k hB (fun j hj => by cases hj; exact hg)
theorem row4 (k a e n : Nat) : ((((((List.replicate 28 0).set 0 k).set 1 (a / 256)).set 2 (a % 256)).set 3 (e / 256)).set 4 (e % 256)).set 5 n = [k, a / 256, a % 256, e / 256, e % 256, n] ++ List.replicate 22 0 := rfl
theorem row5 (k a e : Nat) (b : List Nat) (h : b.length ≤ 16) :
    ([k, a / 256, a % 256, e / 256, e % 256, b.length] ++ List.replicate 22 0).take 6 ++ b ++ ([k, a / 256, a % 256, e / 256, e % 256, b.length] ++ List.replicate 22 0).drop (6 + b.length) = headB k a e b ++ List.replicate 4 0 := by
  have e1 : ([k, a / 256, a % 256, e / 256, e % 256, b.length] ++ List.replicate 22 0).take 6 = [k, a / 256, a % 256, e / 256, e % 256, b.length] := rfl
  have e2 : ([k, a / 256, a % 256, e / 256, e % 256, b.length] ++ List.replicate 22 0).drop (6 + b.length) = List.replicate (22 - b.length) 0 := by
    rw [← List.drop_drop]
    show (List.replicate 22 0).drop b.length = _
    rw [List.drop_replicate]
  rw [e1, e2]
  unfold headB
  rw [List.append_assoc, List.append_assoc, List.append_assoc, List.replicate_append_replicate]
  congr 4
  omega
theorem row6 (k a e : Nat) (b : List Nat) (h : b.length ≤ 16) :
    (headB k a e b ++ List.replicate 4 0).take 24 = headB k a e b ∧ (headB k a e b ++ List.replicate 4 0).take 24 ++ low4 (Crc.on 0 (headB k a e b)) ++ (headB k a e b ++ List.replicate 4 0).drop 28 = frB k a e b := by
  have hl := headB_length (K := k) (A := a) (E := e) h
  have e1 : (headB k a e b ++ List.replicate 4 0).take 24 = headB k a e b := by rw [← hl, List.take_left]
  refine ⟨e1, ?_⟩
  have e2 : (headB k a e b ++ List.replicate 4 0).drop 28 = [] := by
    apply List.drop_of_length_le
    rw [List.length_append, hl, List.length_replicate]
    omega
  rw [e1, e2, List.append_nil]
  rfl

set_option maxRecDepth 100000 in
set_option maxHeartbeats 1600000 in
theorem frameBytes_calls (K A E : Int) (b : ByteArray) (w : World) (hb : b.size ≤ maxLen) :
    Calls Try.prog 49 #[.agg #[.int .i64 K, .int .i64 A, .int .i64 E, .string b]] w fun e w' => e = .returned (.tuple #[.string (frR K A E b).1, .bool (frR K A E b).2]) ∧ Below w.heap.size w w' := by
  have B0 := hide (below_box w (.cells #[.int .i64 K, .int .i64 A, .int .i64 E, .string b] 69))
  by_cases hg : goodF K A E b.size
  case neg =>
    have e1 : frR K A E b = (⟨#[]⟩, false) := if_neg hg
    have e2 : goodD K A E b.size = false := goodD_no hg
    rw [e1]
    have E2 := hide e2
    clear e1 e2
    go_enter Try.func49, Try.ntmps49
    go_wp2_with fail
    refine (goodFrame_calls K A E b _ hb).mono ?_
    rintro e w1 ⟨rfl, h1⟩
    rw [E2.out]
    have S1 := hide h1
    clear h1
    go_wp2
    go_ret2
    exact ⟨rfl, B0.out.trans (S1.out.mono (by simp))⟩
  have e1 : frR K A E b = (ofN (frB K.toNat A.toNat E.toNat (bs b)), true) := if_pos hg
  have e2 : goodD K A E b.size = true := goodD_yes hg
  rw [e1]
  have E2 := hide e2
  clear e1 e2
  obtain ⟨⟨⟨k0, k1⟩, a0, a1⟩, ⟨f0, f1⟩, hn⟩ := hg
  obtain ⟨k, rfl⟩ := Int.eq_ofNat_of_zero_le (show 0 ≤ K by omega)
  obtain ⟨a, rfl⟩ := Int.eq_ofNat_of_zero_le a0
  obtain ⟨e, rfl⟩ := Int.eq_ofNat_of_zero_le f0
  simp only [Int.toNat_natCast]
  have hl : (bs b).length ≤ 16 := by rw [bs_length]; exact hn
  have hsmall := frB_small (K := k) (A := a) (E := e) (by omega) (by omega) (by omega) hl (bs_lt b)
  have hhead := headB_small (K := k) (A := a) (E := e) (by omega) (by omega) (by omega) hl (bs_lt b)
  have HS := hide hsmall
  have HH := hide hhead
  have HL := hide hl
  clear hsmall hhead hl
  go_enter Try.func49, Try.ntmps49
  go_wp2_with fail
  refine (goodFrame_calls k a e b _ hb).mono ?_
  rintro e' w1 ⟨rfl, h1⟩
  rw [E2.out]
  have hw1 : w.heap.size + 1 ≤ w1.heap.size := by have := h1.size; simpa using this
  have S1 := hide h1
  clear h1
  go_wp2_with (at_make; refine wpList_make_bytes rfl _ _ rfl w1.heap.size _ _ 28 rfl rfl (by omega) (by omega) (by omega) (Nat.le_refl _) ?_)
  intro w2 hown hgrow
  have Z2 := hide (zrow_made hown)
  have S2 := hide (S1.out.trans ((grown_none hgrow).mono S1.out.size))
  clear hown hgrow S1
  have c0 := box_cell0 S2.out 0
  have z0 := Z2.out.cell 0 (by simp)
  have y0 := Z2.out.frozen 0
  have Z3 := hide (Z2.out.set 0 k)
  have S3 := hide (S2.out.setCell (p := ⟨w1.heap.size, 0, none⟩) (by simpa using hw1) (.int .u8 (k : Int)))
  simp only [List.getElem?_toArray, List.getElem?_cons_zero] at c0
  go_wp2
  generalize w2.setCell ⟨w1.heap.size, 0, none⟩ (.int .u8 (k : Int)) = w3 at Z3 S3 ⊢
  clear c0 z0 y0 Z2 S2
  have c1 := box_cell0 S3.out 1
  simp only [List.getElem?_toArray, List.getElem?_cons_zero, List.getElem?_cons_succ] at c1
  go_region_with (go_at_call 102; refine (putHigh_calls w1.heap.size 1 27 27 a _ w3.drew (by exact Z3.out.drew) (by simp) (by omega) (by omega)).mono ?_; rintro e' w4 ⟨rfl, z4, g4⟩)
  have Z4 := hide z4
  have S4 := hide (below_grown S3.out.drew (by simpa using S3.out.size) g4 (by simpa using hw1))
  clear z4 g4 Z3 S3 c1
  have c2 := box_cell0 S4.out 2
  simp only [List.getElem?_toArray, List.getElem?_cons_zero, List.getElem?_cons_succ] at c2
  go_wp2
  go_region_with (go_at_call 102; refine (putHigh_calls w1.heap.size 3 25 25 e _ w4.drew (by exact Z4.out.drew) (by simp) (by omega) (by omega)).mono ?_; rintro e' w5 ⟨rfl, z5, g5⟩)
  have Z5 := hide z5
  have S5 := hide (below_grown S4.out.drew (by simpa using S4.out.size) g5 (by simpa using hw1))
  clear z5 g5 Z4 S4 c2
  have c3 := box_cell0 S5.out 3
  simp only [List.getElem?_toArray, List.getElem?_cons_zero, List.getElem?_cons_succ] at c3
  have z5 := Z5.out.cell 5 (by simp)
  have y5 := Z5.out.frozen 5
  have Z6 := hide (Z5.out.set 5 b.size)
  have S6 := hide (S5.out.setCell (p := ⟨w1.heap.size, 5, none⟩) (by simpa using hw1) (.int .u8 ((b.size : Nat) : Int)))
  go_wp2
  generalize w5.setCell ⟨w1.heap.size, 5, none⟩ (.int .u8 ((b.size : Nat) : Int)) = w6 at Z6 S6 ⊢
  clear c3 z5 y5 Z5 S5
  have c3 := box_cell0 S6.out 3
  simp only [List.getElem?_toArray, List.getElem?_cons_zero, List.getElem?_cons_succ] at c3
  have z6 := Z6.out
  rw [row4, ← bs_length b] at z6
  obtain ⟨w7, q1, q2, q3⟩ := copy_z (o := 6) (dLen := 22) (dCap := 22) b z6.drew (by omega) (by simp; omega)
  rw [← bs_length b, row5 _ _ _ _ HL.out] at q2
  have Z7 := hide q2
  have S7 := hide (below_grown S6.out.drew (by simpa using S6.out.size) q3 (by simpa using hw1))
  clear z6 q2 q3 Z6 S6
  go_region
  obtain ⟨x1, x2⟩ := row6 k a e (bs b) HL.out
  have hcv := (Z7.out.drew).conv (n := 24) (cap := 28) (fun y hy => by
    rw [List.mem_append] at hy
    rcases hy with hy | hy
    · exact HH.out y hy
    · have := (List.mem_replicate.1 hy).2; omega) (by rw [List.length_append, headB_length HL.out]; omega)
  rw [x1] at hcv
  rw [x1] at x2
  have hsz : (ofN (headB k a e (bs b))).size ≤ 400 := by rw [ofN_size, headB_length HL.out]; omega
  have CP : Hid (∀ w8, Below w7.drew.heap.size w7.drew w8 → ∃ w9, (Builtin.copy_ #[121, 9] 3 #[.slice (some ⟨w1.heap.size, 24, none⟩) 4 4, .string (ofN (low4 (Crc.on 0 (headB k a e (bs b)))))]).run Try.prog w8 = .ok (goInt (ofN (low4 (Crc.on 0 (headB k a e (bs b))))).size) w9 ∧ ZRow w9 w1.heap.size (frB k a e (bs b)) ∧ Below (w.alloc (.cells #[.int .i64 k, .int .i64 a, .int .i64 e, .string b] 69)).heap.size (w.alloc (.cells #[.int .i64 k, .int .i64 a, .int .i64 e, .string b] 69)) w9) := by
    show ∀ w8, _
    intro w8 b8
    have hz8 : ZRow w8 w1.heap.size (headB k a e (bs b) ++ List.replicate 4 0) := Z7.out.drew.kept b8
    obtain ⟨w9, r1, r2, r3⟩ := copy_z (o := 24) (dLen := 4) (dCap := 4) (ofN (low4 (Crc.on 0 (headB k a e (bs b))))) hz8 (by rw [ofN_size]; exact Nat.le_refl _) (by rw [ofN_size, List.length_append, headB_length HL.out]; simp [low4])
    refine ⟨w9, r1, ?_, ?_⟩
    · rw [bs_ofN (low4_small _), ofN_size, x1] at r2
      rw [← x2]
      exact r2
    · exact below_grown (S7.out.drew.trans (b8.mono (by simpa using S7.out.size))) (Nat.le_trans S7.out.size b8.size) r3 (by simpa using hw1)
  have X2 := hide x2
  clear x1 x2 c3
  go_wp2
  go_region_with (go_at_call 103; refine (sumBytes_calls (ofN (headB k a e (bs b))) w7.drew hsz).mono ?_; rintro e' w8 ⟨rfl, b8⟩; rw [bs_ofN HH.out]; obtain ⟨w9, r1, r2, r3⟩ := CP.out w8 b8)
  have S9 := hide r3
  have hc9 := r2.conv (n := 28) (cap := 28) HS.out (by rw [frB_length HL.out]; exact Nat.le_refl _)
  rw [List.take_of_length_le (by rw [frB_length HL.out]; exact Nat.le_refl _)] at hc9
  clear r1 r2 r3
  go_wp2
  go_ret2
  exact ⟨rfl, B0.out.trans (S9.out.mono (by simp))⟩
end Go.Proofs.Ytpgmocogffolaaa

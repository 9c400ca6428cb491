/-
  The sum of so many bytes 0, and two sums put together: the program's functions and its model's, call by call. No condition.
-/
import Derived.Test.YteecnepmdniddaaSum
namespace Go.Proofs.Yteecnepmdniddaa
open Go.RowKit

theorem infoByte : (Try.prog.info? 5).map (fun i => (i.zero, i.size, i.bytes)) = some (some (.int .u8 0), 1, 1) := by kernel_rfl
/-- 'make([]byte, n)': n bytes 0 of the call's own, in the next block. -/
theorem wpList_make_bytes {w : World} {ops : Array Oper} {rest : List Oper} {o : Oper} {a : Act} {Q : Exit → Act → World → Prop} (hg : o.guard = none) (l c : Operand) (hop : o.op = Op.makeSlice 22 l c)
    (base : Nat) (L C : Int) (n : Nat) (hl : a.eval l = .int .i64 L) (hc : a.eval c = .int .i64 C) (hL : L = (n : Int)) (hC : C = (n : Int)) (hn : n ≤ 1073741824) (hb : base ≤ w.heap.size)
    (h : ∀ w', w'.ownsRow base 5 1 (.slice (some ⟨w.heap.size, 0, none⟩) n n) n (List.replicate n (.int .u8 0)) → w.grownBy w' none → wpList Try.prog ops Q rest (a.put o.dst (.slice (some ⟨w.heap.size, 0, none⟩) n n)) w') : wpList Try.prog ops Q (o :: rest) a w := by
  obtain ⟨i0, hi, hz0, hz1, hz2⟩ := info_parts infoByte
  refine wpList_make_full w hg l c _ hop base 5 i0 (.int .u8 0) 1 Try.underlying22 hi hz0 hz1 _ _ L C n hl hc hL hC (by rw [hz2]; omega) (by unfold maxLen; omega) hb ?_
  intro w' ho hg'
  refine h w' ?_ hg'
  have e : (madeCells (Value.int .u8 0).cells (n * 1)).toList = List.replicate n (Value.int .u8 0) := by
    rw [Nat.mul_one]; exact toList_madeCells_one _ n
  rw [e] at ho
  exact ho
/-- The text of n bytes 0. -/
def zst (n : Nat) : ByteArray := ⟨(List.replicate n (0 : UInt8)).toArray⟩
theorem zst_size (n : Nat) : (zst n).size = n := by show (List.replicate n (0 : UInt8)).toArray.size = n; simp
theorem bs_zst (n : Nat) : bs (zst n) = List.replicate n 0 := by
  unfold bs zst
  simp
theorem own_zero {w : World} {base g n : Nat} (h : w.ownsRow base 5 1 (.slice (some ⟨g, 0, none⟩) n n) n (List.replicate n (.int .u8 0))) (i : Nat) (hi : i < n) : w.cell? ⟨g, i, none⟩ = some (.int .u8 0) := by
  rw [World.ownsRow.cellAt h i (by omega)]
  simp [hi]
theorem own_lt {w : World} {base g n : Nat} (h : w.ownsRow base 5 1 (.slice (some ⟨g, 0, none⟩) n n) n (List.replicate n (.int .u8 0))) : g < w.heap.size := by
  rcases h.2 with ⟨h', _⟩ | ⟨g', cap', cur, h', _, hg, _⟩
  · simp at h'
  · simp at h'
    obtain ⟨rfl, _⟩ := h'
    exact (Array.getElem?_eq_some_iff.1 hg).1
theorem conv_zero {w : World} {base g n : Nat} (h : w.ownsRow base 5 1 (.slice (some ⟨g, 0, none⟩) n n) n (List.replicate n (.int .u8 0))) :
    (convert 22 9 (.slice (some ⟨g, 0, none⟩) n n)).run Try.prog w = .ok (.string (zst n)) w := by
  have := run_convert_bytes_back (P := Try.prog) w 22 9 5 ⟨g, 0, none⟩ n (List.replicate n (0 : UInt8)) Try.underlying22 Try.underlying5 Try.underlying9 (fun j hj => by
    have hadd : (⟨g, 0, none⟩ : Addr).add j = ⟨g, 0 + j, none⟩ := by unfold Addr.add; split <;> simp_all
    rw [hadd, Nat.zero_add, own_zero h j (by simpa using hj)]
    simp)
  rw [List.length_replicate] at this
  exact this
theorem rd_zero {w : World} {base g n : Nat} (h : w.ownsRow base 5 1 (.slice (some ⟨g, 0, none⟩) n n) n (List.replicate n (.int .u8 0))) : RdL w (.slice (some ⟨g, 0, none⟩) n n) (List.replicate n 0) := by
  refine ⟨_, n, by rw [List.length_replicate], by rw [List.length_replicate]; exact Nat.le_refl _, .inr ⟨g, 0, rfl, own_lt h, fun i hi => ?_⟩⟩
  rw [List.length_replicate] at hi
  rw [Nat.zero_add, own_zero h i hi]
  simp [hi]
theorem grown_none {w w' : World} (hg : w.grownBy w' none) : Below w.heap.size w w' := (Below.refl _ _).grown hg (Nat.le_refl _) (fun k h => by cases h)

/-- The sum of so many bytes 0, and whether there is one. -/
def zeroR (n : Int) : Int × Bool := if 0 ≤ n ∧ n ≤ 400 then (((Crc.on 0 (List.replicate n.toNat 0) : Nat) : Int), true) else (0, false)
theorem onR_zst (n : Nat) (h : n ≤ 400) : onR 0 (zst n) = (((Crc.on 0 (List.replicate n 0) : Nat) : Int), true) := by
  unfold onR
  rw [if_pos ⟨by decide, by rw [zst_size]; exact h⟩, bs_zst]
  rfl

set_option maxRecDepth 100000 in
set_option maxHeartbeats 800000 in
theorem zeroSum_calls (n : Int) (w : World) :
    Calls Try.prog 22 #[.int .i64 n] w fun e w' => e = .returned (.tuple #[.int .i64 (zeroR n).1, .bool (zeroR n).2]) ∧ Below w.heap.size w w' := by
  by_cases hc : 0 ≤ n ∧ n ≤ 400
  case neg =>
    have e : zeroR n = (0, false) := if_neg hc
    rw [e]
    go_enter Try.func22, Try.ntmps22
    go_wp2_with fail
    refine (isSummed_no _ _ (by omega)).mono ?_
    rintro e w' ⟨rfl, rfl⟩
    go_wp2
    go_ret2
    exact ⟨rfl, Below.refl _ _⟩
  have e : zeroR n = (((Crc.on 0 (List.replicate n.toNat 0) : Nat) : Int), true) := if_pos hc
  rw [e]
  clear e
  obtain ⟨N, rfl⟩ := Int.eq_ofNat_of_zero_le hc.1
  simp only [Int.toNat_natCast]
  have hN : N ≤ 400 := by omega
  go_enter Try.func22, Try.ntmps22
  go_wp2_with fail
  refine (isSummed_yes _ _ hc.1 hc.2).mono ?_
  rintro e w' ⟨rfl, rfl⟩
  go_wp2_with (at_make; refine wpList_make_bytes rfl _ _ rfl w.heap.size _ _ N rfl rfl (by omega) (by omega) (by omega) (Nat.le_refl _) ?_)
  intro w0 hown hgrow
  have hcv := conv_zero hown
  have G := hide (grown_none hgrow)
  clear hgrow hown
  go_wp2_with fail
  refine (sumOf_calls (zst N) _ (by rw [zst_size]; unfold maxLen; omega)).mono ?_
  rintro e w2 ⟨rfl, b⟩
  rw [onR_zst N hN]
  have B := hide (G.out.trans (b.mono G.out.size))
  clear b
  go_wp2
  go_ret2
  exact ⟨rfl, B.out⟩

set_option maxRecDepth 100000 in
set_option maxHeartbeats 800000 in
theorem sZeroSum_calls (n : Int) (w : World) :
    Calls Try.prog 23 #[.int .i64 n] w fun e w' => e = .returned (.tuple #[.int .i64 (zeroR n).1, .bool (zeroR n).2]) ∧ Below w.heap.size w w' := by
  by_cases hc : 0 ≤ n ∧ n ≤ 400
  case neg =>
    have e : zeroR n = (0, false) := if_neg hc
    rw [e]
    go_enter Try.func23, Try.ntmps23
    go_wp2_with fail
    refine (l1In_no _ _ _ _ (by omega)).mono ?_
    rintro e w' ⟨rfl, rfl⟩
    go_wp2
    go_ret2
    exact ⟨rfl, Below.refl _ _⟩
  have e : zeroR n = (((Crc.on 0 (List.replicate n.toNat 0) : Nat) : Int), true) := if_pos hc
  rw [e]
  clear e
  obtain ⟨N, rfl⟩ := Int.eq_ofNat_of_zero_le hc.1
  simp only [Int.toNat_natCast]
  have hN : N ≤ 400 := by omega
  go_enter Try.func23, Try.ntmps23
  go_wp2_with fail
  refine (l1In_yes _ _ _ _ hc.1 hc.2).mono ?_
  rintro e w' ⟨rfl, rfl⟩
  go_wp2_with (at_make; refine wpList_make_bytes rfl _ _ rfl w.heap.size _ _ N rfl rfl (by omega) (by omega) (by omega) (Nat.le_refl _) ?_)
  intro w0 hown hgrow
  have hcv := conv_zero hown
  have G := hide (grown_none hgrow)
  clear hgrow hown
  go_wp2_with fail
  refine (l5On_calls 0 (zst N) _ (by decide) (by rw [zst_size]; omega)).mono ?_
  rintro e w2 ⟨rfl, rfl⟩
  rw [bs_zst]
  go_wp2
  go_ret2
  exact ⟨rfl, G.out⟩

/-- Two sums put together, and whether they can be. -/
def jnR (a b n : Int) : Int × Bool := if ((0 ≤ a ∧ a ≤ 4294967295) ∧ (0 ≤ b ∧ b ≤ 4294967295)) ∧ (0 ≤ n ∧ n ≤ 400) then (((Crc.jn a.toNat b.toNat n.toNat : Nat) : Int), true) else (0, false)

set_option maxRecDepth 100000 in
set_option maxHeartbeats 800000 in
theorem joinSums_calls (a b n : Int) (w : World) :
    Calls Try.prog 15 #[.int .i64 a, .int .i64 b, .int .i64 n] w fun e w' => e = .returned (.tuple #[.int .i64 (jnR a b n).1, .bool (jnR a b n).2]) ∧ Below w.heap.size w w' := by
  by_cases ha : 0 ≤ a ∧ a ≤ 4294967295
  case neg =>
    have e : jnR a b n = (0, false) := if_neg (fun h => ha h.1.1)
    rw [e]
    go_enter Try.func15, Try.ntmps15
    go_wp2_with fail
    refine (has32_no _ _ (by omega)).mono ?_
    rintro e w' ⟨rfl, rfl⟩
    go_wp2
    go_ret2
    exact ⟨rfl, Below.refl _ _⟩
  by_cases hb : 0 ≤ b ∧ b ≤ 4294967295
  case neg =>
    have e : jnR a b n = (0, false) := if_neg (fun h => hb h.1.2)
    rw [e]
    go_enter Try.func15, Try.ntmps15
    go_wp2_with fail
    refine (has32_yes _ _ ha.1 ha.2).mono ?_
    rintro e w' ⟨rfl, rfl⟩
    go_wp2_with fail
    refine (has32_no _ _ (by omega)).mono ?_
    rintro e w' ⟨rfl, rfl⟩
    go_wp2
    go_ret2
    exact ⟨rfl, Below.refl _ _⟩
  by_cases hc : 0 ≤ n ∧ n ≤ 400
  case neg =>
    have e : jnR a b n = (0, false) := if_neg (fun h => hc h.2)
    rw [e]
    go_enter Try.func15, Try.ntmps15
    go_wp2_with fail
    refine (has32_yes _ _ ha.1 ha.2).mono ?_
    rintro e w' ⟨rfl, rfl⟩
    go_wp2_with fail
    refine (has32_yes _ _ hb.1 hb.2).mono ?_
    rintro e w' ⟨rfl, rfl⟩
    go_wp2_with fail
    refine (isSummed_no _ _ (by omega)).mono ?_
    rintro e w' ⟨rfl, rfl⟩
    go_wp2
    go_ret2
    exact ⟨rfl, Below.refl _ _⟩
  have e : jnR a b n = (((Crc.jn a.toNat b.toNat n.toNat : Nat) : Int), true) := if_pos ⟨⟨ha, hb⟩, hc⟩
  rw [e]
  clear e
  obtain ⟨A, rfl⟩ := Int.eq_ofNat_of_zero_le ha.1
  obtain ⟨B, rfl⟩ := Int.eq_ofNat_of_zero_le hb.1
  obtain ⟨N, rfl⟩ := Int.eq_ofNat_of_zero_le hc.1
  simp only [Int.toNat_natCast]
  have hA : A ≤ 4294967295 := by omega
  have hB : B ≤ 4294967295 := by omega
  have hN : N ≤ 400 := by omega
  have hy : Crc.sts (8 * N) A < 4294967296 := Crc.sts_lt _ (by omega)
  have HJ := hide (show Crc.jn A B N = Crc.sts (8 * N) A ^^^ B from rfl)
  have HR := hide (Crc.run_zeros A N)
  generalize Crc.sts (8 * N) A = y at hy HJ HR
  have hxor := u32_xor_nat y B hy (by omega)
  have hxl : y ^^^ B < 4294967296 := Nat.xor_lt_two_pow (n := 32) hy (by omega)
  go_enter Try.func15, Try.ntmps15
  go_wp2_with fail
  refine (has32_yes _ _ ha.1 ha.2).mono ?_
  rintro e w' ⟨rfl, rfl⟩
  go_wp2_with fail
  refine (has32_yes _ _ hb.1 hb.2).mono ?_
  rintro e w' ⟨rfl, rfl⟩
  go_wp2_with fail
  refine (isSummed_yes _ _ hc.1 hc.2).mono ?_
  rintro e w' ⟨rfl, rfl⟩
  go_wp2_with (at_make; refine wpList_make_bytes rfl _ _ rfl w.heap.size _ _ N rfl rfl (by omega) (by omega) (by omega) (Nat.le_refl _) ?_)
  intro w0 hown hgrow
  have HO := hide (rd_zero hown)
  have G := hide (grown_none hgrow)
  clear hgrow hown
  go_wp2_with fail
  refine (takeBytes_calls _ _ _ _ (by omega) HO.out (fun x hx => by rw [List.eq_of_mem_replicate hx]; decide) (by rw [List.length_replicate]; omega)).mono ?_
  rintro e w2 ⟨rfl, rfl⟩
  rw [HR.out]
  go_wp2
  go_ret2
  exact ⟨ret_two (by rw [HJ.out]) rfl, G.out⟩

set_option maxRecDepth 100000 in
set_option maxHeartbeats 800000 in
theorem sJoinSums_calls (a b n : Int) (w : World) :
    Calls Try.prog 20 #[.int .i64 a, .int .i64 b, .int .i64 n] w fun e w' => e = .returned (.tuple #[.int .i64 (jnR a b n).1, .bool (jnR a b n).2]) ∧ w = w' := by
  by_cases ha : 0 ≤ a ∧ a ≤ 4294967295
  case neg =>
    have e : jnR a b n = (0, false) := if_neg (fun h => ha h.1.1)
    rw [e]
    go_enter Try.func20, Try.ntmps20
    go_wp2_with fail
    refine (l5Sum_no _ _ (by omega)).mono ?_
    rintro e w' ⟨rfl, rfl⟩
    go_wp2
    go_ret2
    exact ⟨rfl, rfl⟩
  by_cases hb : 0 ≤ b ∧ b ≤ 4294967295
  case neg =>
    have e : jnR a b n = (0, false) := if_neg (fun h => hb h.1.2)
    rw [e]
    go_enter Try.func20, Try.ntmps20
    go_wp2_with fail
    refine (l5Sum_yes _ _ ha.1 ha.2).mono ?_
    rintro e w' ⟨rfl, rfl⟩
    go_wp2_with fail
    refine (l5Sum_no _ _ (by omega)).mono ?_
    rintro e w' ⟨rfl, rfl⟩
    go_wp2
    go_ret2
    exact ⟨rfl, rfl⟩
  by_cases hc : 0 ≤ n ∧ n ≤ 400
  case neg =>
    have e : jnR a b n = (0, false) := if_neg (fun h => hc h.2)
    rw [e]
    go_enter Try.func20, Try.ntmps20
    go_wp2_with fail
    refine (l5Sum_yes _ _ ha.1 ha.2).mono ?_
    rintro e w' ⟨rfl, rfl⟩
    go_wp2_with fail
    refine (l5Sum_yes _ _ hb.1 hb.2).mono ?_
    rintro e w' ⟨rfl, rfl⟩
    go_wp2_with fail
    refine (l1In_no _ _ _ _ (by omega)).mono ?_
    rintro e w' ⟨rfl, rfl⟩
    go_wp2
    go_ret2
    exact ⟨rfl, rfl⟩
  have e : jnR a b n = (((Crc.jn a.toNat b.toNat n.toNat : Nat) : Int), true) := if_pos ⟨⟨ha, hb⟩, hc⟩
  rw [e]
  clear e
  obtain ⟨A, rfl⟩ := Int.eq_ofNat_of_zero_le ha.1
  obtain ⟨B, rfl⟩ := Int.eq_ofNat_of_zero_le hb.1
  obtain ⟨N, rfl⟩ := Int.eq_ofNat_of_zero_le hc.1
  simp only [Int.toNat_natCast]
  have hA : A ≤ 4294967295 := by omega
  have hB : B ≤ 4294967295 := by omega
  have hN : N ≤ 400 := by omega
  go_enter Try.func20, Try.ntmps20
  go_wp2_with fail
  refine (l5Sum_yes _ _ ha.1 ha.2).mono ?_
  rintro e w' ⟨rfl, rfl⟩
  go_wp2_with fail
  refine (l5Sum_yes _ _ hb.1 hb.2).mono ?_
  rintro e w' ⟨rfl, rfl⟩
  go_wp2_with fail
  refine (l1In_yes _ _ _ _ hc.1 hc.2).mono ?_
  rintro e w' ⟨rfl, rfl⟩
  go_wp2
  go_loop [0, 2] (fun va vn => ∃ k m : Nat, k + m = N ∧ vn = .int .i64 m ∧ va = .int .i64 (Crc.sts (8 * k) A : Nat)) (fun _ vn => (intOf vn).toNat)
  case atStart => exact ⟨0, N, by omega, rfl, rfl⟩
  case round =>
    obtain ⟨k, m, hkm, rfl, rfl⟩ := hrel
    have hs := hide (show Crc.sts (8 * (k + 1)) A = Crc.sts 8 (Crc.sts (8 * k) A) by rw [show 8 * (k + 1) = 8 * k + 8 by omega, Crc.sts_add])
    have hy : Crc.sts (8 * k) A < 4294967296 := Crc.sts_lt _ (by omega)
    generalize hyy : Crc.sts (8 * k) A = y at hs hy ⊢
    have HY := hide hyy
    have KM := hide hkm
    have hm : m ≤ 400 := by omega
    clear hyy hkm
    by_cases hlt : 0 < m
    · have hlt' : (0 : Int) < (m : Int) := by omega
      go_wp2_with fail
      refine (l5Byte_calls _ _ hy).mono ?_
      rintro e w' ⟨rfl, rfl⟩
      go_wp2
      exact ⟨⟨k + 1, m - 1, by have := KM.out; omega, int_eq (by omega), int_eq (by rw [hs.out])⟩, by simp [intOf]; omega⟩
    · obtain rfl : m = 0 := by omega
      have hxor := i64_xor y B hy (by omega)
      have HX := hide hxor
      clear hxor
      go_wp2
      go_ret2
      refine ⟨ret_two ?_ rfl, rfl⟩
      have hk : k = N := by have := KM.out; omega
      unfold Crc.jn
      rw [← hk, HY.out]
      exact HX.out
theorem sJoinSums_below (a b n : Int) (w : World) :
    Calls Try.prog 20 #[.int .i64 a, .int .i64 b, .int .i64 n] w fun e w' => e = .returned (.tuple #[.int .i64 (jnR a b n).1, .bool (jnR a b n).2]) ∧ Below w.heap.size w w' :=
  (sJoinSums_calls a b n w).mono fun _ _ h => ⟨h.1, h.2 ▸ Below.refl _ _⟩
end Go.Proofs.Yteecnepmdniddaa

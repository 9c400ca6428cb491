/-
  A burst over a text's bits: the program's function and its model's, call by call. No condition but a bound on a text's length.
-/
import Derived.Test.YteecnepmdniddaaSumZ
namespace Go.Proofs.Yteecnepmdniddaa
open Go.RowKit

/-- Block g is a row of bytes, m places, that begins with these; it bears the mark of a text's bytes. -/
def BRow (w : World) (g m : Nat) (l : List Nat) : Prop :=
  ∃ C : Array Value, w.heap[g]? = some (.cells C 5 (m, m + 1)) ∧ l.length ≤ m ∧ C.size = m ∧ ∀ i, i < l.length → C[i]? = some (.int .u8 (l.getD i 0 : Nat))
theorem BRow.lt {w : World} {g m : Nat} {l : List Nat} (h : BRow w g m l) : g < w.heap.size := by
  obtain ⟨C, h1, _⟩ := h
  exact (Array.getElem?_eq_some_iff.1 h1).1
theorem BRow.cell {w : World} {g m : Nat} {l : List Nat} (h : BRow w g m l) (i : Nat) (hi : i < l.length) : w.cell? ⟨g, i, none⟩ = some (.int .u8 (l.getD i 0 : Nat)) := by
  obtain ⟨C, h1, _, _, h4⟩ := h
  rw [cell_of_row w g i C _ _ h1]
  exact h4 i hi
theorem BRow.frozen {w : World} {g m : Nat} {l : List Nat} (h : BRow w g m l) (i : Nat) (hi : i < l.length) : w.frozen? ⟨g, i, none⟩ = false := by
  obtain ⟨C, h1, h2, _⟩ := h
  simp [World.frozen?, h1]
  omega
theorem BRow.set {w : World} {g m : Nat} {l : List Nat} (h : BRow w g m l) (i v : Nat) : BRow (w.setCell ⟨g, i, none⟩ (.int .u8 (v : Nat))) g m (l.set i v) := by
  obtain ⟨C, h1, h2, h3, h4⟩ := h
  refine ⟨C.setIfInBounds i (.int .u8 (v : Nat)), ?_, by rw [List.length_set]; exact h2, by simpa using h3, fun j hj => ?_⟩
  · simp [World.setCell, Array.getElem?_modify, h1]
  · rw [List.length_set] at hj
    have e := h4 j hj
    rw [Array.getElem?_setIfInBounds, List.getD_eq_getElem?_getD, List.getElem?_set]
    by_cases hij : i = j
    · subst hij
      have hlt : i < C.size := by omega
      simp [hj, hlt]
    · rw [if_neg hij, if_neg hij, e, List.getD_eq_getElem?_getD]
theorem BRow.drew {w : World} {g m : Nat} {l : List Nat} (h : BRow w g m l) : BRow w.drew g m l := h
theorem BRow.rd {w : World} {g m : Nat} {l : List Nat} (h : BRow w g m l) : RdL w (.slice (some ⟨g, 0, none⟩) l.length m) l :=
  ⟨_, m, rfl, by obtain ⟨C, h1, h2, _⟩ := h; exact h2, .inr ⟨g, 0, rfl, h.lt, fun i hi => by rw [Nat.zero_add]; exact h.cell i hi⟩⟩
theorem bytesW_row (s : ByteArray) (w : World) : BRow (bytesW s w) w.heap.size (bytesC s w) (bs s) := by
  have hsz : (bytesRow s (bytesC s w)).size = bytesC s w := by
    have := bytesC_ge s w
    unfold bytesRow
    simp
    have e : s.data.size = s.size := rfl
    omega
  refine ⟨bytesRow s (bytesC s w), ?_, by rw [bs_length]; exact bytesC_ge s w, hsz, fun i hi => ?_⟩
  · have e : (bytesW s w).heap[w.heap.size]? = some (.cells (bytesRow s (bytesC s w)) 5 ((bytesRow s (bytesC s w)).size, (bytesRow s (bytesC s w)).size + 1)) := by
      show (w.heap.push _)[w.heap.size]? = _
      simp only [Array.getElem?_push_size]
      rfl
    rw [e, hsz]
  · rw [bs_length] at hi
    rw [bytesRow_at s _ i hi, bs_getD s i hi]
/-- The text with these bytes. -/
def ofN (l : List Nat) : ByteArray := ⟨(l.map UInt8.ofNat).toArray⟩
theorem ofN_size (l : List Nat) : (ofN l).size = l.length := by
  show (l.map UInt8.ofNat).toArray.size = _
  rw [List.size_toArray, List.length_map]
theorem map_ofNat {l : List Nat} (h : ∀ b ∈ l, b < 256) : (l.map UInt8.ofNat).map UInt8.toNat = l := by
  rw [List.map_map]
  conv => rhs; rw [← List.map_id l]
  refine List.map_congr_left fun b hb => ?_
  show (UInt8.ofNat b).toNat = b
  rw [UInt8.toNat_ofNat']
  exact Nat.mod_eq_of_lt (h b hb)
theorem bs_ofN {l : List Nat} (h : ∀ b ∈ l, b < 256) : bs (ofN l) = l := by
  unfold bs ofN
  exact map_ofNat h
theorem ofN_bs (s : ByteArray) : ofN (bs s) = s := by
  obtain ⟨⟨d⟩⟩ := s
  unfold ofN bs
  have e : (d.map UInt8.toNat).map UInt8.ofNat = d := by
    rw [List.map_map]
    conv => rhs; rw [← List.map_id d]
    refine List.map_congr_left fun b _ => ?_
    show UInt8.ofNat b.toNat = b
    simp
  show ByteArray.mk ((d.map UInt8.toNat).map UInt8.ofNat).toArray = _
  rw [e]
theorem conv_row {w : World} {g m n : Nat} {l : List Nat} (h : BRow w g m l) (hl : ∀ b ∈ l, b < 256) (hn : l.length = n) :
    (convert 22 9 (.slice (some ⟨g, 0, none⟩) n m)).run Try.prog w = .ok (.string (ofN l)) w := by
  have := run_convert_bytes_back (P := Try.prog) w 22 9 5 ⟨g, 0, none⟩ m (l.map UInt8.ofNat) Try.underlying22 Try.underlying5 Try.underlying9 (fun j hj => by
    have hj' : j < l.length := by simpa using hj
    have hadd : (⟨g, 0, none⟩ : Addr).add j = ⟨g, 0 + j, none⟩ := by unfold Addr.add; split <;> simp_all
    rw [hadd, Nat.zero_add, h.cell j hj', List.getD_eq_getElem?_getD, List.getElem?_eq_getElem hj', List.getElem_map, Option.getD_some]
    rw [UInt8.toNat_ofNat', Nat.mod_eq_of_lt (hl _ (List.getElem_mem hj'))])
  rw [List.length_map, hn] at this
  exact this

theorem burst_byte {z y k : Nat} (hz : z < 256) : bits .xor .u8 (z : Int) (wrap64 ((y : Int) % 2 * 2 ^ (k % 8)) % 256) = ((z ^^^ y % 2 * 2 ^ (k % 8) : Nat) : Int) := by
  have h1 := Crc.bit_small y k
  have e : (y : Int) % 2 * 2 ^ (k % 8) = ((y % 2 * 2 ^ (k % 8) : Nat) : Int) := by
    rw [Int.natCast_mul, Int.natCast_pow]
    rfl
  rw [e]
  generalize y % 2 * 2 ^ (k % 8) = c at h1 ⊢
  have e2 : wrap64 (c : Int) % 256 = (c : Int) := by
    unfold wrap64
    omega
  rw [e2]
  exact u8_xor_nat z c hz h1
theorem sburst_byte {z j : Nat} (hz : z < 256) : bits .xor .u8 (z : Int) (2 ^ (j % 8) % 256) = ((z ^^^ 2 ^ (j % 8) : Nat) : Int) := by
  have h1 : 2 ^ (j % 8) ≤ 2 ^ 7 := Nat.pow_le_pow_right (by omega) (by omega)
  have e : (2 : Int) ^ (j % 8) = ((2 ^ (j % 8) : Nat) : Int) := by
    rw [Int.natCast_pow]
    rfl
  rw [e]
  generalize 2 ^ (j % 8) = c at h1 ⊢
  rw [show (c : Int) % 256 = (c : Int) by omega]
  exact u8_xor_nat z c hz (by omega)
theorem sbit_odd {X k : Nat} (hX : X ≤ 4294967295) (h : (bits .and .i64 ((X : Int) / 2 ^ k) 1 == 1) = true) : X / 2 ^ k % 2 = 1 := by
  have e : (X : Int) / 2 ^ k = ((X / 2 ^ k : Nat) : Int) := by rw [Int.natCast_ediv, Int.natCast_pow]; rfl
  have hl : X / 2 ^ k < 4294967296 := Nat.lt_of_le_of_lt (Nat.div_le_self _ _) (by omega)
  rw [e, i64_and1 _ hl] at h
  simp at h
  omega
theorem sbit_even {X k : Nat} (hX : X ≤ 4294967295) (h : (bits .and .i64 ((X : Int) / 2 ^ k) 1 == 1) = false) : X / 2 ^ k % 2 = 0 := by
  have e : (X : Int) / 2 ^ k = ((X / 2 ^ k : Nat) : Int) := by rw [Int.natCast_ediv, Int.natCast_pow]; rfl
  have hl : X / 2 ^ k < 4294967296 := Nat.lt_of_le_of_lt (Nat.div_le_self _ _) (by omega)
  rw [e, i64_and1 _ hl] at h
  simp at h
  omega
theorem ret_text {a b : ByteArray} {c d : Bool} (h : a = b) (h' : c = d) : Ending.returned (.tuple #[.string a, .bool c]) = .returned (.tuple #[.string b, .bool d]) := by rw [h, h']
theorem bl_step {l T : List Nat} {k y n : Nat} (h : Crc.bl l k y (n - k) = T) (hk : k < n) : Crc.bl (Crc.xb l (k / 8) (y % 2 * 2 ^ (k % 8))) (k + 1) (y / 2) (n - (k + 1)) = T := by
  rw [show n - k = n - (k + 1) + 1 by omega, Crc.bl] at h
  exact h
theorem sbl_step {l T : List Nat} {P k X n : Nat} (h : Crc.bl l (P + k) (X / 2 ^ k) (n - (P + k)) = T) (hk : P + k < n) : Crc.bl (Crc.xb l ((P + k) / 8) (X / 2 ^ k % 2 * 2 ^ ((P + k) % 8))) (P + (k + 1)) (X / 2 ^ (k + 1)) (n - (P + (k + 1))) = T := by
  have := bl_step h hk
  rw [Nat.div_div_eq_div_mul, ← Nat.pow_succ] at this
  exact this
/-- A text with a burst over it, and whether there can be one. -/
def burstR (s : ByteArray) (p x : Int) : ByteArray × Bool :=
  if (s.size ≤ 400 ∧ 0 ≤ p ∧ p < 8 * (s.size : Int)) ∧ (0 ≤ x ∧ x ≤ 4294967295) then (ofN (Crc.burst (bs s) p.toNat x.toNat), true) else (⟨#[]⟩, false)

set_option maxRecDepth 100000 in
set_option maxHeartbeats 1600000 in
theorem burstAt_calls (s : ByteArray) (p x : Int) (w : World) (hs : s.size ≤ maxLen) :
    Calls Try.prog 25 #[.string s, .int .i64 p, .int .i64 x] w fun e w' => e = .returned (.tuple #[.string (burstR s p x).1, .bool (burstR s p x).2]) ∧ Below w.heap.size w w' := by
  unfold maxLen at hs
  by_cases hl : s.size ≤ 400
  case neg =>
    have e : burstR s p x = (⟨#[]⟩, false) := if_neg (fun h => hl h.1.1)
    rw [e]
    go_enter Try.func25, Try.ntmps25
    go_wp2
    go_ret2
    exact ⟨rfl, Below.refl _ _⟩
  by_cases hp0 : 0 ≤ p
  case neg =>
    have e : burstR s p x = (⟨#[]⟩, false) := if_neg (fun h => hp0 h.1.2.1)
    rw [e]
    go_enter Try.func25, Try.ntmps25
    go_wp2
    go_ret2
    exact ⟨rfl, Below.refl _ _⟩
  by_cases hp : p < 8 * (s.size : Int)
  case neg =>
    have e : burstR s p x = (⟨#[]⟩, false) := if_neg (fun h => hp h.1.2.2)
    rw [e]
    go_enter Try.func25, Try.ntmps25
    go_wp2
    go_ret2
    exact ⟨rfl, Below.refl _ _⟩
  by_cases hx : 0 ≤ x ∧ x ≤ 4294967295
  case neg =>
    have e : burstR s p x = (⟨#[]⟩, false) := if_neg (fun h => hx h.2)
    rw [e]
    go_enter Try.func25, Try.ntmps25
    go_wp2_with fail
    refine (has32_no _ _ (by omega)).mono ?_
    rintro e w' ⟨rfl, rfl⟩
    go_wp2
    go_ret2
    exact ⟨rfl, Below.refl _ _⟩
  have e : burstR s p x = (ofN (Crc.burst (bs s) p.toNat x.toNat), true) := if_pos ⟨⟨hl, hp0, hp⟩, hx⟩
  rw [e]
  clear e
  obtain ⟨P, rfl⟩ := Int.eq_ofNat_of_zero_le hp0
  obtain ⟨X, rfl⟩ := Int.eq_ofNat_of_zero_le hx.1
  simp only [Int.toNat_natCast]
  have hP : P < 8 * s.size := by omega
  have hX : X ≤ 4294967295 := by omega
  have hcv := conv_bytes s
  obtain ⟨T, hT⟩ : ∃ T, T = Crc.burst (bs s) P X := ⟨_, rfl⟩
  have HT := hide hT
  rw [← hT]
  clear hT
  have M := hide (bytesW_row s w)
  have G0 := hide (bytesW_below s w)
  go_enter Try.func25, Try.ntmps25
  go_wp2_with fail
  refine (has32_yes _ _ hx.1 hx.2).mono ?_
  rintro e w' ⟨rfl, rfl⟩
  go_wp2
  go_loopw [2, 9] (fun vx vk wr => ∃ (k x : Nat) (l : List Nat), vx = .int .i64 x ∧ vk = .int .i64 k ∧ k ≤ 8 * s.size ∧ x ≤ 4294967295 ∧ l.length = s.size ∧ (∀ b ∈ l, b < 256) ∧ BRow wr w.heap.size (bytesC s w) l ∧ Crc.bl l k x (8 * s.size - k) = T ∧ Below w.heap.size w wr) (fun _ vk _ => 8 * s.size - (intOf vk).toNat)
  case atStart => exact ⟨P, X, bs s, rfl, rfl, by omega, by omega, bs_length s, bs_lt s, M.out, by rw [HT.out]; unfold Crc.burst; rw [bs_length], G0.out⟩
  case round =>
    obtain ⟨k, y, l, rfl, rfl, hk, hy, hll, hsm, hrow, hbl, hb⟩ := hrel
    by_cases hlt : 0 < y ∧ k < 8 * s.size
    · obtain ⟨hy0, hk8⟩ := hlt
      have HL := hide hll
      have hy0' : (0 : Int) < (y : Int) := by omega
      have hk8' : (k : Int) < 8 * (s.size : Int) := by omega
      have i1 : k / 8 < l.length := by omega
      have hc1 := hrow.cell (k / 8) i1
      have hc2 := hrow.frozen (k / 8) i1
      obtain ⟨z, hz⟩ : ∃ z, z = l.getD (k / 8) 0 := ⟨_, rfl⟩
      have hz256 : z < 256 := by rw [hz]; exact getD_lt hsm _
      rw [← hz] at hc1
      have HZ := hide hz
      have HR := hide hrow
      have HB := hide hbl
      have HS := hide hsm
      have HW := hide hb
      have e1 : ((k : Int) / 8).toNat = k / 8 := by omega
      have i2 : (k : Int) / 8 < (s.size : Int) := by omega
      have i3 : (0 : Int) ≤ (k : Int) / 8 := by omega
      have i4 : (0 : Int) ≤ (k : Int) % 8 := by omega
      clear hz hrow hbl hsm hb hll
      go_wp2
      go_region
      go_wp2
      go_roundw
      case rel =>
        refine ⟨k + 1, y / 2, Crc.xb l (k / 8) (y % 2 * 2 ^ (k % 8)), int_eq (by omega), int_eq (by omega), by omega, by omega, by rw [Crc.xb_length, HL.out], Crc.xb_small HS.out (Crc.bit_small _ _), ?_, bl_step HB.out (by omega), (HW.out.setCell (Nat.le_refl _) _).drew⟩
        rw [burst_byte hz256]
        have := HR.out.set (k / 8) (z ^^^ y % 2 * 2 ^ (k % 8))
        rw [HZ.out] at this
        rw [HZ.out]
        exact this.drew
      case measure => simp [intOf]; omega
    · have hcr := conv_row hrow hsm hll
      have HB := hide hbl
      have HW := hide hb
      have HL := hide hll
      clear hrow hbl hb hsm hll
      have hT : T = l := by
        by_cases h0 : 0 < y
        · have h8 : k = 8 * s.size := by omega
          have := HB.out
          rw [h8, Nat.sub_self] at this
          exact this.symm
        · have h0 : y = 0 := by omega
          have := HB.out
          rw [h0, Crc.bl_none] at this
          exact this.symm
      have HT2 := hide hT
      clear hT
      by_cases h0 : 0 < y
      · have h0' : (0 : Int) < (y : Int) := by omega
        have h8 : ¬ (k : Int) < 8 * (s.size : Int) := by omega
        go_wp2
        go_ret2
        exact ⟨ret_text (by rw [HT2.out]) rfl, HW.out⟩
      · have h0' : ¬ (0 : Int) < (y : Int) := by omega
        go_wp2
        go_ret2
        exact ⟨ret_text (by rw [HT2.out]) rfl, HW.out⟩

set_option maxRecDepth 100000 in
set_option maxHeartbeats 1600000 in
theorem sBurstAt_calls (s : ByteArray) (p x : Int) (w : World) (hs : s.size ≤ maxLen) :
    Calls Try.prog 26 #[.string s, .int .i64 p, .int .i64 x] w fun e w' => e = .returned (.tuple #[.string (burstR s p x).1, .bool (burstR s p x).2]) ∧ Below w.heap.size w w' := by
  unfold maxLen at hs
  by_cases hl : s.size ≤ 400
  case neg =>
    have e : burstR s p x = (⟨#[]⟩, false) := if_neg (fun h => hl h.1.1)
    rw [e]
    go_enter Try.func26, Try.ntmps26
    go_wp2
    go_ret2
    exact ⟨rfl, Below.refl _ _⟩
  by_cases hp0 : 0 ≤ p
  case neg =>
    have e : burstR s p x = (⟨#[]⟩, false) := if_neg (fun h => hp0 h.1.2.1)
    rw [e]
    go_enter Try.func26, Try.ntmps26
    go_wp2
    go_ret2
    exact ⟨rfl, Below.refl _ _⟩
  by_cases hp : p < 8 * (s.size : Int)
  case neg =>
    have e : burstR s p x = (⟨#[]⟩, false) := if_neg (fun h => hp h.1.2.2)
    rw [e]
    go_enter Try.func26, Try.ntmps26
    go_wp2
    go_ret2
    exact ⟨rfl, Below.refl _ _⟩
  by_cases hx : 0 ≤ x ∧ x ≤ 4294967295
  case neg =>
    have e : burstR s p x = (⟨#[]⟩, false) := if_neg (fun h => hx h.2)
    rw [e]
    go_enter Try.func26, Try.ntmps26
    go_wp2_with fail
    refine (l5Sum_no _ _ (by omega)).mono ?_
    rintro e w' ⟨rfl, rfl⟩
    go_wp2
    go_ret2
    exact ⟨rfl, Below.refl _ _⟩
  have e : burstR s p x = (ofN (Crc.burst (bs s) p.toNat x.toNat), true) := if_pos ⟨⟨hl, hp0, hp⟩, hx⟩
  rw [e]
  clear e
  obtain ⟨P, rfl⟩ := Int.eq_ofNat_of_zero_le hp0
  obtain ⟨X, rfl⟩ := Int.eq_ofNat_of_zero_le hx.1
  simp only [Int.toNat_natCast]
  have hP : P < 8 * s.size := by omega
  have hX : X ≤ 4294967295 := by omega
  have hcv := conv_bytes s
  obtain ⟨T, hT⟩ : ∃ T, T = Crc.burst (bs s) P X := ⟨_, rfl⟩
  have HT := hide hT
  rw [← hT]
  clear hT
  have M := hide (bytesW_row s w)
  have G0 := hide (bytesW_below s w)
  go_enter Try.func26, Try.ntmps26
  go_wp2_with fail
  refine (l5Sum_yes _ _ hx.1 hx.2).mono ?_
  rintro e w' ⟨rfl, rfl⟩
  go_wp2
  go_loopw [9] (fun vk wr => ∃ (k : Nat) (l : List Nat), vk = .int .i64 k ∧ P + k ≤ 8 * s.size ∧ k ≤ 32 ∧ l.length = s.size ∧ (∀ b ∈ l, b < 256) ∧ BRow wr w.heap.size (bytesC s w) l ∧ Crc.bl l (P + k) (X / 2 ^ k) (8 * s.size - (P + k)) = T ∧ Below w.heap.size w wr) (fun vk _ => 32 - (intOf vk).toNat)
  case atStart => exact ⟨0, bs s, rfl, by omega, by omega, bs_length s, bs_lt s, M.out, by rw [HT.out]; unfold Crc.burst; rw [bs_length, Nat.pow_zero, Nat.div_one, Nat.add_zero], G0.out⟩
  case round =>
    obtain ⟨k, l, rfl, hk, hk32, hll, hsm, hrow, hbl, hb⟩ := hrel
    by_cases hlt : k < 32 ∧ P + k < 8 * s.size
    · obtain ⟨hy0, hk8⟩ := hlt
      have HL := hide hll
      have hy0' : (k : Int) < 32 := by omega
      have hk8' : (P : Int) + (k : Int) < 8 * (s.size : Int) := by omega
      have i1 : (P + k) / 8 < l.length := by omega
      have hc1 := hrow.cell ((P + k) / 8) i1
      have hc2 := hrow.frozen ((P + k) / 8) i1
      obtain ⟨z, hz⟩ : ∃ z, z = l.getD ((P + k) / 8) 0 := ⟨_, rfl⟩
      have hz256 : z < 256 := by rw [hz]; exact getD_lt hsm _
      rw [← hz] at hc1
      have HZ := hide hz
      have HR := hide hrow
      have HB := hide hbl
      have HS := hide hsm
      have HW := hide hb
      have e1 : (((P : Int) + (k : Int)) / 8).toNat = (P + k) / 8 := by omega
      have i2 : ((P : Int) + (k : Int)) / 8 < (s.size : Int) := by omega
      have i3 : (0 : Int) ≤ ((P : Int) + (k : Int)) / 8 := by omega
      have i4 : (0 : Int) ≤ ((P : Int) + (k : Int)) % 8 := by omega
      clear hz hrow hbl hsm hb hll
      go_wp2
      · have h2 := sbit_odd hX ‹_›
        have st := sbl_step HB.out hk8
        rw [h2, Nat.one_mul] at st
        refine ⟨⟨k + 1, _, int_eq (by omega), by omega, by omega, ?_, ?_, ?_, st, HW.out.setCell (Nat.le_refl _) _⟩, by simp [intOf]; omega⟩
        · rw [Crc.xb_length, HL.out]
        · exact Crc.xb_small HS.out (by have := Crc.bit_small 1 (P + k); omega)
        · rw [sburst_byte hz256]
          have := HR.out.set ((P + k) / 8) (z ^^^ 2 ^ ((P + k) % 8))
          rw [HZ.out] at this
          rw [HZ.out]
          exact this
      · have h2 := sbit_even hX ‹_›
        have st := sbl_step HB.out hk8
        rw [h2, Nat.zero_mul, Crc.xb_zero] at st
        exact ⟨⟨k + 1, l, int_eq (by omega), by omega, by omega, HL.out, HS.out, HR.out, st, HW.out⟩, by simp [intOf]; omega⟩
    · have hcr := conv_row hrow hsm hll
      have HB := hide hbl
      have HW := hide hb
      have HL := hide hll
      clear hrow hbl hb hsm hll
      have hT : T = l := by
        by_cases h0 : k < 32
        · have h8 : P + k = 8 * s.size := by omega
          have := HB.out
          rw [h8, Nat.sub_self] at this
          exact this.symm
        · have h0 : k = 32 := by omega
          have := HB.out
          rw [h0, Nat.div_eq_of_lt (by omega), Crc.bl_none] at this
          exact this.symm
      have HT2 := hide hT
      clear hT
      by_cases h0 : k < 32
      · have h0' : (k : Int) < 32 := by omega
        have h8 : ¬ (P : Int) + (k : Int) < 8 * (s.size : Int) := by omega
        go_wp2
        go_ret2
        exact ⟨ret_text (by rw [HT2.out]) rfl, HW.out⟩
      · have h0' : ¬ (k : Int) < 32 := by omega
        go_wp2
        go_ret2
        exact ⟨ret_text (by rw [HT2.out]) rfl, HW.out⟩
end Go.Proofs.Yteecnepmdniddaa

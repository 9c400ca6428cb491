/-
  Bytes that rot: the model's function on a text, call by call. The contract says what it asks.
-/
import Derived.Test.YtnjpkfgljabdaaaDac
namespace Go.Proofs.Ytnjpkfgljabdaaa
open Go.RowKit
set_option linter.unusedVariables false

/-- The first k bytes are changed. -/
def rotK (l m : List Nat) : Nat → List Nat
  | 0 => l
  | k + 1 => (rotK l m k).set k (l.getD k 0 ^^^ m.getD k 0)
theorem rotK_len (l m : List Nat) : ∀ k, (rotK l m k).length = l.length
  | 0 => rfl
  | k + 1 => by rw [rotK, List.length_set]; exact rotK_len l m k
theorem rotK_at (l m : List Nat) : ∀ k i, k ≤ i → (rotK l m k).getD i 0 = l.getD i 0
  | 0, _, _ => rfl
  | k + 1, i, h => by
    rw [rotK, List.getD_eq_getElem?_getD, List.getElem?_set_ne (by omega), ← List.getD_eq_getElem?_getD]
    exact rotK_at l m k i (by omega)
theorem rotK_small {l m : List Nat} (hl : ∀ b ∈ l, b < 256) (hm : ∀ b ∈ m, b < 256) : ∀ k, ∀ b ∈ rotK l m k, b < 256
  | 0 => hl
  | k + 1 => by
    intro b hb
    rcases List.mem_or_eq_of_mem_set hb with h | h
    · exact rotK_small hl hm k b h
    · rw [h]
      exact Nat.xor_lt_two_pow (n := 8) (getD_lt hl k) (getD_lt hm k)
/-- A text of which the first bytes are changed by a mask's. -/
def rotT (s m : ByteArray) : ByteArray := ofN (rotK (bs s) (bs m) m.size)
theorem rotT_size (s m : ByteArray) : (rotT s m).size = s.size := by
  unfold rotT
  rw [ofN_size, rotK_len, bs_length]

set_option maxRecDepth 100000 in
set_option maxHeartbeats 800000 in
theorem l7Rot_calls (s m : ByteArray) (w : World) (hs : s.size ≤ 28) (hm : m.size ≤ s.size) :
    Calls Try.prog 72 #[.string s, .string m] w fun e w' => e = .returned (.string (rotT s m)) ∧ Below w.heap.size w w' := by
  have hcv := conv_bytes s
  have M := hide (bytesW_row s w)
  have G0 := hide (bytesW_below s w)
  go_enter Try.func72, Try.ntmps72
  go_wp2
  go_loopw [6] (fun vi wr => ∃ k : Nat, k ≤ m.size ∧ vi = .int .i64 k ∧ BRow wr w.heap.size (bytesC s w) (rotK (bs s) (bs m) k) ∧ Below w.heap.size w wr) (fun vi _ => m.size - (intOf vi).toNat)
  case atStart => exact ⟨0, Nat.zero_le _, rfl, M.out, G0.out⟩
  case round =>
    obtain ⟨k, hk, rfl, hrow, hb⟩ := hrel
    by_cases hlt : k < m.size
    · have hlen : (rotK (bs s) (bs m) k).length = s.size := by rw [rotK_len, bs_length]
      have hc1 := hrow.cell k (by omega)
      have hc2 := hrow.frozen k (by omega)
      rw [rotK_at (bs s) (bs m) k k (Nat.le_refl _)] at hc1
      have ST : Hid (rotK (bs s) (bs m) (k + 1) = (rotK (bs s) (bs m) k).set k ((bs s).getD k 0 ^^^ (bs m).getD k 0)) := rfl
      have hmk : (bs m).getD k 0 = m[k].toNat := bs_getD m k hlt
      rw [hmk] at ST
      have hx : (bs s).getD k 0 < 256 := getD_lt (bs_lt s) k
      have hy : m[k].toNat < 256 := m[k].toNat_lt
      have hst := hrow.set k ((bs s).getD k 0 ^^^ m[k].toNat)
      generalize (bs s).getD k 0 = x at hc1 ST hx hst
      have XX := hide (u8_xor_nat x m[k].toNat hx hy)
      have HS := hide hst
      have HB := hide hb
      have hlt' : (k : Int) < (m.size : Int) := by omega
      have hlts : (k : Int) < (s.size : Int) := by omega
      clear hlen hmk hst hrow hb hy
      go_wp2
      go_region
      go_wp2
      refine ⟨⟨k + 1, by omega, by go_num, ?_, (HB.out.setCell (p := ⟨w.heap.size, k, none⟩) (Nat.le_refl _) _).drew⟩, by simp [intOf]; omega⟩
      rw [XX.out, ST.out]
      exact HS.out.drew
    · obtain rfl : k = m.size := by omega
      have hcr := conv_row hrow (rotK_small (bs_lt s) (bs_lt m) _) (n := s.size) (by rw [rotK_len, bs_length])
      have HB := hide hb
      clear hrow hb
      go_wp2
      go_ret
      exact ⟨rfl, HB.out⟩

/-- The plate of a sector may rot so. -/
def roOk (P H : List ByteArray) (k : Nat) (T : ByteArray) : Prop := H.getD k ⟨#[]⟩ = ⟨#[]⟩ ∧ 1 ≤ T.size ∧ T.size ≤ (P.getD k ⟨#[]⟩).size

set_option maxRecDepth 100000 in
set_option maxHeartbeats 1600000 in
theorem rotPlate_calls (p h b : Value) (P H : List ByteArray) (B : List Bool) (lo hi n k : Nat) (T : ByteArray) (y : Bool) (w : World) (d : DskV w lo hi p h b P H B) (hhi : hi ≤ w.heap.size) (hP : P.length = n) (hH : H.length = n) (hB : B.length = n) (hn : 0 < n ∧ n ≤ 24) (hk : k < n) (hT : T.size ≤ 1048576)
    (h28 : (P.getD k ⟨#[]⟩).size ≤ 28) (hy : y = true ↔ roOk P H k T) :
    Calls Try.prog 76 #[.agg #[p, h, b], .int .i64 (k : Int), .string T] w fun e w' => e = .returned (.bool y) ∧ (y = true → DskV w' lo hi p h b (P.set k (rotT (P.getD k ⟨#[]⟩) T)) H B) ∧ Chg lo hi w w' := by
  obtain ⟨gp, cp, gh, ch, gb, cb, rfl, rfl, rfl, n1, n2, n3, ⟨t1, t2, t3⟩, _⟩ := d.blocks hP hH hB hn.1
  have HY : Hid (y = true ↔ (H.getD k ⟨#[]⟩ = ⟨#[]⟩ ∧ 1 ≤ T.size ∧ T.size ≤ (P.getD k ⟨#[]⟩).size)) := hy
  obtain ⟨W1, e1⟩ : ∃ W1, W1 = w.alloc (.cells #[.slice (some ⟨gp, 0, none⟩) n cp, .slice (some ⟨gh, 0, none⟩) n ch, .slice (some ⟨gb, 0, none⟩) n cb] 25) := ⟨_, rfl⟩
  have s1 : W1.heap.size = w.heap.size + 1 := by rw [e1]; simp
  have b1 : Below w.heap.size w W1 := by rw [e1]; exact below_box _ _
  have x1 : BoxAt W1 w.heap.size #[.slice (some ⟨gp, 0, none⟩) n cp, .slice (some ⟨gh, 0, none⟩) n ch, .slice (some ⟨gb, 0, none⟩) n cb] 25 := by rw [e1]; exact BoxAt.new _ _ _
  have d1 := d.below b1
  have E1 := hide e1.symm
  have C1 := hide (Chg.ofBelow (lo := lo) (hi := hi) b1)
  have X1 := hide x1
  have D1 := hide d1
  have LP := hide hP
  have hk' : (k : Int) < (n : Int) := by omega
  obtain ⟨hp1, _⟩ := d1.cellP hP k hk
  obtain ⟨hh1, _⟩ := d1.cellH hH k hk
  obtain ⟨c0, c1, c2⟩ := x1.c3
  have eN : (w.alloc (.cells #[.slice (some ⟨gp, 0, none⟩) n cp, .slice (some ⟨gh, 0, none⟩) n ch, .slice (some ⟨gb, 0, none⟩) n cb] 25)).heap.size = w.heap.size + 1 := by simp
  rw [e1] at hp1 hh1
  clear hy d d1 b1 x1 hP hH hB c0 c1 c2
  generalize P.getD k ⟨#[]⟩ = s at *
  generalize H.getD k ⟨#[]⟩ = z at *
  by_cases hz : z.size = 0
  case neg =>
    obtain ⟨zz1, zz2⟩ := toList_ne (z := z) (fun e => hz (by rw [e]; rfl))
    have e0 : Hid (y = false) := by
      show y = false
      cases y with
      | false => rfl
      | true => exact absurd (by rw [(HY.out.1 rfl).1]; rfl) hz
    clear hz eN e1
    go_enter Try.func76, Try.ntmps76
    go_wp2
    go_ret
    exact ⟨ret_bool e0.out.symm, fun h => by rw [e0.out] at h; simp at h, by rw [E1.out]; exact C1.out⟩
  have hzz := size_zero hz
  subst hzz
  clear hz
  by_cases hT0 : T.size = 0
  · have hTT := size_zero hT0
    subst hTT
    have e0 : Hid (y = false) := by
      show y = false
      cases y with
      | false => rfl
      | true => exact absurd (HY.out.1 rfl).2.1 (by decide)
    clear hT0 eN e1
    go_enter Try.func76, Try.ntmps76
    go_wp2
    go_ret
    exact ⟨ret_bool e0.out.symm, fun h => by rw [e0.out] at h; simp at h, by rw [E1.out]; exact C1.out⟩
  obtain ⟨tt1, tt2⟩ := toList_ne (z := T) (fun e => hT0 (by rw [e]; rfl))
  by_cases hTs : T.size ≤ s.size
  case neg =>
    have u1 : (s.size : Int) < (T.size : Int) := by omega
    have e0 : Hid (y = false) := by
      show y = false
      cases y with
      | false => rfl
      | true => exact absurd (HY.out.1 rfl).2.2 hTs
    clear hT0 eN e1 hTs
    go_enter Try.func76, Try.ntmps76
    go_wp2
    go_ret
    exact ⟨ret_bool e0.out.symm, fun h => by rw [e0.out] at h; simp at h, by rw [E1.out]; exact C1.out⟩
  have u1 : ¬ (s.size : Int) < (T.size : Int) := by omega
  have e0 : Hid (y = true) := HY.out.2 ⟨rfl, by omega, hTs⟩
  clear HY
  have hcv := conv_bytes s
  have M := bytesW_row s W1
  have G0 := bytesW_below s W1
  have M0 := hide M
  have G1 := hide G0
  have S1 := hide s1
  clear M G0 s1 e1 hT0
  go_enter Try.func76, Try.ntmps76
  go_wp2
  rw [E1.out]
  clear hp1 hh1
  go_loopw [8, 38] (fun _ vi wr => ∃ j : Nat, j ≤ T.size ∧ vi = .int .i64 j ∧ BRow wr (w.heap.size + 1) (bytesC s W1) (rotK (bs s) (bs T) j) ∧ Below W1.heap.size W1 wr) (fun _ vi _ => T.size - (intOf vi).toNat)
  case atStart => exact ⟨0, Nat.zero_le _, rfl, by rw [← S1.out]; exact M0.out, G1.out⟩
  case round =>
    obtain ⟨j, hj, rfl, hrow, hb⟩ := hrel
    by_cases hlt : j < T.size
    · have hlen : (rotK (bs s) (bs T) j).length = s.size := by rw [rotK_len, bs_length]
      have hc1 := hrow.cell j (by omega)
      have hc2 := hrow.frozen j (by omega)
      rw [rotK_at (bs s) (bs T) j j (Nat.le_refl _)] at hc1
      have ST : Hid (rotK (bs s) (bs T) (j + 1) = (rotK (bs s) (bs T) j).set j ((bs s).getD j 0 ^^^ (bs T).getD j 0)) := rfl
      have hmk : (bs T).getD j 0 = T[j].toNat := bs_getD T j hlt
      rw [hmk] at ST
      have hx : (bs s).getD j 0 < 256 := getD_lt (bs_lt s) j
      have hy : T[j].toNat < 256 := T[j].toNat_lt
      have hst := hrow.set j ((bs s).getD j 0 ^^^ T[j].toNat)
      generalize (bs s).getD j 0 = x at hc1 ST hx hst
      have XX := hide (u8_xor_nat x T[j].toNat hx hy)
      have HS := hide hst
      have HB := hide hb
      have hlt' : (j : Int) < (T.size : Int) := by omega
      have hlts : (j : Int) < (s.size : Int) := by omega
      have hlt0 : j < s.size := by omega
      clear hlen hmk hst hrow hb hy
      go_wp2
      go_region
      go_wp2
      refine ⟨⟨j + 1, by omega, by go_num, ?_, (HB.out.setCell (p := ⟨w.heap.size + 1, j, none⟩) (by rw [S1.out]; exact Nat.le_refl _) _).drew⟩, by simp [intOf]; omega⟩
      rw [XX.out, ST.out]
      exact HS.out.drew
    · obtain rfl : j = T.size := by omega
      have hcr := conv_row hrow (rotK_small (bs_lt s) (bs_lt T) _) (n := s.size) (by rw [rotK_len, bs_length])
      have dw := D1.out.below hb
      obtain ⟨q1, q2⟩ := dw.cellP LP.out k hk
      obtain ⟨dp, cpp⟩ := dw.putP LP.out k (rotT s T) (by rw [rotT_size]; unfold maxLen; omega)
      obtain ⟨c0, c1, c2⟩ := (X1.out.below hb).c3
      have DP := hide dp
      have CP := hide ((C1.out.trans (Chg.ofBelow hb)).trans cpp)
      unfold rotT at DP CP
      clear hrow hb dw dp cpp c1 c2
      go_wp2
      go_ret
      refine ⟨ret_bool e0.out.symm, fun _ => ?_, CP.out⟩
      unfold rotT
      exact DP.out
end Go.Proofs.Ytnjpkfgljabdaaa

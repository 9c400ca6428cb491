/-
  The law of sums at every two lists of bytes: the call returns true, and nothing that was there is written. It asks that each list is of at most 2^47 bytes.
-/
import Derived.Test.YteecnepmdniddaaCurB
namespace Go.Proofs.Yteecnepmdniddaa
open Go.RowKit

theorem bs_take (s : ByteArray) (k : Nat) : bs (s.extract 0 k) = (bs s).take k := by
  obtain ⟨⟨l⟩⟩ := s
  have e := ByteArray.extract_mk l 0 k
  have e1 : (ByteArray.mk ⟨l⟩).extract 0 k = ByteArray.mk (l.take k).toArray := by simpa using e
  rw [e1]
  show ((l.take k).toArray.toList.map UInt8.toNat) = (l.map UInt8.toNat).take k
  simp [List.map_take]
theorem bs_drop (s : ByteArray) (k : Nat) : bs (s.extract k s.size) = (bs s).drop k := by
  obtain ⟨⟨l⟩⟩ := s
  have e1 : (ByteArray.mk ⟨l⟩).extract k (ByteArray.mk ⟨l⟩).size = ByteArray.mk (l.drop k).toArray := by
    have := ByteArray.extract_mk l k l.length
    rw [List.take_of_length_le (by rw [List.length_drop]; exact Nat.le_refl _)] at this
    exact this
  rw [e1]
  show ((l.drop k).toArray.toList.map UInt8.toNat) = (l.map UInt8.toNat).drop k
  simp [List.map_drop]
theorem size_bs (s : ByteArray) : s.size = (bs s).length := (bs_length s).symm
theorem onR_of {s : ByteArray} {l : List Nat} (h : bs s = l) (hl : l.length ≤ 400) (c : Nat) (hc : c < 4294967296) : onR c s = (((Crc.on c l : Nat) : Int), true) := by
  unfold onR
  rw [if_pos ⟨by omega, by rw [size_bs, h]; exact hl⟩, h]
  rfl
theorem jnR_of {a b n : Nat} (ha : a < 4294967296) (hb : b < 4294967296) (hn : n ≤ 400) : jnR a b n = (((Crc.jn a b n : Nat) : Int), true) := by
  unfold jnR
  rw [if_pos ⟨⟨by omega, by omega⟩, by omega⟩]
  rfl
theorem drop_small {l : List Nat} (h : ∀ b ∈ l, b < 256) (k : Nat) : ∀ b ∈ l.drop k, b < 256 := fun b hb => h b (List.mem_of_mem_drop hb)

set_option maxRecDepth 100000 in
set_option maxHeartbeats 3200000 in
theorem fnSums_walk (a : Option Addr) (len cap : Nat) (a' : Option Addr) (len' cap' : Nat) (w : World) (h0 : RdB w (.slice a len cap)) (h1 : RdB w (.slice a' len' cap')) (b0 : len ≤ 140737488351232) (b1 : len' ≤ 140737488351232) :
    Calls Try.prog 3 #[.slice a len cap, .slice a' len' cap'] w fun e w' => e = .returned (.bool true) ∧ Below w.heap.size w w' := by
  by_cases hbig : (len : Int) + (len' : Int) ≤ 1048576
  case neg =>
    have h' : (1048576 : Int) < (len : Int) + (len' : Int) := by omega
    go_enter Try.func3, Try.ntmps3
    go_wp2
    go_ret
    exact ⟨rfl, Below.refl _ _⟩
  have hbig' : ¬ (1048576 : Int) < (len : Int) + (len' : Int) := by omega
  have R0 := hide h0
  have R1 := hide h1
  clear h0 h1
  go_enter Try.func3, Try.ntmps3
  go_wp2_with fail
  refine (drawSumOf_calls _ _ R0.out).mono ?_
  rintro e w1 ⟨s, hs, rfl, b⟩
  have S1 := hide b
  clear b
  go_wp2_with fail
  refine (sumOf_calls s _ (by unfold maxLen; omega)).mono ?_
  rintro e w2 ⟨rfl, b⟩
  have S2 := hide (S1.out.trans (b.mono S1.out.size))
  clear b S1
  go_wp2_with fail
  refine (sSumOf_calls s _ (by unfold maxLen; omega)).mono ?_
  rintro e w3 ⟨rfl, rfl⟩
  by_cases hl : s.size ≤ 400
  · have e0 : onR 0 s = (((Crc.on 0 (bs s) : Nat) : Int), true) := onR_of rfl (by rw [bs_length]; exact hl) 0 (by decide)
    rw [e0]
    clear e0
    have hNlt : Crc.on 0 (bs s) < 4294967296 := Crc.on_lt (by decide) (bs_lt s)
    obtain ⟨N, hN⟩ : ∃ N, N = Crc.on 0 (bs s) := ⟨_, rfl⟩
    have HN := hide hN
    rw [← hN] at hNlt ⊢
    clear hN
    go_wp2_with fail
    refine (numberOf_calls _ _ (R1.out.below S2.out)).mono ?_
    rintro e w3 ⟨n, hn, rfl, rfl⟩
    obtain ⟨K, hK⟩ : ∃ K, K = n % (s.size + 1) := ⟨_, rfl⟩
    have hKs : K ≤ s.size := by rw [hK]; have := Nat.mod_lt n (show s.size + 1 > 0 by omega); omega
    have hKi : (n : Int) % ((s.size : Int) + 1) = (K : Int) := by rw [hK]; simp
    clear hK
    have hnz : ((s.size : Int) + 1 == 0) = false := by simp; omega
    have hnz' : ¬ (s.size : Int) + 1 = 0 := by omega
    have hKb : (K : Int) ≤ (s.size : Int) := by omega
    go_wp2_with fail
    have eA : onR 0 (s.extract 0 K) = (((Crc.on 0 ((bs s).take K) : Nat) : Int), true) := onR_of (bs_take s K) (by rw [List.length_take, bs_length]; omega) 0 (by decide)
    have hA : Crc.on 0 ((bs s).take K) < 4294967296 := Crc.on_lt (by decide) (mem_take_lt (bs_lt s) K)
    have eB : onR 0 (s.extract K s.size) = (((Crc.on 0 ((bs s).drop K) : Nat) : Int), true) := onR_of (bs_drop s K) (by rw [List.length_drop, bs_length]; omega) 0 (by decide)
    have hB : Crc.on 0 ((bs s).drop K) < 4294967296 := Crc.on_lt (by decide) (drop_small (bs_lt s) K)
    have eJ : jnR (Crc.on 0 ((bs s).take K) : Nat) (Crc.on 0 ((bs s).drop K) : Nat) ((s.size - K : Nat) : Int) = ((N : Int), true) := by
      rw [jnR_of hA hB (by omega), HN.out]
      have e := Crc.on_join ((bs s).take K) ((bs s).drop K)
      rw [List.take_append_drop, List.length_drop, bs_length] at e
      rw [← e]
    have eO : onR (Crc.on 0 ((bs s).take K) : Nat) (s.extract K s.size) = ((N : Int), true) := by
      rw [onR_of (bs_drop s K) (by rw [List.length_drop, bs_length]; omega) _ hA, HN.out]
      have e := Crc.on_append 0 ((bs s).take K) ((bs s).drop K)
      rw [List.take_append_drop] at e
      rw [← e]
    have zA : (s.extract 0 K).size ≤ maxLen := by rw [size_bs, bs_take, List.length_take, bs_length]; unfold maxLen; omega
    have zB : (s.extract K s.size).size ≤ maxLen := by rw [size_bs, bs_drop, List.length_drop, bs_length]; unfold maxLen; omega
    generalize Crc.on 0 ((bs s).take K) = A at eA hA eJ eO
    generalize Crc.on 0 ((bs s).drop K) = B at eB hB eJ
    have EA := hide eA
    have EB := hide eB
    have EJ := hide eJ
    have EO := hide eO
    have ZA := hide zA
    have ZB := hide zB
    have hsk : (s.size : Int) - (K : Int) = ((s.size - K : Nat) : Int) := by omega
    clear eA eB eJ eO zA zB
    refine (sumOf_calls _ _ ZA.out).mono ?_
    rintro e w3 ⟨rfl, b⟩
    rw [EA.out]
    have S3 := hide (S2.out.trans (b.mono S2.out.size))
    clear b S2
    go_wp2_with fail
    refine (sumOf_calls _ _ ZB.out).mono ?_
    rintro e w4 ⟨rfl, b⟩
    rw [EB.out]
    have S4 := hide (S3.out.trans (b.mono S3.out.size))
    clear b S3
    go_wp2_with fail
    refine (joinSums_calls _ _ _ _).mono ?_
    rintro e w5 ⟨rfl, b⟩
    rw [EJ.out]
    have S5 := hide (S4.out.trans (b.mono S4.out.size))
    clear b S4
    go_wp2_with fail
    refine (sumOn_calls _ _ _ ZB.out).mono ?_
    rintro e w6 ⟨rfl, b⟩
    rw [EO.out]
    have S6 := hide (S5.out.trans (b.mono S5.out.size))
    clear b S5
    go_wp2_with fail
    refine (drawSumOn_calls _ _ (R1.out.below S6.out)).mono ?_
    rintro e w7 ⟨z, t, ht, rfl, b⟩
    have S7 := hide (S6.out.trans (b.mono S6.out.size))
    clear b S6
    go_wp2_with fail
    refine (sumOn_calls z t _ (by unfold maxLen; omega)).mono ?_
    rintro e w8 ⟨rfl, b⟩
    have S8 := hide (S7.out.trans (b.mono S7.out.size))
    clear b S7
    go_wp2_with fail
    refine (sSumOn_calls z t _ (by unfold maxLen; omega)).mono ?_
    rintro e w9 ⟨rfl, rfl⟩
    generalize (onR z t).1 = x1
    generalize (onR z t).2 = x2
    go_wp2_with fail
    refine (drawJoinSums_calls _ _ (R1.out.below S8.out)).mono ?_
    rintro e w10 ⟨ja, jb, jn, rfl, b⟩
    have S10 := hide (S8.out.trans (b.mono S8.out.size))
    clear b S8
    go_wp2_with fail
    refine (joinSums_calls ja jb jn _).mono ?_
    rintro e w11 ⟨rfl, b⟩
    have S11 := hide (S10.out.trans (b.mono S10.out.size))
    clear b S10
    go_wp2_with fail
    refine (sJoinSums_calls ja jb jn _).mono ?_
    rintro e w12 ⟨rfl, rfl⟩
    generalize (jnR ja jb jn).1 = x3
    generalize (jnR ja jb jn).2 = x4
    go_wp2_with fail
    refine (drawZeroSum_calls _ _ (R1.out.below S11.out)).mono ?_
    rintro e w13 ⟨zn, rfl, b⟩
    have S13 := hide (S11.out.trans (b.mono S11.out.size))
    clear b S11
    go_wp2_with fail
    refine (zeroSum_calls zn _).mono ?_
    rintro e w14 ⟨rfl, b⟩
    have S14 := hide (S13.out.trans (b.mono S13.out.size))
    clear b S13
    go_wp2_with fail
    refine (sZeroSum_calls zn _).mono ?_
    rintro e w15 ⟨rfl, b⟩
    have S15 := hide (S14.out.trans (b.mono S14.out.size))
    clear b S14
    generalize (zeroR zn).1 = x5
    generalize (zeroR zn).2 = x6
    go_wp2
    go_ret
    exact ⟨by simp, S15.out⟩
  · have e0 : onR 0 s = (0, false) := if_neg (fun h => hl h.2)
    rw [e0]
    clear e0
    have S6 := hide S2.out
    clear S2
    go_wp2_with fail
    refine (drawSumOn_calls _ _ (R1.out.below S6.out)).mono ?_
    rintro e w7 ⟨z, t, ht, rfl, b⟩
    have S7 := hide (S6.out.trans (b.mono S6.out.size))
    clear b S6
    go_wp2_with fail
    refine (sumOn_calls z t _ (by unfold maxLen; omega)).mono ?_
    rintro e w8 ⟨rfl, b⟩
    have S8 := hide (S7.out.trans (b.mono S7.out.size))
    clear b S7
    go_wp2_with fail
    refine (sSumOn_calls z t _ (by unfold maxLen; omega)).mono ?_
    rintro e w9 ⟨rfl, rfl⟩
    generalize (onR z t).1 = x1
    generalize (onR z t).2 = x2
    go_wp2_with fail
    refine (drawJoinSums_calls _ _ (R1.out.below S8.out)).mono ?_
    rintro e w10 ⟨ja, jb, jn, rfl, b⟩
    have S10 := hide (S8.out.trans (b.mono S8.out.size))
    clear b S8
    go_wp2_with fail
    refine (joinSums_calls ja jb jn _).mono ?_
    rintro e w11 ⟨rfl, b⟩
    have S11 := hide (S10.out.trans (b.mono S10.out.size))
    clear b S10
    go_wp2_with fail
    refine (sJoinSums_calls ja jb jn _).mono ?_
    rintro e w12 ⟨rfl, rfl⟩
    generalize (jnR ja jb jn).1 = x3
    generalize (jnR ja jb jn).2 = x4
    go_wp2_with fail
    refine (drawZeroSum_calls _ _ (R1.out.below S11.out)).mono ?_
    rintro e w13 ⟨zn, rfl, b⟩
    have S13 := hide (S11.out.trans (b.mono S11.out.size))
    clear b S11
    go_wp2_with fail
    refine (zeroSum_calls zn _).mono ?_
    rintro e w14 ⟨rfl, b⟩
    have S14 := hide (S13.out.trans (b.mono S13.out.size))
    clear b S13
    go_wp2_with fail
    refine (sZeroSum_calls zn _).mono ?_
    rintro e w15 ⟨rfl, b⟩
    have S15 := hide (S14.out.trans (b.mono S14.out.size))
    clear b S14
    generalize (zeroR zn).1 = x5
    generalize (zeroR zn).2 = x6
    go_wp2
    go_ret
    exact ⟨by simp, S15.out⟩
end Go.Proofs.Yteecnepmdniddaa

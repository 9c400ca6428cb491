/-
  The law of bursts at every two lists of bytes: the call returns true, and nothing that was there is written. It asks that each list is of at most 2^47 bytes.
-/
import Derived.Test.YteecnepmdniddaaCurB
namespace Go.Proofs.Yteecnepmdniddaa
open Go.RowKit

theorem onR_bs {s : ByteArray} (hl : s.size ≤ 400) : onR 0 s = (((Crc.on 0 (bs s) : Nat) : Int), true) := if_pos ⟨by decide, hl⟩
theorem text_eq {s t : ByteArray} : s = t ↔ bs s = bs t := ⟨fun h => by rw [h], fun h => by rw [← ofN_bs s, h, ofN_bs]⟩

theorem toList_inj {s t : ByteArray} (h : s.toList = t.toList) : s = t := by
  rw [ByteArray.toList_eq, ByteArray.toList_eq] at h
  obtain ⟨⟨a⟩⟩ := s
  obtain ⟨⟨b⟩⟩ := t
  have h : a = b := h
  rw [h]
/-- What the law asks of a burst. -/
theorem burst_facts (s : ByteArray) (p x : Int) (h : (burstR s p x).2 = true) :
    s.size ≤ 400 ∧ (burstR s p x).1.size = s.size ∧ burstR (burstR s p x).1 p x = (s, true) ∧ (Crc.on 0 (bs s) = Crc.on 0 (bs (burstR s p x).1) ↔ s = (burstR s p x).1) := by
  unfold burstR at h
  by_cases hc : (s.size ≤ 400 ∧ 0 ≤ p ∧ p < 8 * (s.size : Int)) ∧ (0 ≤ x ∧ x ≤ 4294967295)
  case neg => rw [if_neg hc] at h; cases h
  have e : burstR s p x = (ofN (Crc.burst (bs s) p.toNat x.toNat), true) := if_pos hc
  have hp : p.toNat ≤ 8 * (bs s).length := by rw [bs_length]; omega
  have hsm := Crc.burst_small (bs_lt s) p.toNat x.toNat
  have hsz : (ofN (Crc.burst (bs s) p.toNat x.toNat)).size = s.size := by rw [ofN_size, Crc.burst_length, bs_length]
  rw [e]
  refine ⟨hc.1.1, hsz, ?_, ?_⟩
  · have hc2 : ((ofN (Crc.burst (bs s) p.toNat x.toNat)).size ≤ 400 ∧ 0 ≤ p ∧ p < 8 * ((ofN (Crc.burst (bs s) p.toNat x.toNat)).size : Int)) ∧ (0 ≤ x ∧ x ≤ 4294967295) := by rw [hsz]; exact hc
    unfold burstR
    rw [if_pos hc2, bs_ofN hsm, Crc.burst_back (bs_lt s) _ _ hp, ofN_bs]
  · show Crc.on 0 (bs s) = Crc.on 0 (bs (ofN (Crc.burst (bs s) p.toNat x.toNat))) ↔ s = ofN (Crc.burst (bs s) p.toNat x.toNat)
    rw [bs_ofN hsm]
    constructor
    · intro he
      have := Crc.burst_told (bs_lt s) p.toNat x.toNat hp (by omega) he
      rw [← this, ofN_bs]
    · intro he
      have h2 := congrArg bs he
      rw [bs_ofN hsm] at h2
      rw [← h2]
theorem patch_facts (s : ByteArray) (p : Int) (t : ByteArray) (h : (patchR s p t).2.2 = true) :
    (patchR s p t).1.size = s.size ∧ onR 0 (patchR s p t).1 = ((patchR s p t).2.1, true) := by
  unfold patchR at h
  by_cases hc : (0 ≤ p ∧ p ≤ (s.size : Int) - (t.size : Int)) ∧ s.size ≤ 400
  case neg => rw [if_neg hc] at h; cases h
  have e : patchR s p t = (ofN (pat (bs s) (bs t) p.toNat), ((Crc.on 0 (pat (bs s) (bs t) p.toNat) : Nat) : Int), true) := if_pos hc
  have hpl : (pat (bs s) (bs t) p.toNat).length = s.size := by rw [pat_length _ _ _ (by rw [bs_length, bs_length]; omega), bs_length]
  rw [e]
  exact ⟨by rw [ofN_size, hpl], onR_pat (pat_small (bs_lt s) (bs_lt t) _) (by omega)⟩

set_option maxRecDepth 100000 in
set_option maxHeartbeats 3200000 in
theorem fnBursts_walk (a : Option Addr) (len cap : Nat) (a' : Option Addr) (len' cap' : Nat) (w : World) (h0 : RdB w (.slice a len cap)) (h1 : RdB w (.slice a' len' cap')) (b0 : len ≤ 140737488351232) (b1 : len' ≤ 140737488351232) :
    Calls Try.prog 4 #[.slice a len cap, .slice a' len' cap'] w fun e w' => e = .returned (.bool true) ∧ Below w.heap.size w w' := by
  by_cases hbig : (len : Int) + (len' : Int) ≤ 1048576
  case neg =>
    have h' : (1048576 : Int) < (len : Int) + (len' : Int) := by omega
    go_enter Try.func4, Try.ntmps4
    go_wp2
    go_ret
    exact ⟨rfl, Below.refl _ _⟩
  have hbig' : ¬ (1048576 : Int) < (len : Int) + (len' : Int) := by omega
  have R0 := hide h0
  have R1 := hide h1
  clear h0 h1
  go_enter Try.func4, Try.ntmps4
  go_wp2_with fail
  refine (drawBurstAt_calls _ _ R0.out).mono ?_
  rintro e w1 ⟨s, p, x, hs, rfl, b⟩
  have S1 := hide b
  clear b
  go_wp2_with fail
  refine (burstAt_calls s p x _ (by unfold maxLen; omega)).mono ?_
  rintro e w2 ⟨rfl, b⟩
  have S2 := hide (S1.out.trans (b.mono S1.out.size))
  clear b S1
  go_wp2_with fail
  refine (sBurstAt_calls s p x _ (by unfold maxLen; omega)).mono ?_
  rintro e w3 ⟨rfl, b⟩
  have S3 := hide (S2.out.trans (b.mono S2.out.size))
  clear b S2
  have BF := hide (burst_facts s p x)
  generalize burstR s p x = B at BF ⊢
  obtain ⟨t, ok⟩ := B
  cases ok with
  | true =>
    obtain ⟨hl, hts, hbk, hiff⟩ := BF.out rfl
    simp only [] at hts hbk hiff ⊢
    have BK := hide hbk
    have TS := hide hts
    have IFF := hide hiff
    clear hbk hiff hts BF
    have hA : onR 0 s = (((Crc.on 0 (bs s) : Nat) : Int), true) := onR_bs hl
    have hB : onR 0 t = (((Crc.on 0 (bs t) : Nat) : Int), true) := onR_bs (by rw [TS.out]; exact hl)
    have htl : t.size ≤ maxLen := by rw [TS.out]; unfold maxLen; omega
    have TL := hide htl
    have htz : ((t.size : Int) != (s.size : Int)) = false := by rw [TS.out]; simp
    have htz' : (t.size : Int) = (s.size : Int) := by rw [TS.out]
    have HTZ := hide htz'
    clear htl htz'
    generalize hAA : Crc.on 0 (bs s) = A at hA IFF
    generalize hBB : Crc.on 0 (bs t) = B at hB IFF
    clear hAA hBB
    have HA := hide hA
    have HB := hide hB
    clear hA hB
    by_cases hst : s = t
    · subst hst
      have hAB : A = B := IFF.out.2 rfl
      subst hAB
      clear IFF HTZ
      go_wp2_with fail
      refine (sumOf_calls s _ TL.out).mono ?_
      rintro e w4 ⟨rfl, b⟩
      rw [HA.out]
      have S4 := hide (S3.out.trans (b.mono S3.out.size))
      clear b S3
      go_wp2_with fail
      refine (sumOf_calls s _ TL.out).mono ?_
      rintro e w5 ⟨rfl, b⟩
      rw [HA.out]
      have S5 := hide (S4.out.trans (b.mono S4.out.size))
      clear b S4
      go_wp2_with fail
      refine (burstAt_calls s p x _ TL.out).mono ?_
      rintro e w6 ⟨rfl, b⟩
      rw [BK.out]
      have S6 := hide (S5.out.trans (b.mono S5.out.size))
      clear b S5
      go_wp2_with fail
      refine (drawPatchSum_calls _ _ (R1.out.below S6.out)).mono ?_
      rintro e w7 ⟨u, k, v, hu, hv, rfl, b⟩
      have S7 := hide (S6.out.trans (b.mono S6.out.size))
      clear b S6
      go_wp2_with fail
      refine (patchSum_calls u k v _ (by unfold maxLen; omega) (by unfold maxLen; omega)).mono ?_
      rintro e w8 ⟨rfl, b⟩
      have S8 := hide (S7.out.trans (b.mono S7.out.size))
      clear b S7
      go_wp2_with fail
      refine (sPatchSum_calls u k v _ (by unfold maxLen; omega) (by unfold maxLen; omega)).mono ?_
      rintro e w9 ⟨rfl, b⟩
      have S9 := hide (S8.out.trans (b.mono S8.out.size))
      clear b S8
      have PF := hide (patch_facts u k v)
      generalize patchR u k v = PR at PF ⊢
      obtain ⟨q, m, is⟩ := PR
      cases is with
      | true =>
        obtain ⟨hqs, hon⟩ := PF.out rfl
        simp only [] at hqs hon ⊢
        have ON := hide hon
        have hqb : ((q.size : Int) == (u.size : Int)) = true := by rw [hqs]; simp
        have hqle : q.size ≤ maxLen := by rw [hqs]; unfold maxLen; omega
        have QL := hide hqle
        clear hon hqs hqle PF
        go_wp2_with fail
        refine (sumOf_calls q _ QL.out).mono ?_
        rintro e w10 ⟨rfl, b⟩
        rw [ON.out]
        have S10 := hide (S9.out.trans (b.mono S9.out.size))
        clear b S9
        go_wp2
        go_ret
        exact ⟨by simp, S10.out⟩
      | false =>
        clear PF
        go_wp2
        go_ret
        exact ⟨rfl, S9.out⟩
    · have hAB : ¬ (A : Int) = (B : Int) := fun h => hst (IFF.out.1 (by omega))
      have hABb : ((A : Int) == (B : Int)) = false := by simpa using hAB
      have hsl : ¬ s.toList = t.toList := fun h => hst (toList_inj h)
      have hslb : (s.toList == t.toList) = false := by simpa using hsl
      clear IFF
      have SL : Hid (s.size ≤ maxLen) := hide (by unfold maxLen; omega)
      go_wp2_with fail
      refine (sumOf_calls s _ SL.out).mono ?_
      rintro e w4 ⟨rfl, b⟩
      rw [HA.out]
      have S4 := hide (S3.out.trans (b.mono S3.out.size))
      clear b S3
      go_wp2_with fail
      refine (sumOf_calls t _ TL.out).mono ?_
      rintro e w5 ⟨rfl, b⟩
      rw [HB.out]
      have S5 := hide (S4.out.trans (b.mono S4.out.size))
      clear b S4
      go_wp2_with fail
      refine (burstAt_calls t p x _ TL.out).mono ?_
      rintro e w6 ⟨rfl, b⟩
      rw [BK.out]
      have S6 := hide (S5.out.trans (b.mono S5.out.size))
      clear b S5
      go_wp2_with fail
      refine (drawPatchSum_calls _ _ (R1.out.below S6.out)).mono ?_
      rintro e w7 ⟨u, k, v, hu, hv, rfl, b⟩
      have S7 := hide (S6.out.trans (b.mono S6.out.size))
      clear b S6
      go_wp2_with fail
      refine (patchSum_calls u k v _ (by unfold maxLen; omega) (by unfold maxLen; omega)).mono ?_
      rintro e w8 ⟨rfl, b⟩
      have S8 := hide (S7.out.trans (b.mono S7.out.size))
      clear b S7
      go_wp2_with fail
      refine (sPatchSum_calls u k v _ (by unfold maxLen; omega) (by unfold maxLen; omega)).mono ?_
      rintro e w9 ⟨rfl, b⟩
      have S9 := hide (S8.out.trans (b.mono S8.out.size))
      clear b S8
      have PF := hide (patch_facts u k v)
      generalize patchR u k v = PR at PF ⊢
      obtain ⟨q, m, is⟩ := PR
      cases is with
      | true =>
        obtain ⟨hqs, hon⟩ := PF.out rfl
        simp only [] at hqs hon ⊢
        have ON := hide hon
        have hqb : ((q.size : Int) == (u.size : Int)) = true := by rw [hqs]; simp
        have hqle : q.size ≤ maxLen := by rw [hqs]; unfold maxLen; omega
        have QL := hide hqle
        clear hon hqs hqle PF
        go_wp2_with fail
        refine (sumOf_calls q _ QL.out).mono ?_
        rintro e w10 ⟨rfl, b⟩
        rw [ON.out]
        have S10 := hide (S9.out.trans (b.mono S9.out.size))
        clear b S9
        go_wp2
        go_ret
        exact ⟨by simp, S10.out⟩
      | false =>
        clear PF
        go_wp2
        go_ret
        exact ⟨rfl, S9.out⟩
  | false =>
    clear BF
    have S6 := hide S3.out
    clear S3
    go_wp2_with fail
    refine (drawPatchSum_calls _ _ (R1.out.below S6.out)).mono ?_
    rintro e w7 ⟨u, k, v, hu, hv, rfl, b⟩
    have S7 := hide (S6.out.trans (b.mono S6.out.size))
    clear b S6
    go_wp2_with fail
    refine (patchSum_calls u k v _ (by unfold maxLen; omega) (by unfold maxLen; omega)).mono ?_
    rintro e w8 ⟨rfl, b⟩
    have S8 := hide (S7.out.trans (b.mono S7.out.size))
    clear b S7
    go_wp2_with fail
    refine (sPatchSum_calls u k v _ (by unfold maxLen; omega) (by unfold maxLen; omega)).mono ?_
    rintro e w9 ⟨rfl, b⟩
    have S9 := hide (S8.out.trans (b.mono S8.out.size))
    clear b S8
    have PF := hide (patch_facts u k v)
    generalize patchR u k v = PR at PF ⊢
    obtain ⟨q, m, is⟩ := PR
    cases is with
    | true =>
      obtain ⟨hqs, hon⟩ := PF.out rfl
      simp only [] at hqs hon ⊢
      have ON := hide hon
      have hqb : ((q.size : Int) == (u.size : Int)) = true := by rw [hqs]; simp
      have hqle : q.size ≤ maxLen := by rw [hqs]; unfold maxLen; omega
      have QL := hide hqle
      clear hon hqs hqle PF
      go_wp2_with fail
      refine (sumOf_calls q _ QL.out).mono ?_
      rintro e w10 ⟨rfl, b⟩
      rw [ON.out]
      have S10 := hide (S9.out.trans (b.mono S9.out.size))
      clear b S9
      go_wp2
      go_ret
      exact ⟨by simp, S10.out⟩
    | false =>
      clear PF
      go_wp2
      go_ret
      exact ⟨rfl, S9.out⟩
end Go.Proofs.Yteecnepmdniddaa

/-
  The law of chunks, over drawn bytes: the call returns true, and nothing that was there is written. No condition.
-/
import Derived.Test.YtaamkkfjafedgaaFcm
import Derived.Test.YtaamkkfjafedgaaCurC
import Derived.Test.YtaamkkfjafedgaaSm9
namespace Go.Proofs.Ytaamkkfjafedgaa
open Go.RowKit
set_option linter.unusedVariables false

theorem bs_app9 (s t : ByteArray) : bs (s ++ t) = bs s ++ bs t := by
  unfold bs
  rw [ByteArray.data_append, Array.toList_append, List.map_append]
/-- The window behind the drawn one. -/
theorem fing_next (t : ByteArray) (h : t.size = 4) : ∃ (z : Nat) (u : ByteArray), u.size = 3 ∧ z < 256 ∧ t.extract 1 t.size = u ∧ z = (bs t).getD 0 0 ∧
    ∀ x, x < 256 → ∃ y : Nat, fingR (u ++ ofN [x]) = ((y : Int), true) ∧ rollR ((fg (bs t) : Nat) : Int) (z : Int) (x : Int) = ((y : Int), true) := by
  have hl : (bs t).length = 4 := by rw [bs_length]; exact h
  obtain ⟨a, b, c, d, hb⟩ : ∃ a b c d, bs t = [a, b, c, d] := by
    match hx : bs t, hl with
    | [a, b, c, d], _ => exact ⟨a, b, c, d, rfl⟩
  have ha : a < 256 := bs_lt t a (by rw [hb]; simp)
  have hu : bs (t.extract 1 t.size) = [b, c, d] := by rw [bs_mid9, h, hb]; rfl
  have hus : (t.extract 1 t.size).size = 3 := by rw [← bs_length, hu]; rfl
  refine ⟨a, t.extract 1 t.size, hus, ha, rfl, by rw [hb]; rfl, fun x hx => ⟨fg [b, c, d, x], ?_, ?_⟩⟩
  · have hbx : bs (t.extract 1 t.size ++ ofN [x]) = [b, c, d, x] := by
      rw [bs_app9, hu, bs_ofN (by simpa using hx)]
      rfl
    have hsz : (t.extract 1 t.size ++ ofN [x]).size = 4 := by rw [← bs_length, hbx]; rfl
    unfold fingR
    rw [if_pos hsz, hbx]
  · have hg := fg_lt (bs t)
    unfold rollR
    rw [if_pos (by refine ⟨⟨by omega, by omega⟩, ⟨by omega, by omega⟩, by omega, by omega⟩), Int.toNat_natCast, Int.toNat_natCast, Int.toNat_natCast, hb, rf_four]

theorem cutsI_bd (s : ByteArray) (j : Nat) (h : s.size ≤ 1048576) : 0 ≤ (cutsI s).getD j 0 ∧ (cutsI s).getD j 0 ≤ 1048576 := by
  unfold cutsI
  rw [List.getD_eq_getElem?_getD, List.getElem?_map]
  cases e : (cutsN (bs s) s.size)[j]? with
  | none => simp
  | some c =>
    have := cutsN_le _ _ c (List.mem_of_getElem? e)
    simp
    omega

set_option maxRecDepth 100000 in
set_option maxHeartbeats 6400000 in
theorem fnChunks_walk (a : Option Addr) (len cap : Nat) (a' : Option Addr) (len' cap' : Nat) (w : World) (h0 : RdB w (.slice a len cap)) (h1 : RdB w (.slice a' len' cap')) (b0 : len ≤ 140737488351232) (b1 : len' ≤ 140737488351232) :
    Calls Try.prog 3 #[.slice a len cap, .slice a' len' cap'] w fun e w' => e = .returned (.bool true) ∧ Below w.heap.size w w' := by
  by_cases hbig : (len : Int) + (len' : Int) ≤ 1048576
  case neg =>
    have h' : (1048576 : Int) < (len : Int) + (len' : Int) := by omega
    go_enter Try.func3, Try.ntmps3
    go_wp2
    go_ret
    exact ⟨rfl, Below.refl _ _⟩
  have hbig' : ¬ (1048576 : Int) < (len : Int) + (len' : Int) := by omega
  have R0 := hide h0
  have R1 := hide h1
  have mix : Try.prog.follows .mixedOrders = true := by kernel_rfl
  clear h0 h1
  go_enter Try.func3, Try.ntmps3
  go_wp2_with fail
  refine (drawCutsOf_calls _ _ R0.out).mono ?_
  rintro e w1 ⟨s, hs, rfl, b⟩
  have S1 := hide b
  clear b
  have FA := hide (cutsR_facts s)
  have FB := hide (chunksR_facts s)
  have D1 := hide (fun W => cutsOf_calls s W (by omega))
  have D2 := hide (fun W => sCutsOf_calls s W (by omega))
  have D3 := hide (fun W => chunksOf_calls s W (by omega))
  have D4 := hide (fun W => sChunksOf_calls s W (by omega))
  by_cases h300 : s.size ≤ 300
  case neg =>
    rw [show cutsR s = ([], false) from if_neg h300] at FA D1 D2
    rw [show chunksR s = ([], false) from if_neg h300] at FB D3 D4
    simp only at FA FB D1 D2 D3 D4
    generalize ([] : List Int) = xs at FA D1 D2
    generalize ([] : List ByteArray) = ts at FB D3 D4
    go_wp2_with fail
    refine (D1.out _).mono ?_
    rintro e w2 ⟨v2, rfl, o2, b⟩
    have S2 := hide (S1.out.trans (b.mono S1.out.size))
    have R2 := hide o2.rd
    obtain ⟨a2, c2, rfl⟩ := own_slice9 o2
    clear b o2 S1
    go_wp2_with fail
    refine (D2.out _).mono ?_
    rintro e w3 ⟨v3, rfl, o3, b⟩
    have S3 := hide (S2.out.trans (b.mono S2.out.size))
    have R3 := hide o3.rd
    have Q3 := hide (R2.out.below b)
    obtain ⟨a3, c3, rfl⟩ := own_slice9 o3
    clear b o3 S2 R2
    go_wp2_with fail
    refine (D3.out _).mono ?_
    rintro e w4 ⟨v4, rfl, o4, b⟩
    have S4 := hide (S3.out.trans (b.mono S3.out.size))
    have R4 := hide (o4.rd FB.out.2)
    have Q4 := hide (Q3.out.below b)
    have P4 := hide (R3.out.below b)
    obtain ⟨a4, c4, rfl⟩ := own_slice8 o4
    clear b o4 S3 R3 Q3
    go_wp2_with fail
    refine (D4.out _).mono ?_
    rintro e w5 ⟨v5, rfl, o5, b⟩
    have S5 := hide (S4.out.trans (b.mono S4.out.size))
    have R5 := hide (o5.rd FB.out.2)
    have Q5 := hide (Q4.out.below b)
    have P5 := hide (P4.out.below b)
    have T5 := hide (R4.out.below b)
    obtain ⟨a5, c5, rfl⟩ := own_slice8 o5
    clear b o5 S4 R4 Q4 P4
    go_wp2_with fail
    refine (sameInts9_same _ _ xs _ Q5.out P5.out).mono ?_
    rintro e w6 ⟨rfl, b⟩
    have S6 := hide (S5.out.trans (b.mono S5.out.size))
    have Q6 := hide (Q5.out.below b)
    have T6 := hide (T5.out.below b)
    have R6 := hide (R5.out.below b)
    clear b S5 R5 Q5 P5 T5
    go_wp2_with fail
    refine (sameTexts9_same _ _ ts _ T6.out R6.out).mono ?_
    rintro e w7 ⟨rfl, b⟩
    have S7 := hide (S6.out.trans (b.mono S6.out.size))
    have Q7 := hide (Q6.out.below b)
    have T7 := hide (T6.out.below b)
    clear b S6 Q6 T6 R6
    go_wp2_with fail
    refine (drawRollOn_calls _ _ (R1.out.below S7.out)).mono ?_
    rintro e wa ⟨x1, x2, x3, rfl, b⟩
    have Sa := hide (S7.out.trans (b.mono S7.out.size))
    clear b
    go_wp2_with fail
    refine (rollOn_calls x1 x2 x3 _).mono ?_
    rintro e wb ⟨rfl, b⟩
    have Sb := hide (Sa.out.trans (b.mono Sa.out.size))
    clear b Sa
    go_wp2_with fail
    refine (sRollOn_calls x1 x2 x3 _).mono ?_
    rintro e wc ⟨rfl, b⟩
    have Sc := hide (Sb.out.trans (b.mono Sb.out.size))
    clear b Sb
    generalize (rollR x1 x2 x3).1 = y1
    generalize (rollR x1 x2 x3).2 = y2
    go_wp2_with fail
    refine (drawFingerOf_calls _ _ (R1.out.below Sc.out)).mono ?_
    rintro e wd ⟨t, ht, rfl, b⟩
    have Sd := hide (Sc.out.trans (b.mono Sc.out.size))
    clear b Sc
    go_wp2_with fail
    refine (fingerOf_calls t _ (by omega)).mono ?_
    rintro e we ⟨rfl, b⟩
    have Se := hide (Sd.out.trans (b.mono Sd.out.size))
    clear b Sd
    go_wp2_with fail
    refine (sFingerOf_calls t _ (by omega)).mono ?_
    rintro e wf ⟨rfl, b⟩
    have Sf := hide (Se.out.trans (b.mono Se.out.size))
    clear b Se
    by_cases ht4 : t.size = 4
    case neg =>
      rw [show fingR t = (0, false) from if_neg ht4]
      go_wp2
      go_ret
      exact ⟨by simp, Sf.out⟩
    rw [show fingR t = (((fg (bs t) : Nat) : Int), true) from if_pos ht4]
    obtain ⟨z, u, hu, hz, hex, hz0, hro⟩ := fing_next t ht4
    have hlg := fg_lt (bs t)
    have hex4 := hex
    rw [ht4] at hex4
    have hat0 : t[0].toNat = z := by rw [hz0]; exact (bs_at9 t 0 (by omega)).symm
    generalize fg (bs t) = G at hro hlg ⊢
    clear hz0
    go_wp2_with fail
    refine (numberOf_calls _ _ (R0.out.below Sf.out)).mono ?_
    rintro e wg ⟨n, hn9, rfl, rfl⟩
    have hm1 : (0 : Int) ≤ (n : Int) := by omega
    obtain ⟨x, hx⟩ : ∃ x, x = n % 256 := ⟨_, rfl⟩
    have hx2 : x < 256 := by omega
    have hx3 : (n : Int) % 256 = (x : Int) := by omega
    have HX := hide hx
    clear hx
    have hcv : (convert 22 9 (.slice (some ⟨wf.heap.size, 0, none⟩) 1 1)).run Try.prog (wf.alloc (.cells #[.int .u8 (x : Int)] 5)).drew = .ok (.string (ofN [x])) (wf.alloc (.cells #[.int .u8 (x : Int)] 5)).drew := byte_text x hx2 wf.drew
    have hadd := fun W : World => run_string_add_sum (P := Try.prog) (w := W) u (ofN [x]) (by rw [ofN_size]; simp; omega)
    obtain ⟨y3, hfy, hry⟩ := hro x hx2
    have HF := hide hfy
    have HR' := hide hry
    have hx4 : IntKind.u8.wrap (x : Int) = (x : Int) := by simp [IntKind.wrap, IntKind.bits, IntKind.signed]; omega
    clear hro hm1 hfy hry
    have ht4' : (t.size : Int) = 4 := by omega
    have hus : (u ++ ofN [x]).size ≤ 1048576 := by rw [ByteArray.size_append, hu, ofN_size]; simp
    go_wp2
    go_region_with (go_at_call 26; refine (fingerOf_calls (u ++ ofN [x]) _ hus).mono ?_; rintro e wh ⟨rfl, bh⟩; rw [HF.out]; have Sh := hide ((Sf.out.alloc Sf.out.size (.cells #[.int .u8 (x : Int)] 5)).drew.trans (bh.mono (Nat.le_trans Sf.out.size (by show wf.heap.size ≤ (wf.alloc _).heap.size; simp)))); clear bh)
    go_wp2_with fail
    refine (rollOn_calls (G : Int) (z : Int) (x : Int) _).mono ?_
    rintro e wi ⟨rfl, b⟩
    have Si := hide (Sh.out.trans (b.mono Sh.out.size))
    clear b Sh
    rw [HR'.out]
    go_wp2
    go_ret
    exact ⟨rfl, Si.out⟩
  rw [show cutsR s = (cutsI s, true) from if_pos h300] at FA D1 D2
  rw [show chunksR s = (chunksT s, true) from if_pos h300] at FB D3 D4
  simp only at FA FB D1 D2 D3 D4
  go_wp2_with fail
  refine (D1.out _).mono ?_
  rintro e w2 ⟨v2, rfl, o2, b⟩
  have S2 := hide (S1.out.trans (b.mono S1.out.size))
  have R2 := hide o2.rd
  obtain ⟨a2, c2, rfl⟩ := own_slice9 o2
  clear b o2 S1
  go_wp2_with fail
  refine (D2.out _).mono ?_
  rintro e w3 ⟨v3, rfl, o3, b⟩
  have S3 := hide (S2.out.trans (b.mono S2.out.size))
  have R3 := hide o3.rd
  have Q3 := hide (R2.out.below b)
  obtain ⟨a3, c3, rfl⟩ := own_slice9 o3
  clear b o3 S2 R2
  go_wp2_with fail
  refine (D3.out _).mono ?_
  rintro e w4 ⟨v4, rfl, o4, b⟩
  have S4 := hide (S3.out.trans (b.mono S3.out.size))
  have R4 := hide (o4.rd FB.out.2)
  have Q4 := hide (Q3.out.below b)
  have P4 := hide (R3.out.below b)
  obtain ⟨a4, c4, rfl⟩ := own_slice8 o4
  clear b o4 S3 R3 Q3
  go_wp2_with fail
  refine (D4.out _).mono ?_
  rintro e w5 ⟨v5, rfl, o5, b⟩
  have S5 := hide (S4.out.trans (b.mono S4.out.size))
  have R5 := hide (o5.rd FB.out.2)
  have Q5 := hide (Q4.out.below b)
  have P5 := hide (P4.out.below b)
  have T5 := hide (R4.out.below b)
  obtain ⟨a5, c5, rfl⟩ := own_slice8 o5
  clear b o5 S4 R4 Q4 P4
  go_wp2_with fail
  refine (sameInts9_same _ _ (cutsI s) _ Q5.out P5.out).mono ?_
  rintro e w6 ⟨rfl, b⟩
  have S6 := hide (S5.out.trans (b.mono S5.out.size))
  have Q6 := hide (Q5.out.below b)
  have T6 := hide (T5.out.below b)
  have R6 := hide (R5.out.below b)
  clear b S5 R5 Q5 P5 T5
  go_wp2_with fail
  refine (sameTexts9_same _ _ (chunksT s) _ T6.out R6.out).mono ?_
  rintro e w7 ⟨rfl, b⟩
  have S7 := hide (S6.out.trans (b.mono S6.out.size))
  have Q7 := hide (Q6.out.below b)
  have T7 := hide (T6.out.below b)
  clear b S6 Q6 T6 R6
  clear D1 D2 D3 D4
  have hchk := hide (chunks_ok s h300)
  have hlen : (chunksT s).length = (cutsI s).length := by rw [← chunkArgs_cuts9, chunkArgs_cuts]
  have hlc := cutsI_length s
  have HZ : Hid (∀ i, i < (chunksT s).length → ((chunksT s).getD i ⟨#[]⟩).size ≤ 1048576) := fun i hi => by have := (chunk_sizes s i hi).1; omega
  have CS := hide (chunk_sizes s)
  have RO := hide (rest_ok s)
  have hn1 : Hid ((chunksT s).length ≤ 1048576) := by show _ ≤ _; omega
  obtain ⟨m, hm⟩ : ∃ m, m = (cutsI s).length := ⟨_, rfl⟩
  have hm3 : m ≤ 300 := by omega
  rw [hlen, ← hm]
  rw [hlen, ← hm] at T7
  rw [← hm] at Q7
  have HLT : Hid ((chunksT s).length = m) := hlen.trans hm.symm
  have HLC := hide hm
  clear hlen hlc hm
  go_wp2_with fail
  refine (joinChunks_calls _ (chunksT s) _ T7.out hn1.out HZ.out).mono ?_
  rintro e w8 ⟨rfl, b⟩
  have S8 := hide (S7.out.trans (b.mono S7.out.size))
  have Q8 := hide (Q7.out.below b)
  have T8 := hide (T7.out.below b)
  clear b S7 Q7 T7
  rw [hchk.out]
  obtain ⟨a4', cap4, hv4, _, _, _, h3T⟩ := T8.out
  rw [HLT.out] at hv4 h3T
  simp only [Value.slice.injEq] at hv4
  obtain ⟨rfl, _, rfl⟩ := hv4
  have HT := hide h3T
  clear h3T
  go_wp2
  go_loop [115] (fun vi => ∃ k : Nat, k ≤ m ∧ vi = .int .i64 k) (fun vi => m - (intOf vi).toNat)
  case atStart => exact ⟨0, Nat.zero_le _, rfl⟩
  case round =>
    obtain ⟨k, hk, rfl⟩ := hrel
    by_cases hlt : k < m
    · rcases HT.out with h3 | ⟨bt, ot, ha4, hbs, hc⟩
      · have := HLT.out; rw [h3] at this; simp at this; omega
      subst ha4
      have hc1 := hc k hlt
      obtain ⟨hz1, hz2⟩ := CS.out k (by rw [HLT.out]; exact hlt)
      rw [HLT.out] at hz2
      generalize (chunksT s).getD k ⟨#[]⟩ = z at hc1 hz1 hz2
      have hlt' : (k : Int) < (m : Int) := by omega
      have u1 : ¬ (20 : Int) < (z.size : Int) := by omega
      have u1b : decide ((20 : Int) < (z.size : Int)) = false := decide_eq_false u1
      clear hc
      by_cases h4 : z.size < 4
      · have u2 : (z.size : Int) < 4 := by omega
        have u3 : ¬ (k : Int) < (m : Int) - 1 := by omega
        have u3b : decide ((k : Int) < (m : Int) - 1) = false := decide_eq_false u3
        clear hz2
        go_wp2
        go_round
        case rel => exact ⟨k + 1, by omega, by go_num⟩
        case measure => simp [intOf]; omega
      · have u2 : ¬ (z.size : Int) < 4 := by omega
        have u2b : decide ((z.size : Int) < 4) = false := decide_eq_false u2
        clear hz2
        go_wp2
        go_round
        case rel => exact ⟨k + 1, by omega, by go_num⟩
        case measure => simp [intOf]; omega
    · obtain rfl : k = m := by omega
      clear hk HT CS HZ hchk
      by_cases hm0 : k = 0
      case pos =>
        subst hm0
        go_wp2_with fail
        refine (drawRollOn_calls _ _ (R1.out.below S8.out)).mono ?_
        rintro e wa ⟨x1, x2, x3, rfl, b⟩
        have Sa := hide (S8.out.trans (b.mono S8.out.size))
        clear b
        go_wp2_with fail
        refine (rollOn_calls x1 x2 x3 _).mono ?_
        rintro e wb ⟨rfl, b⟩
        have Sb := hide (Sa.out.trans (b.mono Sa.out.size))
        clear b Sa
        go_wp2_with fail
        refine (sRollOn_calls x1 x2 x3 _).mono ?_
        rintro e wc ⟨rfl, b⟩
        have Sc := hide (Sb.out.trans (b.mono Sb.out.size))
        clear b Sb
        generalize (rollR x1 x2 x3).1 = y1
        generalize (rollR x1 x2 x3).2 = y2
        go_wp2_with fail
        refine (drawFingerOf_calls _ _ (R1.out.below Sc.out)).mono ?_
        rintro e wd ⟨t, ht, rfl, b⟩
        have Sd := hide (Sc.out.trans (b.mono Sc.out.size))
        clear b Sc
        go_wp2_with fail
        refine (fingerOf_calls t _ (by omega)).mono ?_
        rintro e we ⟨rfl, b⟩
        have Se := hide (Sd.out.trans (b.mono Sd.out.size))
        clear b Sd
        go_wp2_with fail
        refine (sFingerOf_calls t _ (by omega)).mono ?_
        rintro e wf ⟨rfl, b⟩
        have Sf := hide (Se.out.trans (b.mono Se.out.size))
        clear b Se
        by_cases ht4 : t.size = 4
        case neg =>
          rw [show fingR t = (0, false) from if_neg ht4]
          go_wp2
          go_ret
          exact ⟨by simp, Sf.out⟩
        rw [show fingR t = (((fg (bs t) : Nat) : Int), true) from if_pos ht4]
        obtain ⟨z, u, hu, hz, hex, hz0, hro⟩ := fing_next t ht4
        have hlg := fg_lt (bs t)
        have hex4 := hex
        rw [ht4] at hex4
        have hat0 : t[0].toNat = z := by rw [hz0]; exact (bs_at9 t 0 (by omega)).symm
        generalize fg (bs t) = G at hro hlg ⊢
        clear hz0
        go_wp2_with fail
        refine (numberOf_calls _ _ (R0.out.below Sf.out)).mono ?_
        rintro e wg ⟨n, hn9, rfl, rfl⟩
        have hm1 : (0 : Int) ≤ (n : Int) := by omega
        obtain ⟨x, hx⟩ : ∃ x, x = n % 256 := ⟨_, rfl⟩
        have hx2 : x < 256 := by omega
        have hx3 : (n : Int) % 256 = (x : Int) := by omega
        have HX := hide hx
        clear hx
        have hcv : (convert 22 9 (.slice (some ⟨wf.heap.size, 0, none⟩) 1 1)).run Try.prog (wf.alloc (.cells #[.int .u8 (x : Int)] 5)).drew = .ok (.string (ofN [x])) (wf.alloc (.cells #[.int .u8 (x : Int)] 5)).drew := byte_text x hx2 wf.drew
        have hadd := fun W : World => run_string_add_sum (P := Try.prog) (w := W) u (ofN [x]) (by rw [ofN_size]; simp; omega)
        obtain ⟨y3, hfy, hry⟩ := hro x hx2
        have HF := hide hfy
        have HR' := hide hry
        have hx4 : IntKind.u8.wrap (x : Int) = (x : Int) := by simp [IntKind.wrap, IntKind.bits, IntKind.signed]; omega
        clear hro hm1 hfy hry
        have ht4' : (t.size : Int) = 4 := by omega
        have hus : (u ++ ofN [x]).size ≤ 1048576 := by rw [ByteArray.size_append, hu, ofN_size]; simp
        go_wp2
        go_region_with (go_at_call 26; refine (fingerOf_calls (u ++ ofN [x]) _ hus).mono ?_; rintro e wh ⟨rfl, bh⟩; rw [HF.out]; have Sh := hide ((Sf.out.alloc Sf.out.size (.cells #[.int .u8 (x : Int)] 5)).drew.trans (bh.mono (Nat.le_trans Sf.out.size (by show wf.heap.size ≤ (wf.alloc _).heap.size; simp)))); clear bh)
        go_wp2_with fail
        refine (rollOn_calls (G : Int) (z : Int) (x : Int) _).mono ?_
        rintro e wi ⟨rfl, b⟩
        have Si := hide (Sh.out.trans (b.mono Sh.out.size))
        clear b Sh
        rw [HR'.out]
        go_wp2
        go_ret
        exact ⟨rfl, Si.out⟩
      have hm0' : (0 : Int) < (k : Int) := by omega
      go_wp2_with fail
      refine (numberOf_calls _ _ (R1.out.below S8.out)).mono ?_
      rintro e w9 ⟨n0, hn0, rfl, rfl⟩
      obtain ⟨q, hq⟩ : ∃ q, q = n0 % k := ⟨_, rfl⟩
      have hqk : q < k := by rw [hq]; exact Nat.mod_lt _ (by omega)
      have hqi : (n0 : Int) % (k : Int) = (q : Int) := by rw [hq]; exact (Int.natCast_emod n0 k).symm
      obtain ⟨y, hy1, hy2, hy3, hy4⟩ := RO.out q (by rw [← HLC.out]; exact hqk)
      have hes := extract_size9 s y s.size (Nat.le_refl _)
      obtain ⟨rs, hrs⟩ : ∃ rs, rs = s.extract y s.size := ⟨_, rfl⟩
      rw [← hrs] at hy3 hy4 hes
      rw [← HLC.out] at hy3
      have D1 := hide (fun W => cutsOf_calls rs W (by omega))
      have hcr : cutsR rs = (cutsI rs, true) := if_pos (by omega)
      rw [hcr] at D1
      simp only at D1
      obtain ⟨r, hr⟩ : ∃ r, r = (cutsI rs).length := ⟨_, rfl⟩
      rw [← hr] at hy3 hy4
      have hri : (k : Int) - (q : Int) - 1 = (r : Int) := by omega
      have hr3 : r ≤ 300 := by omega
      have HY4 := hide hy4
      have HR := hide hr
      obtain ⟨a2', cap2, hv2, _, _, h3Q⟩ := Q8.out
      rw [← HLC.out] at hv2 h3Q
      simp only [Value.slice.injEq] at hv2
      obtain ⟨rfl, _, rfl⟩ := hv2
      rcases h3Q with h3 | ⟨bq, oq, ha2, hbq, hcq⟩
      · have := HLC.out; rw [h3] at this; simp at this; omega
      subst ha2
      have hcq1 := hcq q hqk
      rw [hy1] at hcq1
      have HCQ := hide hcq
      have hqk' : (q : Int) < (k : Int) := by omega
      have hsl := hrs.symm
      have u1 : (0 : Int) ≤ (y : Int) := by omega
      have u2 : (y : Int) ≤ (s.size : Int) := by omega
      have Y1 := hide hy1
      clear hq hy1 hy3 hy4 hcr hr hcq hrs hn0
      have KQ := hide hn1
      go_wp2_with fail
      refine (D1.out _).mono ?_
      rintro e w10 ⟨v10, rfl, o10, b⟩
      have S10 := hide (S8.out.trans (b.mono S8.out.size))
      have B10 := hide b
      have R10 := hide o10.rd
      obtain ⟨a10, c10, rfl⟩ := own_slice9 o10
      rw [← HR.out] at R10 ⊢
      clear b o10 u1 u2 hsl
      obtain ⟨a10', cap10, hv10, _, _, h3R⟩ := R10.out
      rw [← HR.out] at hv10 h3R
      simp only [Value.slice.injEq] at hv10
      obtain ⟨rfl, _, rfl⟩ := hv10
      have H3R := hide h3R
      have HC0 : Hid (∀ i, i < k → w10.cell? ⟨bq, oq + i, none⟩ = some (.int .i64 ((cutsI s).getD i 0))) := fun i hi => (B10.out.cell (p := ⟨bq, oq + i, none⟩) hbq).trans (HCQ.out i hi)
      have hbq10 : bq < w10.heap.size := Nat.lt_of_lt_of_le hbq B10.out.size
      clear h3R HCQ hcq1
      go_wp2
      go_loopw [168] (fun vi wr => ∃ j : Nat, j ≤ r ∧ vi = .int .i64 j ∧ Below w10.heap.size w10 wr) (fun vi _ => r - (intOf vi).toNat)
      case atStart => exact ⟨0, Nat.zero_le _, rfl, Below.refl _ _⟩
      case round =>
        obtain ⟨j, hj, rfl, hbr⟩ := hrel
        have HBR := hide hbr
        by_cases hjr : j < r
        · rcases H3R.out with h3 | ⟨br, or', har, hbsr, hcr⟩
          · have := HR.out; rw [h3] at this; simp at this; omega
          subst har
          have e1 : wr.cell? ⟨br, or' + j, none⟩ = some (.int .i64 ((cutsI rs).getD j 0)) := (hbr.cell (p := ⟨br, or' + j, none⟩) hbsr).trans (hcr j hjr)
          have e2 : wr.cell? ⟨bq, oq + q, none⟩ = some (.int .i64 (y : Int)) := (hbr.cell (p := ⟨bq, oq + q, none⟩) hbq10).trans (by rw [HC0.out q hqk, Y1.out])
          have e3 : wr.cell? ⟨bq, oq + (q + 1 + j), none⟩ = some (.int .i64 ((cutsI s).getD (q + 1 + j) 0)) := (hbr.cell (p := ⟨bq, oq + (q + 1 + j), none⟩) hbq10).trans (HC0.out _ (by omega))
          have hsum := HY4.out j hjr
          have hbd : 0 ≤ (cutsI rs).getD j 0 ∧ (cutsI rs).getD j 0 ≤ 1048576 := cutsI_bd rs j (by omega)
          generalize (cutsI rs).getD j 0 = x1 at e1 hsum hbd
          rw [← hsum] at e3
          have hjr' : (j : Int) < (r : Int) := by omega
          have hqj : (q : Int) + 1 + (j : Int) = ((q + 1 + j : Nat) : Int) := by omega
          have hqj2 : ((q + 1 + j : Nat) : Int) < (k : Int) := by omega
          generalize q + 1 + j = qj at e3 hqj hqj2
          clear hcr hsum hbr
          go_wp2
          go_quiet (fail)
          go_wp2
          go_roundw
          case rel => exact ⟨j + 1, by omega, by go_num, below_drewN HBR.out _⟩
          case measure => simp [intOf]; omega
        · obtain rfl : j = r := by omega
          have S11 := hide (S10.out.trans (HBR.out.mono S10.out.size))
          clear hbr
          go_wp2_with fail
          refine (drawRollOn_calls _ _ (R1.out.below S11.out)).mono ?_
          rintro e wa ⟨x1, x2, x3, rfl, b⟩
          have Sa := hide (S11.out.trans (b.mono S11.out.size))
          clear b
          go_wp2_with fail
          refine (rollOn_calls x1 x2 x3 _).mono ?_
          rintro e wb ⟨rfl, b⟩
          have Sb := hide (Sa.out.trans (b.mono Sa.out.size))
          clear b Sa
          go_wp2_with fail
          refine (sRollOn_calls x1 x2 x3 _).mono ?_
          rintro e wc ⟨rfl, b⟩
          have Sc := hide (Sb.out.trans (b.mono Sb.out.size))
          clear b Sb
          generalize (rollR x1 x2 x3).1 = y1
          generalize (rollR x1 x2 x3).2 = y2
          go_wp2_with fail
          refine (drawFingerOf_calls _ _ (R1.out.below Sc.out)).mono ?_
          rintro e wd ⟨t, ht, rfl, b⟩
          have Sd := hide (Sc.out.trans (b.mono Sc.out.size))
          clear b Sc
          go_wp2_with fail
          refine (fingerOf_calls t _ (by omega)).mono ?_
          rintro e we ⟨rfl, b⟩
          have Se := hide (Sd.out.trans (b.mono Sd.out.size))
          clear b Sd
          go_wp2_with fail
          refine (sFingerOf_calls t _ (by omega)).mono ?_
          rintro e wf ⟨rfl, b⟩
          have Sf := hide (Se.out.trans (b.mono Se.out.size))
          clear b Se
          by_cases ht4 : t.size = 4
          case neg =>
            rw [show fingR t = (0, false) from if_neg ht4]
            go_wp2
            go_ret
            exact ⟨by simp, Sf.out⟩
          rw [show fingR t = (((fg (bs t) : Nat) : Int), true) from if_pos ht4]
          obtain ⟨z, u, hu, hz, hex, hz0, hro⟩ := fing_next t ht4
          have hlg := fg_lt (bs t)
          have hex4 := hex
          rw [ht4] at hex4
          have hat0 : t[0].toNat = z := by rw [hz0]; exact (bs_at9 t 0 (by omega)).symm
          generalize fg (bs t) = G at hro hlg ⊢
          clear hz0
          go_wp2_with fail
          refine (numberOf_calls _ _ (R0.out.below Sf.out)).mono ?_
          rintro e wg ⟨n, hn9, rfl, rfl⟩
          have hm1 : (0 : Int) ≤ (n : Int) := by omega
          obtain ⟨x, hx⟩ : ∃ x, x = n % 256 := ⟨_, rfl⟩
          have hx2 : x < 256 := by omega
          have hx3 : (n : Int) % 256 = (x : Int) := by omega
          have HX := hide hx
          clear hx
          have hcv : (convert 22 9 (.slice (some ⟨wf.heap.size, 0, none⟩) 1 1)).run Try.prog (wf.alloc (.cells #[.int .u8 (x : Int)] 5)).drew = .ok (.string (ofN [x])) (wf.alloc (.cells #[.int .u8 (x : Int)] 5)).drew := byte_text x hx2 wf.drew
          have hadd := fun W : World => run_string_add_sum (P := Try.prog) (w := W) u (ofN [x]) (by rw [ofN_size]; simp; omega)
          obtain ⟨y3, hfy, hry⟩ := hro x hx2
          have HF := hide hfy
          have HR' := hide hry
          have hx4 : IntKind.u8.wrap (x : Int) = (x : Int) := by simp [IntKind.wrap, IntKind.bits, IntKind.signed]; omega
          clear hro hm1 hfy hry
          have ht4' : (t.size : Int) = 4 := by omega
          have hus : (u ++ ofN [x]).size ≤ 1048576 := by rw [ByteArray.size_append, hu, ofN_size]; simp
          go_wp2
          go_region_with (go_at_call 26; refine (fingerOf_calls (u ++ ofN [x]) _ hus).mono ?_; rintro e wh ⟨rfl, bh⟩; rw [HF.out]; have Sh := hide ((Sf.out.alloc Sf.out.size (.cells #[.int .u8 (x : Int)] 5)).drew.trans (bh.mono (Nat.le_trans Sf.out.size (by show wf.heap.size ≤ (wf.alloc _).heap.size; simp)))); clear bh)
          go_wp2_with fail
          refine (rollOn_calls (G : Int) (z : Int) (x : Int) _).mono ?_
          rintro e wi ⟨rfl, b⟩
          have Si := hide (Sh.out.trans (b.mono Sh.out.size))
          clear b Sh
          rw [HR'.out]
          go_wp2
          go_ret
          exact ⟨rfl, Si.out⟩
end Go.Proofs.Ytaamkkfjafedgaa

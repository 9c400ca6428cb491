/-
  A frame read: the model's ReadFrame and CheckFrame, call by call. No condition but a bound on the text's length.
-/
import Derived.Test.YtpgmocogffolaaaRecoverFromB10
namespace Go.Proofs.Ytpgmocogffolaaa
open Go.RowKit
set_option linter.unusedVariables false

theorem val_parts (l : List Nat) (h : 6 ≤ l.length) : valB (l.take 1) = kindOf l ∧ valB ((l.drop 1).take 2) = atOf l ∧ valB ((l.drop 3).take 2) = epochOf l := by
  match l, h with
  | a :: b :: c :: d :: e :: f :: r, _ => simp [valB, kindOf, atOf, epochOf]

theorem rw_three (s : ByteArray) (hs : s.size = 28) (h16 : longOf (bs s) ≤ 16) :
    (¬ goodF (kindOf (bs s)) (atOf (bs s)) (epochOf (bs s)) (ofN (bodyOf (bs s))).size ∧ rwR s = frNo 3) ∨
    (goodF (kindOf (bs s)) (atOf (bs s)) (epochOf (bs s)) (ofN (bodyOf (bs s))).size ∧ ¬ ofN (frB (kindOf (bs s)) (atOf (bs s)) (epochOf (bs s)) (bs (ofN (bodyOf (bs s))))) = s ∧ rwR s = frNo 3) ∨
    (goodF (kindOf (bs s)) (atOf (bs s)) (epochOf (bs s)) (ofN (bodyOf (bs s))).size ∧ ofN (frB (kindOf (bs s)) (atOf (bs s)) (epochOf (bs s)) (bs (ofN (bodyOf (bs s))))) = s ∧ rwR s = ⟨kindOf (bs s), atOf (bs s), epochOf (bs s), ofN (bodyOf (bs s)), 0, true⟩) := by
  have hlen : (bs s).length = 28 := by rw [bs_length]; exact hs
  have hz0 : kindOf (bs s) < 256 := getD_lt (bs_lt s) 0
  have hz1 : (bs s).getD 1 0 < 256 := getD_lt (bs_lt s) 1
  have hz2 : (bs s).getD 2 0 < 256 := getD_lt (bs_lt s) 2
  have hz3 : (bs s).getD 3 0 < 256 := getD_lt (bs_lt s) 3
  have hz4 : (bs s).getD 4 0 < 256 := getD_lt (bs_lt s) 4
  have hA : atOf (bs s) < 65536 := by unfold atOf; omega
  have hE : epochOf (bs s) < 65536 := by unfold epochOf; omega
  have hbl : (bodyOf (bs s)).length = longOf (bs s) := by
    unfold bodyOf
    rw [List.length_take, List.length_drop, hlen]
    omega
  have hbsm : ∀ x ∈ bodyOf (bs s), x < 256 := fun x hx => bs_lt s x (List.mem_of_mem_drop (List.mem_of_mem_take hx))
  have hBs : (ofN (bodyOf (bs s))).size = longOf (bs s) := by rw [ofN_size]; exact hbl
  rw [hBs, bs_ofN hbsm]
  by_cases hg : goodF (kindOf (bs s)) (atOf (bs s)) (epochOf (bs s)) (longOf (bs s))
  · by_cases he : frB (kindOf (bs s)) (atOf (bs s)) (epochOf (bs s)) (bodyOf (bs s)) = bs s
    · right; right
      refine ⟨hg, by rw [he, ofN_bs], if_pos ⟨h16, hg, he⟩⟩
    · right; left
      refine ⟨hg, fun h => he ?_, if_neg (fun h => he h.2.2)⟩
      have h2 := congrArg bs h
      rw [bs_ofN (frB_small hz0 hA hE (by omega) hbsm)] at h2
      exact h2
  · left
    exact ⟨hg, if_neg (fun h => hg h.2.1)⟩

set_option maxRecDepth 100000 in
set_option maxHeartbeats 1600000 in
theorem sReadFrame_calls (s : ByteArray) (w : World) (hsz : s.size ≤ maxLen) :
    Calls Try.prog 50 #[.string s] w fun e w' => e = .returned (.tuple #[.agg #[.int .i64 (rdR s).K, .int .i64 (rdR s).A, .int .i64 (rdR s).E, .string (rdR s).B], .int .i64 (rdR s).code, .bool (rdR s).ok]) ∧ Below w.heap.size w w' := by
  unfold maxLen at hsz
  have B0 := hide (below_box w (.cells #[.int .i64 0, .int .i64 0, .int .i64 0, .string ⟨#[]⟩] 69))
  by_cases h28 : s.size = 28
  case neg =>
    have er : rdR s = frNo 1 := if_neg h28
    have hne : ¬ (s.size : Int) = 28 := by omega
    have hneb : ((s.size : Int) == 28) = false := by simp; omega
    rw [er]
    clear er h28
    go_enter Try.func50, Try.ntmps50
    go_wp2
    (try simp only [Exit.inBlock, Exit.then])
    exact bodyPost_ret (res_frame3 rfl _ _ w.heap.size 0 0 0 ⟨#[]⟩ (0, 0) rfl (heap_alloc_new w _)) rfl ⟨rfl, below_box w _⟩
  have H28 := hide h28
  have h28i : (s.size : Int) = 28 := by omega
  have hlen : (bs s).length = 28 := by rw [bs_length]; exact h28
  have hT : bs (s.extract 0 24) = (bs s).take 24 := bs_take s 24
  have hD : bs (s.extract 24 28) = (bs s).drop 24 := by rw [← h28]; exact bs_drop s 24
  have hts : (s.extract 0 24).size ≤ 1048576 := by rw [← bs_length, hT, List.length_take, hlen]; omega
  have hlt : Crc.on 0 ((bs s).take 24) < 4294967296 := Crc.on_lt (by decide) (mem_take_lt (bs_lt s) 24)
  have C56 : Hid (∀ w', Calls Try.prog 105 #[.int .i64 0, .string (s.extract 0 24)] w' fun e w'' => e = .returned (.int .i64 ((Crc.on 0 ((bs s).take 24) : Nat) : Int)) ∧ w' = w'') := by
    show ∀ w', _
    intro w'
    have := l5On_calls 0 (s.extract 0 24) w' (by decide) hts
    rw [hT] at this
    exact this
  have C55 : Hid (∀ w', Calls Try.prog 104 #[.int .i64 ((Crc.on 0 ((bs s).take 24) : Nat) : Int)] w' fun e w'' => e = .returned (.string (ofN (low4 (Crc.on 0 ((bs s).take 24))))) ∧ Below w'.heap.size w' w'') :=
    fun w' => l6Low_calls _ w' hlt
  have CASES : Hid ((s.extract 24 28 = ofN (low4 (Crc.on 0 ((bs s).take 24))) ∧ rdR s = rwR s) ∨ (¬ s.extract 24 28 = ofN (low4 (Crc.on 0 ((bs s).take 24))) ∧ rdR s = frNo 2)) := by
    show _ ∨ _
    by_cases he : (bs s).drop 24 = low4 (Crc.on 0 ((bs s).take 24))
    · left
      refine ⟨?_, ?_⟩
      · apply bs_inj
        rw [hD, bs_ofN (low4_small _)]
        exact he
      · unfold rdR
        rw [if_pos h28, if_pos he]
        rfl
    · right
      refine ⟨fun h => he ?_, ?_⟩
      · rw [← hD, h, bs_ofN (low4_small _)]
      · unfold rdR
        rw [if_pos h28, if_neg he]
  generalize ofN (low4 (Crc.on 0 ((bs s).take 24))) = Y at C55 CASES
  generalize Crc.on 0 ((bs s).take 24) = n at C55 C56 hlt
  clear hT hts hD
  have FX : Hid (∀ w1 : World, Below (w.alloc (.cells #[.int .i64 0, .int .i64 0, .int .i64 0, .string ⟨#[]⟩] 69)).drew.heap.size (w.alloc (.cells #[.int .i64 0, .int .i64 0, .int .i64 0, .string ⟨#[]⟩] 69)).drew w1 →
      Below w.heap.size w w1 ∧ w.heap.size < w1.heap.size ∧ w1.heap[w.heap.size]? = some (.cells #[.int .i64 0, .int .i64 0, .int .i64 0, .string ⟨#[]⟩] 69 (0, 0))) := by
    show ∀ w1 : World, _
    intro w1 b1
    have b2 : Below (w.alloc (.cells #[.int .i64 0, .int .i64 0, .int .i64 0, .string ⟨#[]⟩] 69)).heap.size (w.alloc (.cells #[.int .i64 0, .int .i64 0, .int .i64 0, .string ⟨#[]⟩] 69)) w1 := (Below.refl _ _).drew.trans b1
    exact ⟨B0.out.trans (b2.mono (by simp)), by have := b2.size; simp at this; omega, box_at b2⟩
  rcases CASES.out with ⟨he, er⟩ | ⟨he, er⟩
  case inr =>
    have hsl : ¬ Y.toList = (s.extract 24 28).toList := fun h => he (toList_inj h.symm)
    have hslb : (Y.toList == (s.extract 24 28).toList) = false := by simpa using hsl
    have ER := hide er
    clear he er CASES
    go_enter Try.func50, Try.ntmps50
    go_wp2
    go_region_held3 (fun _ => True) (trivial) ((first | (go_at_call 105; refine (C56.out _).mono ?_; rintro e' w1 ⟨rfl, rfl⟩) | (go_at_call 104; refine (C55.out _).mono ?_; rintro e' w1 ⟨rfl, b1⟩)))
    obtain ⟨s1, l1, h1⟩ := FX.out _ b1
    have S1 := hide s1
    have H1 := hide h1
    obtain ⟨⟨p0, p1, p2, p3⟩, q0, q1, q2, q3⟩ := cells4 h1
    clear s1 h1 b1
    go_wp2
    (try simp only [Exit.inBlock, Exit.then])
    exact bodyPost_ret (res_frame3 rfl _ _ w.heap.size 0 0 0 ⟨#[]⟩ (0, 0) rfl (store4 H1.out _ _ _ _)) rfl ⟨by rw [ER.out]; rfl, below4 S1.out (Nat.le_refl _) _ _ _ _⟩
  have ER := hide er
  rw [← he] at C55
  clear he er CASES
  obtain ⟨v1, v2, v3⟩ := val_parts (bs s) (by omega)
  have V1 : Hid (∀ w', Calls Try.prog 106 #[.string (s.extract 0 1)] w' fun e w'' => e = .returned (.int .i64 ((kindOf (bs s) : Nat) : Int)) ∧ w' = w'') := by
    show ∀ w', _
    intro w'
    have := l6Value_calls (s.extract 0 1) w' (by rw [← bs_length, bs_mid, List.length_take]; omega)
    rw [bs_mid, List.drop_zero, Nat.sub_zero, v1] at this
    exact this
  have V2 : Hid (∀ w', Calls Try.prog 106 #[.string (s.extract 1 3)] w' fun e w'' => e = .returned (.int .i64 ((atOf (bs s) : Nat) : Int)) ∧ w' = w'') := by
    show ∀ w', _
    intro w'
    have := l6Value_calls (s.extract 1 3) w' (by rw [← bs_length, bs_mid, List.length_take]; omega)
    rw [bs_mid, v2] at this
    exact this
  have V3 : Hid (∀ w', Calls Try.prog 106 #[.string (s.extract 3 5)] w' fun e w'' => e = .returned (.int .i64 ((epochOf (bs s) : Nat) : Int)) ∧ w' = w'') := by
    show ∀ w', _
    intro w'
    have := l6Value_calls (s.extract 3 5) w' (by rw [← bs_length, bs_mid, List.length_take]; omega)
    rw [bs_mid, v3] at this
    exact this
  clear v1 v2 v3
  have hN : longOf (bs s) < 256 := getD_lt (bs_lt s) 5
  have hN5 : s[5].toNat = longOf (bs s) := (bs_getD s 5 (show 5 < s.size by omega)).symm
  have hz0 : kindOf (bs s) < 256 := getD_lt (bs_lt s) 0
  have hz1 : (bs s).getD 1 0 < 256 := getD_lt (bs_lt s) 1
  have hz2 : (bs s).getD 2 0 < 256 := getD_lt (bs_lt s) 2
  have hz3 : (bs s).getD 3 0 < 256 := getD_lt (bs_lt s) 3
  have hz4 : (bs s).getD 4 0 < 256 := getD_lt (bs_lt s) 4
  have hA : atOf (bs s) < 65536 := by unfold atOf; omega
  have hE : epochOf (bs s) < 65536 := by unfold epochOf; omega
  have T3 : Hid (longOf (bs s) ≤ 16 → _) := hide (rw_three s h28)
  have NO : Hid (¬ longOf (bs s) ≤ 16 → rwR s = frNo 3) := fun h => if_neg (fun h' => h h'.1)
  have hBd : s.extract 6 (6 + longOf (bs s)) = ofN (bodyOf (bs s)) := by
    apply bs_inj
    rw [bs_mid, Nat.add_sub_cancel_left, bs_ofN (l := bodyOf (bs s)) (fun x hx => bs_lt s x (List.mem_of_mem_drop (List.mem_of_mem_take hx)))]
    rfl
  have hBs : longOf (bs s) ≤ 16 → (ofN (bodyOf (bs s))).size ≤ 16 := by
    intro h
    rw [ofN_size]
    unfold bodyOf
    rw [List.length_take]
    omega
  have HBs := hide hBs
  clear hBs hz1 hz2 hz3 hz4
  generalize ofN (bodyOf (bs s)) = Bd at T3 hBd HBs
  generalize kindOf (bs s) = z0 at hz0 T3 V1
  generalize atOf (bs s) = zA at hA T3 V2
  generalize epochOf (bs s) = zE at hE T3 V3
  generalize longOf (bs s) = N at hN hN5 T3 NO HBs hBd
  clear hlen
  have FX2 : Hid (∀ (w1 : World), Below w.heap.size w w1 → w.heap.size < w1.heap.size → w1.heap[w.heap.size]? = some (.cells #[.int .i64 0, .int .i64 0, .int .i64 0, .string ⟨#[]⟩] 69 (0, 0)) →
      ∀ w3, Below (w1.alloc (.cells #[.int .i64 z0, .int .i64 zA, .int .i64 zE, .string Bd] 69)).drew.heap.size (w1.alloc (.cells #[.int .i64 z0, .int .i64 zA, .int .i64 zE, .string Bd] 69)).drew w3 →
      Below w.heap.size w w3 ∧ w3.heap[w.heap.size]? = some (.cells #[.int .i64 0, .int .i64 0, .int .i64 0, .string ⟨#[]⟩] 69 (0, 0)) ∧ w1.heap.size < w3.heap.size ∧ w3.heap[w1.heap.size]? = some (.cells #[.int .i64 z0, .int .i64 zA, .int .i64 zE, .string Bd] 69 (0, 0))) := by
    show ∀ (w1 : World), _
    intro w1 hs1 hl1 hh1 w3 b3
    have b1 : Below w1.heap.size w1 w3 := ((Below.refl _ _).alloc (Nat.le_refl _) _).drew.trans (b3.mono (by simp))
    refine ⟨hs1.trans (b1.mono (by omega)), (b1.block w.heap.size hl1).trans hh1, by have := b3.size; simp at this; omega, ?_⟩
    rw [b3.block w1.heap.size (by simp)]
    exact heap_alloc_new w1 _
  have hd1 : ∀ (X : World) (p : Addr) (v : Value), X.drew.setCell p v = (X.setCell p v).drew := fun _ _ _ => rfl
  have mk1 : True := trivial
  have mk2 : True := trivial
  go_enter Try.func50, Try.ntmps50
  go_wp2
  go_region_held3 (fun _ => True) (trivial) ((first | (go_at_call 105; refine (C56.out _).mono ?_; rintro e' w1 ⟨rfl, rfl⟩) | (go_at_call 104; refine (C55.out _).mono ?_; rintro e' w1 ⟨rfl, b1⟩)))
  obtain ⟨s1, l1, h1⟩ := FX.out _ b1
  have S1 := hide s1
  have H1 := hide h1
  clear s1 h1 b1 FX C55 C56
  go_wp2
  go_region_held3 (fun _ => True) (trivial) ((first
    | (clear mk1; go_at_call 106; refine (V1.out _).mono ?_; rintro e' w2 ⟨rfl, rfl⟩)
    | (clear mk2; go_at_call 106; refine (V2.out _).mono ?_; rintro e' w2 ⟨rfl, rfl⟩)
    | (go_at_call 106; refine (V3.out _).mono ?_; rintro e' w2 ⟨rfl, rfl⟩)))
  all_goals
    by_cases h16 : N ≤ 16
    case neg =>
      have ER2 := hide (NO.out h16)
      obtain ⟨⟨p0, p1, p2, p3⟩, q0, q1, q2, q3⟩ := cells4 H1.out
      have hne : ¬ w1.heap.size = w.heap.size := by omega
      have hne' : ¬ w.heap.size = w1.heap.size := by omega
      go_wp2
      (try simp only [Exit.inBlock, Exit.then])
      exact bodyPost_ret (res_frame3 rfl _ _ w.heap.size 0 0 0 ⟨#[]⟩ (0, 0) rfl (store4_alloc H1.out _ _ _ _ _)) rfl ⟨by rw [ER.out, ER2.out]; rfl, (below4_alloc S1.out (Nat.le_refl _) (Nat.le_refl _) _ _ _ _ _).drew⟩
    have C3 := hide (T3.out h16)
    have B16 := hide (HBs.out h16)
    have hBm : Bd.size ≤ maxLen := by have := B16.out; unfold maxLen; omega
    have HBM := hide hBm
    clear hBm
    have hsum : IntKind.i64.wrap (6 + (N : Int)) = 6 + (N : Int) := by rw [IntKind.wrap_i64]; omega
    have hsi : (6 + (N : Int)).toNat = 6 + N := by omega
    have hle : 6 + (N : Int) ≤ 28 := by omega
    go_wp2_with fail
    refine (sGoodFrame_calls z0 zA zE Bd _ HBM.out).mono ?_
    rintro e' w3 ⟨rfl, b3⟩
    obtain ⟨s3, h3, l3, f3⟩ := FX2.out w1 S1.out l1 H1.out _ b3
    have S3 := hide s3
    have H3 := hide h3
    have F3 := hide f3
    clear b3 s3
    rcases C3.out with ⟨hg, er⟩ | ⟨hg, hneq, er⟩ | ⟨hg, heq, er⟩
    · have ed : goodD z0 zA zE Bd.size = false := goodD_no hg
      rw [ed]
      have ER2 := hide er
      obtain ⟨⟨p0, p1, p2, p3⟩, q0, q1, q2, q3⟩ := cells4 h3
      clear ed er hg h3 f3
      go_wp2
      (try simp only [Exit.inBlock, Exit.then])
      exact bodyPost_ret (res_frame3 rfl _ _ w.heap.size 0 0 0 ⟨#[]⟩ (0, 0) rfl (store4 H3.out _ _ _ _)) rfl ⟨by rw [ER.out, ER2.out]; rfl, below4 S3.out (Nat.le_refl _) _ _ _ _⟩
    · have ed : goodD z0 zA zE Bd.size = true := goodD_yes hg
      rw [ed]
      have ER2 := hide er
      have HN := hide hneq
      obtain ⟨⟨c0, c1, c2, c3⟩, _, _, _, _⟩ := cells4 f3
      clear ed er hneq h3 f3 hg
      go_wp2_with fail
      refine (l6Frame_calls z0 zA zE Bd _ hz0 hA hE B16.out).mono ?_
      rintro e' w4 ⟨rfl, b4⟩
      have S4 := hide (S3.out.trans (b4.mono S3.out.size))
      have h4 : w4.heap[w.heap.size]? = some (.cells #[.int .i64 0, .int .i64 0, .int .i64 0, .string ⟨#[]⟩] 69 (0, 0)) := (b4.block w.heap.size (by omega)).trans H3.out
      have H4 := hide h4
      obtain ⟨⟨p0, p1, p2, p3⟩, q0, q1, q2, q3⟩ := cells4 h4
      have hn0 := HN.out
      generalize ofN (frB z0 zA zE (bs Bd)) = T at hn0 ⊢
      have hsl : ¬ T.toList = s.toList := fun h => hn0 (toList_inj h)
      have hslb : (T.toList == s.toList) = false := by simpa using hsl
      clear hn0 h4 b4 c0 c1 c2 c3
      go_wp2
      (try simp only [Exit.inBlock, Exit.then])
      exact bodyPost_ret (res_frame3 rfl _ _ w.heap.size 0 0 0 ⟨#[]⟩ (0, 0) rfl (store4 H4.out _ _ _ _)) rfl ⟨by rw [ER.out, ER2.out]; rfl, below4 S4.out (Nat.le_refl _) _ _ _ _⟩
    · have ed : goodD z0 zA zE Bd.size = true := goodD_yes hg
      rw [ed]
      have ER2 := hide er
      have HN := hide heq
      obtain ⟨⟨c0, c1, c2, c3⟩, _, _, _, _⟩ := cells4 f3
      clear ed er heq h3 f3 hg
      go_wp2_with fail
      refine (l6Frame_calls z0 zA zE Bd _ hz0 hA hE B16.out).mono ?_
      rintro e' w4 ⟨rfl, b4⟩
      rw [HN.out]
      have S4 := hide (S3.out.trans (b4.mono S3.out.size))
      have h4 : w4.heap[w.heap.size]? = some (.cells #[.int .i64 0, .int .i64 0, .int .i64 0, .string ⟨#[]⟩] 69 (0, 0)) := (b4.block w.heap.size (by omega)).trans H3.out
      have f4 : w4.heap[w1.heap.size]? = some (.cells #[.int .i64 z0, .int .i64 zA, .int .i64 zE, .string Bd] 69 (0, 0)) := (b4.block w1.heap.size l3).trans F3.out
      have H4 := hide h4
      obtain ⟨⟨p0, p1, p2, p3⟩, q0, q1, q2, q3⟩ := cells4 h4
      clear c0 c1 c2 c3
      obtain ⟨⟨c0, c1, c2, c3⟩, _, _, _, _⟩ := cells4 f4
      clear h4 f4 b4
      go_wp2
      (try simp only [Exit.inBlock, Exit.then])
      exact bodyPost_ret (res_frame3 rfl _ _ w.heap.size z0 zA zE Bd (0, 0) rfl (store4 H4.out _ _ _ _)) rfl ⟨by rw [ER.out, ER2.out]; rfl, below4 S4.out (Nat.le_refl _) _ _ _ _⟩

set_option maxRecDepth 100000 in
set_option maxHeartbeats 1600000 in
theorem sCheckFrame_calls (s : ByteArray) (kind at_ least : Int) (w : World) (hsz : s.size ≤ maxLen) :
    Calls Try.prog 53 #[.string s, .int .i64 kind, .int .i64 at_, .int .i64 least] w fun e w' => e = .returned (.tuple #[.agg #[.int .i64 (ckR s kind at_ least).K, .int .i64 (ckR s kind at_ least).A, .int .i64 (ckR s kind at_ least).E, .string (ckR s kind at_ least).B], .int .i64 (ckR s kind at_ least).code, .bool (ckR s kind at_ least).ok]) ∧ Below w.heap.size w w' := by
  have B0 := hide (below_box w (.cells #[.int .i64 0, .int .i64 0, .int .i64 0, .string ⟨#[]⟩] 69))
  have hok : (rdR s).ok = true → (rdR s).code = 0 := by
    unfold rdR
    split <;> (try split) <;> (try split) <;> simp [frNo]
  rcases hR : rdR s with ⟨K, A, E, B, code, ok⟩
  rw [hR] at hok
  simp only [] at hok
  have HR := hide hR
  have HS := hide hsz
  clear hsz
  go_enter Try.func53, Try.ntmps53
  go_wp2_with fail
  refine (sReadFrame_calls s _ HS.out).mono ?_
  rintro e' w2 ⟨rfl, b2⟩
  rw [HR.out]
  simp only []
  have h2 := box_at b2
  have S2 := hide (B0.out.trans (b2.mono (by simp)))
  have l2 : w.heap.size < w2.heap.size := by have := b2.size; simp at this; omega
  clear b2
  have H2 := hide h2
  obtain ⟨⟨p0, p1, p2, p3⟩, q0, q1, q2, q3⟩ := cells4 h2
  clear h2
  have hne : ¬ w2.heap.size = w.heap.size := by omega
  have hne' : ¬ w.heap.size = w2.heap.size := by omega
  cases ok with
  | false =>
    have er : ckR s kind at_ least = frNo code := by unfold ckR; rw [hR]; rfl
    have ER := hide er
    clear er hok hR
    · go_wp2
      (try simp only [Exit.inBlock, Exit.then])
      exact bodyPost_ret (res_frame3 rfl _ _ w.heap.size 0 0 0 ⟨#[]⟩ (0, 0) rfl (store4_alloc H2.out _ _ _ _ _)) rfl ⟨by rw [ER.out]; rfl, below4_alloc S2.out (Nat.le_refl _) (Nat.le_refl _) _ _ _ _ _⟩

  | true =>
    obtain rfl := hok rfl
    clear hok
    by_cases h1 : K = kind
    case neg =>
      have er : ckR s kind at_ least = frNo 3 := by unfold ckR; rw [hR, if_pos rfl, if_neg h1]
      have ER := hide er
      have h1b : (K == kind) = false := by simpa using h1
      clear er hR
      go_wp2
      (try simp only [Exit.inBlock, Exit.then])
      exact bodyPost_ret (res_frame3 rfl _ _ w.heap.size 0 0 0 ⟨#[]⟩ (0, 0) rfl (store4_alloc H2.out _ _ _ _ _)) rfl ⟨by rw [ER.out]; rfl, below4_alloc S2.out (Nat.le_refl _) (Nat.le_refl _) _ _ _ _ _⟩

    by_cases h2 : A = at_
    case neg =>
      have er : ckR s kind at_ least = frNo 4 := by unfold ckR; rw [hR, if_pos rfl, if_pos h1, if_neg h2]
      have ER := hide er
      have h2b : (A == at_) = false := by simpa using h2
      subst h1
      clear er hR
      go_wp2
      (try simp only [Exit.inBlock, Exit.then])
      exact bodyPost_ret (res_frame3 rfl _ _ w.heap.size 0 0 0 ⟨#[]⟩ (0, 0) rfl (store4_alloc H2.out _ _ _ _ _)) rfl ⟨by rw [ER.out]; rfl, below4_alloc S2.out (Nat.le_refl _) (Nat.le_refl _) _ _ _ _ _⟩

    by_cases h3 : least ≤ E
    case neg =>
      have er : ckR s kind at_ least = frNo 5 := by unfold ckR; rw [hR, if_pos rfl, if_pos h1, if_pos h2, if_neg h3]
      have ER := hide er
      have h3' : E < least := by omega
      subst h1
      subst h2
      clear er hR
      go_wp2
      (try simp only [Exit.inBlock, Exit.then])
      exact bodyPost_ret (res_frame3 rfl _ _ w.heap.size 0 0 0 ⟨#[]⟩ (0, 0) rfl (store4_alloc H2.out _ _ _ _ _)) rfl ⟨by rw [ER.out]; rfl, below4_alloc S2.out (Nat.le_refl _) (Nat.le_refl _) _ _ _ _ _⟩

    · have er : ckR s kind at_ least = ⟨K, A, E, B, 0, true⟩ := by unfold ckR; rw [hR, if_pos rfl, if_pos h1, if_pos h2, if_pos h3]
      have ER := hide er
      have h3' : ¬ E < least := by omega
      subst h1
      subst h2
      clear er hR
      go_wp2
      (try simp only [Exit.inBlock, Exit.then])
      exact bodyPost_ret (res_frame3 rfl _ _ w.heap.size K A E B (0, 0) rfl (store4_alloc H2.out _ _ _ _ _)) rfl ⟨by rw [ER.out]; rfl, below4_alloc S2.out (Nat.le_refl _) (Nat.le_refl _) _ _ _ _ _⟩
end Go.Proofs.Ytpgmocogffolaaa

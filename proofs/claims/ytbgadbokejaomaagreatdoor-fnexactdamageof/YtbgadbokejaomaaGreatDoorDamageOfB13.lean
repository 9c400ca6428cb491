/-
  A frame read: the model's ReadFrame and CheckFrame, call by call. No condition but a bound on the text's length. Where a stripe fits: the program's FitsStripe and its model's, at every disk and number. No condition but that the number is one of 64 bits. What a sector of a stripe tells: the program's findPiece, and the model's l7Read. Each contract says what it asks.
-/
import Derived.Test.YtbgadbokejaomaaGreatDoorDamageOfB11
import Derived.Test.YtbgadbokejaomaaGreatDoorDamageOfB8
import Derived.Test.YtbgadbokejaomaaGreatDoorDamageOfB9
namespace Go.Proofs.YtbgadbokejaomaaGreatDoor
open Go.RowKit
set_option linter.unusedVariables false

theorem val_parts (l : List Nat) (h : 6 ≤ l.length) : valB (l.take 1) = kindOf l ∧ valB ((l.drop 1).take 2) = atOf l ∧ valB ((l.drop 3).take 2) = epochOf l := by
  match l, h with
  | a :: b :: c :: d :: e :: f :: r, _ => simp [valB, kindOf, atOf, epochOf]

theorem rw_three (s : ByteArray) (hs : s.size = 28) (h16 : longOf (bs s) ≤ 16) :
    (¬ goodF (kindOf (bs s)) (atOf (bs s)) (epochOf (bs s)) (ofN (bodyOf (bs s))).size ∧ rwR s = frNo 3) ∨
    (goodF (kindOf (bs s)) (atOf (bs s)) (epochOf (bs s)) (ofN (bodyOf (bs s))).size ∧ ¬ ofN (frB (kindOf (bs s)) (atOf (bs s)) (epochOf (bs s)) (bs (ofN (bodyOf (bs s))))) = s ∧ rwR s = frNo 3) ∨
    (goodF (kindOf (bs s)) (atOf (bs s)) (epochOf (bs s)) (ofN (bodyOf (bs s))).size ∧ ofN (frB (kindOf (bs s)) (atOf (bs s)) (epochOf (bs s)) (bs (ofN (bodyOf (bs s))))) = s ∧ rwR s = ⟨kindOf (bs s), atOf (bs s), epochOf (bs s), ofN (bodyOf (bs s)), 0, true⟩) := by
  have hlen : (bs s).length = 28 := by rw [bs_length]; exact hs
  have hz0 : kindOf (bs s) < 256 := getD_lt (bs_lt s) 0
  have hz1 : (bs s).getD 1 0 < 256 := getD_lt (bs_lt s) 1
  have hz2 : (bs s).getD 2 0 < 256 := getD_lt (bs_lt s) 2
  have hz3 : (bs s).getD 3 0 < 256 := getD_lt (bs_lt s) 3
  have hz4 : (bs s).getD 4 0 < 256 := getD_lt (bs_lt s) 4
  have hA : atOf (bs s) < 65536 := by unfold atOf; omega
  have hE : epochOf (bs s) < 65536 := by unfold epochOf; omega
  have hbl : (bodyOf (bs s)).length = longOf (bs s) := by
    unfold bodyOf
    rw [List.length_take, List.length_drop, hlen]
    omega
  have hbsm : ∀ x ∈ bodyOf (bs s), x < 256 := fun x hx => bs_lt s x (List.mem_of_mem_drop (List.mem_of_mem_take hx))
  have hBs : (ofN (bodyOf (bs s))).size = longOf (bs s) := by rw [ofN_size]; exact hbl
  rw [hBs, bs_ofN hbsm]
  by_cases hg : goodF (kindOf (bs s)) (atOf (bs s)) (epochOf (bs s)) (longOf (bs s))
  · by_cases he : frB (kindOf (bs s)) (atOf (bs s)) (epochOf (bs s)) (bodyOf (bs s)) = bs s
    · right; right
      refine ⟨hg, by rw [he, ofN_bs], if_pos ⟨h16, hg, he⟩⟩
    · right; left
      refine ⟨hg, fun h => he ?_, if_neg (fun h => he h.2.2)⟩
      have h2 := congrArg bs h
      rw [bs_ofN (frB_small hz0 hA hE (by omega) hbsm)] at h2
      exact h2
  · left
    exact ⟨hg, if_neg (fun h => hg h.2.1)⟩

set_option maxRecDepth 100000 in
set_option maxHeartbeats 1600000 in
theorem sReadFrame_calls (s : ByteArray) (w : World) (hsz : s.size ≤ maxLen) :
    Calls Tryz.prog 214 #[.string s] w fun e w' => e = .returned (.tuple #[.agg #[.int .i64 (rdR s).K, .int .i64 (rdR s).A, .int .i64 (rdR s).E, .string (rdR s).B], .int .i64 (rdR s).code, .bool (rdR s).ok]) ∧ Below w.heap.size w w' := by
  unfold maxLen at hsz
  have B0 := hide (below_box w (.cells #[.int .i64 0, .int .i64 0, .int .i64 0, .string ⟨#[]⟩] 160))
  by_cases h28 : s.size = 28
  case neg =>
    have er : rdR s = frNo 1 := if_neg h28
    have hne : ¬ (s.size : Int) = 28 := by omega
    have hneb : ((s.size : Int) == 28) = false := by simp; omega
    rw [er]
    clear er h28
    go_enter Tryz.func214, Tryz.ntmps214
    go_wp2
    (try simp only [Exit.inBlock, Exit.then])
    exact bodyPost_ret (res_frame3 rfl _ _ w.heap.size 0 0 0 ⟨#[]⟩ (0, 0) rfl (heap_alloc_new w _)) rfl ⟨rfl, below_box w _⟩
  have H28 := hide h28
  have h28i : (s.size : Int) = 28 := by omega
  have hlen : (bs s).length = 28 := by rw [bs_length]; exact h28
  have hT : bs (s.extract 0 24) = (bs s).take 24 := bs_take s 24
  have hD : bs (s.extract 24 28) = (bs s).drop 24 := by rw [← h28]; exact bs_drop s 24
  have hts : (s.extract 0 24).size ≤ 1048576 := by rw [← bs_length, hT, List.length_take, hlen]; omega
  have hlt : Crc.on 0 ((bs s).take 24) < 4294967296 := Crc.on_lt (by decide) (mem_take_lt (bs_lt s) 24)
  have C56 : Hid (∀ w', Calls Tryz.prog 173 #[.int .i64 0, .string (s.extract 0 24)] w' fun e w'' => e = .returned (.int .i64 ((Crc.on 0 ((bs s).take 24) : Nat) : Int)) ∧ w' = w'') := by
    show ∀ w', _
    intro w'
    have := l5On_calls 0 (s.extract 0 24) w' (by decide) hts
    rw [hT] at this
    exact this
  have C55 : Hid (∀ w', Calls Tryz.prog 172 #[.int .i64 ((Crc.on 0 ((bs s).take 24) : Nat) : Int)] w' fun e w'' => e = .returned (.string (ofN (low4 (Crc.on 0 ((bs s).take 24))))) ∧ Below w'.heap.size w' w'') :=
    fun w' => l6Low_calls _ w' hlt
  have CASES : Hid ((s.extract 24 28 = ofN (low4 (Crc.on 0 ((bs s).take 24))) ∧ rdR s = rwR s) ∨ (¬ s.extract 24 28 = ofN (low4 (Crc.on 0 ((bs s).take 24))) ∧ rdR s = frNo 2)) := by
    show _ ∨ _
    by_cases he : (bs s).drop 24 = low4 (Crc.on 0 ((bs s).take 24))
    · left
      refine ⟨?_, ?_⟩
      · apply bs_inj
        rw [hD, bs_ofN (low4_small _)]
        exact he
      · unfold rdR
        rw [if_pos h28, if_pos he]
        rfl
    · right
      refine ⟨fun h => he ?_, ?_⟩
      · rw [← hD, h, bs_ofN (low4_small _)]
      · unfold rdR
        rw [if_pos h28, if_neg he]
  generalize ofN (low4 (Crc.on 0 ((bs s).take 24))) = Y at C55 CASES
  generalize Crc.on 0 ((bs s).take 24) = n at C55 C56 hlt
  clear hT hts hD
  have FX : Hid (∀ w1 : World, Below (w.alloc (.cells #[.int .i64 0, .int .i64 0, .int .i64 0, .string ⟨#[]⟩] 160)).drew.heap.size (w.alloc (.cells #[.int .i64 0, .int .i64 0, .int .i64 0, .string ⟨#[]⟩] 160)).drew w1 →
      Below w.heap.size w w1 ∧ w.heap.size < w1.heap.size ∧ w1.heap[w.heap.size]? = some (.cells #[.int .i64 0, .int .i64 0, .int .i64 0, .string ⟨#[]⟩] 160 (0, 0))) := by
    show ∀ w1 : World, _
    intro w1 b1
    have b2 : Below (w.alloc (.cells #[.int .i64 0, .int .i64 0, .int .i64 0, .string ⟨#[]⟩] 160)).heap.size (w.alloc (.cells #[.int .i64 0, .int .i64 0, .int .i64 0, .string ⟨#[]⟩] 160)) w1 := (Below.refl _ _).drew.trans b1
    exact ⟨B0.out.trans (b2.mono (by simp)), by have := b2.size; simp at this; omega, box_at b2⟩
  rcases CASES.out with ⟨he, er⟩ | ⟨he, er⟩
  case inr =>
    have hsl : ¬ Y.toList = (s.extract 24 28).toList := fun h => he (toList_inj h.symm)
    have hslb : (Y.toList == (s.extract 24 28).toList) = false := by simpa using hsl
    have ER := hide er
    clear he er CASES
    go_enter Tryz.func214, Tryz.ntmps214
    go_wp2
    go_region_held3 (fun _ => True) (trivial) ((first | (go_at_call 173; refine (C56.out _).mono ?_; rintro e' w1 ⟨rfl, rfl⟩) | (go_at_call 172; refine (C55.out _).mono ?_; rintro e' w1 ⟨rfl, b1⟩)))
    obtain ⟨s1, l1, h1⟩ := FX.out _ b1
    have S1 := hide s1
    have H1 := hide h1
    obtain ⟨⟨p0, p1, p2, p3⟩, q0, q1, q2, q3⟩ := cells4 h1
    clear s1 h1 b1
    go_wp2
    (try simp only [Exit.inBlock, Exit.then])
    exact bodyPost_ret (res_frame3 rfl _ _ w.heap.size 0 0 0 ⟨#[]⟩ (0, 0) rfl (store4 H1.out _ _ _ _)) rfl ⟨by rw [ER.out]; rfl, below4 S1.out (Nat.le_refl _) _ _ _ _⟩
  have ER := hide er
  rw [← he] at C55
  clear he er CASES
  obtain ⟨v1, v2, v3⟩ := val_parts (bs s) (by omega)
  have V1 : Hid (∀ w', Calls Tryz.prog 243 #[.string (s.extract 0 1)] w' fun e w'' => e = .returned (.int .i64 ((kindOf (bs s) : Nat) : Int)) ∧ w' = w'') := by
    show ∀ w', _
    intro w'
    have := l6Value_calls (s.extract 0 1) w' (by rw [← bs_length, bs_mid, List.length_take]; omega)
    rw [bs_mid, List.drop_zero, Nat.sub_zero, v1] at this
    exact this
  have V2 : Hid (∀ w', Calls Tryz.prog 243 #[.string (s.extract 1 3)] w' fun e w'' => e = .returned (.int .i64 ((atOf (bs s) : Nat) : Int)) ∧ w' = w'') := by
    show ∀ w', _
    intro w'
    have := l6Value_calls (s.extract 1 3) w' (by rw [← bs_length, bs_mid, List.length_take]; omega)
    rw [bs_mid, v2] at this
    exact this
  have V3 : Hid (∀ w', Calls Tryz.prog 243 #[.string (s.extract 3 5)] w' fun e w'' => e = .returned (.int .i64 ((epochOf (bs s) : Nat) : Int)) ∧ w' = w'') := by
    show ∀ w', _
    intro w'
    have := l6Value_calls (s.extract 3 5) w' (by rw [← bs_length, bs_mid, List.length_take]; omega)
    rw [bs_mid, v3] at this
    exact this
  clear v1 v2 v3
  have hN : longOf (bs s) < 256 := getD_lt (bs_lt s) 5
  have hN5 : s[5].toNat = longOf (bs s) := (bs_getD s 5 (show 5 < s.size by omega)).symm
  have hz0 : kindOf (bs s) < 256 := getD_lt (bs_lt s) 0
  have hz1 : (bs s).getD 1 0 < 256 := getD_lt (bs_lt s) 1
  have hz2 : (bs s).getD 2 0 < 256 := getD_lt (bs_lt s) 2
  have hz3 : (bs s).getD 3 0 < 256 := getD_lt (bs_lt s) 3
  have hz4 : (bs s).getD 4 0 < 256 := getD_lt (bs_lt s) 4
  have hA : atOf (bs s) < 65536 := by unfold atOf; omega
  have hE : epochOf (bs s) < 65536 := by unfold epochOf; omega
  have T3 : Hid (longOf (bs s) ≤ 16 → _) := hide (rw_three s h28)
  have NO : Hid (¬ longOf (bs s) ≤ 16 → rwR s = frNo 3) := fun h => if_neg (fun h' => h h'.1)
  have hBd : s.extract 6 (6 + longOf (bs s)) = ofN (bodyOf (bs s)) := by
    apply bs_inj
    rw [bs_mid, Nat.add_sub_cancel_left, bs_ofN (l := bodyOf (bs s)) (fun x hx => bs_lt s x (List.mem_of_mem_drop (List.mem_of_mem_take hx)))]
    rfl
  have hBs : longOf (bs s) ≤ 16 → (ofN (bodyOf (bs s))).size ≤ 16 := by
    intro h
    rw [ofN_size]
    unfold bodyOf
    rw [List.length_take]
    omega
  have HBs := hide hBs
  clear hBs hz1 hz2 hz3 hz4
  generalize ofN (bodyOf (bs s)) = Bd at T3 hBd HBs
  generalize kindOf (bs s) = z0 at hz0 T3 V1
  generalize atOf (bs s) = zA at hA T3 V2
  generalize epochOf (bs s) = zE at hE T3 V3
  generalize longOf (bs s) = N at hN hN5 T3 NO HBs hBd
  clear hlen
  have FX2 : Hid (∀ (w1 : World), Below w.heap.size w w1 → w.heap.size < w1.heap.size → w1.heap[w.heap.size]? = some (.cells #[.int .i64 0, .int .i64 0, .int .i64 0, .string ⟨#[]⟩] 160 (0, 0)) →
      ∀ w3, Below (w1.alloc (.cells #[.int .i64 z0, .int .i64 zA, .int .i64 zE, .string Bd] 160)).drew.heap.size (w1.alloc (.cells #[.int .i64 z0, .int .i64 zA, .int .i64 zE, .string Bd] 160)).drew w3 →
      Below w.heap.size w w3 ∧ w3.heap[w.heap.size]? = some (.cells #[.int .i64 0, .int .i64 0, .int .i64 0, .string ⟨#[]⟩] 160 (0, 0)) ∧ w1.heap.size < w3.heap.size ∧ w3.heap[w1.heap.size]? = some (.cells #[.int .i64 z0, .int .i64 zA, .int .i64 zE, .string Bd] 160 (0, 0))) := by
    show ∀ (w1 : World), _
    intro w1 hs1 hl1 hh1 w3 b3
    have b1 : Below w1.heap.size w1 w3 := ((Below.refl _ _).alloc (Nat.le_refl _) _).drew.trans (b3.mono (by simp))
    refine ⟨hs1.trans (b1.mono (by omega)), (b1.block w.heap.size hl1).trans hh1, by have := b3.size; simp at this; omega, ?_⟩
    rw [b3.block w1.heap.size (by simp)]
    exact heap_alloc_new w1 _
  have hd1 : ∀ (X : World) (p : Addr) (v : Value), X.drew.setCell p v = (X.setCell p v).drew := fun _ _ _ => rfl
  have mk1 : True := trivial
  have mk2 : True := trivial
  go_enter Tryz.func214, Tryz.ntmps214
  go_wp2
  go_region_held3 (fun _ => True) (trivial) ((first | (go_at_call 173; refine (C56.out _).mono ?_; rintro e' w1 ⟨rfl, rfl⟩) | (go_at_call 172; refine (C55.out _).mono ?_; rintro e' w1 ⟨rfl, b1⟩)))
  obtain ⟨s1, l1, h1⟩ := FX.out _ b1
  have S1 := hide s1
  have H1 := hide h1
  clear s1 h1 b1 FX C55 C56
  go_wp2
  go_region_held3 (fun _ => True) (trivial) ((first
    | (clear mk1; go_at_call 243; refine (V1.out _).mono ?_; rintro e' w2 ⟨rfl, rfl⟩)
    | (clear mk2; go_at_call 243; refine (V2.out _).mono ?_; rintro e' w2 ⟨rfl, rfl⟩)
    | (go_at_call 243; refine (V3.out _).mono ?_; rintro e' w2 ⟨rfl, rfl⟩)))
  all_goals
    by_cases h16 : N ≤ 16
    case neg =>
      have ER2 := hide (NO.out h16)
      obtain ⟨⟨p0, p1, p2, p3⟩, q0, q1, q2, q3⟩ := cells4 H1.out
      have hne : ¬ w1.heap.size = w.heap.size := by omega
      have hne' : ¬ w.heap.size = w1.heap.size := by omega
      go_wp2
      (try simp only [Exit.inBlock, Exit.then])
      exact bodyPost_ret (res_frame3 rfl _ _ w.heap.size 0 0 0 ⟨#[]⟩ (0, 0) rfl (store4_alloc H1.out _ _ _ _ _)) rfl ⟨by rw [ER.out, ER2.out]; rfl, (below4_alloc S1.out (Nat.le_refl _) (Nat.le_refl _) _ _ _ _ _).drew⟩
    have C3 := hide (T3.out h16)
    have B16 := hide (HBs.out h16)
    have hBm : Bd.size ≤ maxLen := by have := B16.out; unfold maxLen; omega
    have HBM := hide hBm
    clear hBm
    have hsum : IntKind.i64.wrap (6 + (N : Int)) = 6 + (N : Int) := by rw [IntKind.wrap_i64]; omega
    have hsi : (6 + (N : Int)).toNat = 6 + N := by omega
    have hle : 6 + (N : Int) ≤ 28 := by omega
    go_wp2_with fail
    refine (sGoodFrame_calls z0 zA zE Bd _ HBM.out).mono ?_
    rintro e' w3 ⟨rfl, b3⟩
    obtain ⟨s3, h3, l3, f3⟩ := FX2.out w1 S1.out l1 H1.out _ b3
    have S3 := hide s3
    have H3 := hide h3
    have F3 := hide f3
    clear b3 s3
    rcases C3.out with ⟨hg, er⟩ | ⟨hg, hneq, er⟩ | ⟨hg, heq, er⟩
    · have ed : goodD z0 zA zE Bd.size = false := goodD_no hg
      rw [ed]
      have ER2 := hide er
      obtain ⟨⟨p0, p1, p2, p3⟩, q0, q1, q2, q3⟩ := cells4 h3
      clear ed er hg h3 f3
      go_wp2
      (try simp only [Exit.inBlock, Exit.then])
      exact bodyPost_ret (res_frame3 rfl _ _ w.heap.size 0 0 0 ⟨#[]⟩ (0, 0) rfl (store4 H3.out _ _ _ _)) rfl ⟨by rw [ER.out, ER2.out]; rfl, below4 S3.out (Nat.le_refl _) _ _ _ _⟩
    · have ed : goodD z0 zA zE Bd.size = true := goodD_yes hg
      rw [ed]
      have ER2 := hide er
      have HN := hide hneq
      obtain ⟨⟨c0, c1, c2, c3⟩, _, _, _, _⟩ := cells4 f3
      clear ed er hneq h3 f3 hg
      go_wp2_with fail
      refine (l6Frame_calls z0 zA zE Bd _ hz0 hA hE B16.out).mono ?_
      rintro e' w4 ⟨rfl, b4⟩
      have S4 := hide (S3.out.trans (b4.mono S3.out.size))
      have h4 : w4.heap[w.heap.size]? = some (.cells #[.int .i64 0, .int .i64 0, .int .i64 0, .string ⟨#[]⟩] 160 (0, 0)) := (b4.block w.heap.size (by omega)).trans H3.out
      have H4 := hide h4
      obtain ⟨⟨p0, p1, p2, p3⟩, q0, q1, q2, q3⟩ := cells4 h4
      have hn0 := HN.out
      generalize ofN (frB z0 zA zE (bs Bd)) = T at hn0 ⊢
      have hsl : ¬ T.toList = s.toList := fun h => hn0 (toList_inj h)
      have hslb : (T.toList == s.toList) = false := by simpa using hsl
      clear hn0 h4 b4 c0 c1 c2 c3
      go_wp2
      (try simp only [Exit.inBlock, Exit.then])
      exact bodyPost_ret (res_frame3 rfl _ _ w.heap.size 0 0 0 ⟨#[]⟩ (0, 0) rfl (store4 H4.out _ _ _ _)) rfl ⟨by rw [ER.out, ER2.out]; rfl, below4 S4.out (Nat.le_refl _) _ _ _ _⟩
    · have ed : goodD z0 zA zE Bd.size = true := goodD_yes hg
      rw [ed]
      have ER2 := hide er
      have HN := hide heq
      obtain ⟨⟨c0, c1, c2, c3⟩, _, _, _, _⟩ := cells4 f3
      clear ed er heq h3 f3 hg
      go_wp2_with fail
      refine (l6Frame_calls z0 zA zE Bd _ hz0 hA hE B16.out).mono ?_
      rintro e' w4 ⟨rfl, b4⟩
      rw [HN.out]
      have S4 := hide (S3.out.trans (b4.mono S3.out.size))
      have h4 : w4.heap[w.heap.size]? = some (.cells #[.int .i64 0, .int .i64 0, .int .i64 0, .string ⟨#[]⟩] 160 (0, 0)) := (b4.block w.heap.size (by omega)).trans H3.out
      have f4 : w4.heap[w1.heap.size]? = some (.cells #[.int .i64 z0, .int .i64 zA, .int .i64 zE, .string Bd] 160 (0, 0)) := (b4.block w1.heap.size l3).trans F3.out
      have H4 := hide h4
      obtain ⟨⟨p0, p1, p2, p3⟩, q0, q1, q2, q3⟩ := cells4 h4
      clear c0 c1 c2 c3
      obtain ⟨⟨c0, c1, c2, c3⟩, _, _, _, _⟩ := cells4 f4
      clear h4 f4 b4
      go_wp2
      (try simp only [Exit.inBlock, Exit.then])
      exact bodyPost_ret (res_frame3 rfl _ _ w.heap.size z0 zA zE Bd (0, 0) rfl (store4 H4.out _ _ _ _)) rfl ⟨by rw [ER.out, ER2.out]; rfl, below4 S4.out (Nat.le_refl _) _ _ _ _⟩

set_option maxRecDepth 100000 in
set_option maxHeartbeats 1600000 in
theorem sCheckFrame_calls (s : ByteArray) (kind at_ least : Int) (w : World) (hsz : s.size ≤ maxLen) :
    Calls Tryz.prog 181 #[.string s, .int .i64 kind, .int .i64 at_, .int .i64 least] w fun e w' => e = .returned (.tuple #[.agg #[.int .i64 (ckR s kind at_ least).K, .int .i64 (ckR s kind at_ least).A, .int .i64 (ckR s kind at_ least).E, .string (ckR s kind at_ least).B], .int .i64 (ckR s kind at_ least).code, .bool (ckR s kind at_ least).ok]) ∧ Below w.heap.size w w' := by
  have B0 := hide (below_box w (.cells #[.int .i64 0, .int .i64 0, .int .i64 0, .string ⟨#[]⟩] 160))
  have hok : (rdR s).ok = true → (rdR s).code = 0 := by
    unfold rdR
    split <;> (try split) <;> (try split) <;> simp [frNo]
  rcases hR : rdR s with ⟨K, A, E, B, code, ok⟩
  rw [hR] at hok
  simp only [] at hok
  have HR := hide hR
  have HS := hide hsz
  clear hsz
  go_enter Tryz.func181, Tryz.ntmps181
  go_wp2_with fail
  refine (sReadFrame_calls s _ HS.out).mono ?_
  rintro e' w2 ⟨rfl, b2⟩
  rw [HR.out]
  simp only []
  have h2 := box_at b2
  have S2 := hide (B0.out.trans (b2.mono (by simp)))
  have l2 : w.heap.size < w2.heap.size := by have := b2.size; simp at this; omega
  clear b2
  have H2 := hide h2
  obtain ⟨⟨p0, p1, p2, p3⟩, q0, q1, q2, q3⟩ := cells4 h2
  clear h2
  have hne : ¬ w2.heap.size = w.heap.size := by omega
  have hne' : ¬ w.heap.size = w2.heap.size := by omega
  cases ok with
  | false =>
    have er : ckR s kind at_ least = frNo code := by unfold ckR; rw [hR]; rfl
    have ER := hide er
    clear er hok hR
    · go_wp2
      (try simp only [Exit.inBlock, Exit.then])
      exact bodyPost_ret (res_frame3 rfl _ _ w.heap.size 0 0 0 ⟨#[]⟩ (0, 0) rfl (store4_alloc H2.out _ _ _ _ _)) rfl ⟨by rw [ER.out]; rfl, below4_alloc S2.out (Nat.le_refl _) (Nat.le_refl _) _ _ _ _ _⟩

  | true =>
    obtain rfl := hok rfl
    clear hok
    by_cases h1 : K = kind
    case neg =>
      have er : ckR s kind at_ least = frNo 3 := by unfold ckR; rw [hR, if_pos rfl, if_neg h1]
      have ER := hide er
      have h1b : (K == kind) = false := by simpa using h1
      clear er hR
      go_wp2
      (try simp only [Exit.inBlock, Exit.then])
      exact bodyPost_ret (res_frame3 rfl _ _ w.heap.size 0 0 0 ⟨#[]⟩ (0, 0) rfl (store4_alloc H2.out _ _ _ _ _)) rfl ⟨by rw [ER.out]; rfl, below4_alloc S2.out (Nat.le_refl _) (Nat.le_refl _) _ _ _ _ _⟩

    by_cases h2 : A = at_
    case neg =>
      have er : ckR s kind at_ least = frNo 4 := by unfold ckR; rw [hR, if_pos rfl, if_pos h1, if_neg h2]
      have ER := hide er
      have h2b : (A == at_) = false := by simpa using h2
      subst h1
      clear er hR
      go_wp2
      (try simp only [Exit.inBlock, Exit.then])
      exact bodyPost_ret (res_frame3 rfl _ _ w.heap.size 0 0 0 ⟨#[]⟩ (0, 0) rfl (store4_alloc H2.out _ _ _ _ _)) rfl ⟨by rw [ER.out]; rfl, below4_alloc S2.out (Nat.le_refl _) (Nat.le_refl _) _ _ _ _ _⟩

    by_cases h3 : least ≤ E
    case neg =>
      have er : ckR s kind at_ least = frNo 5 := by unfold ckR; rw [hR, if_pos rfl, if_pos h1, if_pos h2, if_neg h3]
      have ER := hide er
      have h3' : E < least := by omega
      subst h1
      subst h2
      clear er hR
      go_wp2
      (try simp only [Exit.inBlock, Exit.then])
      exact bodyPost_ret (res_frame3 rfl _ _ w.heap.size 0 0 0 ⟨#[]⟩ (0, 0) rfl (store4_alloc H2.out _ _ _ _ _)) rfl ⟨by rw [ER.out]; rfl, below4_alloc S2.out (Nat.le_refl _) (Nat.le_refl _) _ _ _ _ _⟩

    · have er : ckR s kind at_ least = ⟨K, A, E, B, 0, true⟩ := by unfold ckR; rw [hR, if_pos rfl, if_pos h1, if_pos h2, if_pos h3]
      have ER := hide er
      have h3' : ¬ E < least := by omega
      subst h1
      subst h2
      clear er hR
      go_wp2
      (try simp only [Exit.inBlock, Exit.then])
      exact bodyPost_ret (res_frame3 rfl _ _ w.heap.size K A E B (0, 0) rfl (store4_alloc H2.out _ _ _ _ _)) rfl ⟨by rw [ER.out]; rfl, below4_alloc S2.out (Nat.le_refl _) (Nat.le_refl _) _ _ _ _ _⟩
end Go.Proofs.YtbgadbokejaomaaGreatDoor

namespace Go.Proofs.YtbgadbokejaomaaGreatDoor
open Go.RowKit
set_option linter.unusedVariables false

/-- A stripe fits from A on. -/
def ftP (P : List ByteArray) (A : Int) : Prop := 0 ≤ A ∧ A ≤ (P.length : Int) - 5
theorem ft_bool (P H : List ByteArray) (B : List Bool) (A : Int) : ∃ f : Bool, f = true ↔ (gkP P H B ∧ ftP P A) := by
  by_cases h : gkP P H B ∧ ftP P A
  · exact ⟨true, by simp [h]⟩
  · exact ⟨false, by simp [h]⟩

set_option maxRecDepth 100000 in
set_option maxHeartbeats 1600000 in
theorem fitsStripe_calls (p h b : Value) (P H : List ByteArray) (B : List Bool) (A : Int) (g f : Bool) (w : World) (hg : g = true ↔ gkP P H B) (hf : f = true ↔ (gkP P H B ∧ ftP P A)) (hwf : (Lit.int .i64 A).wf = true) (hp : RdT w p P) (hh : RdT w h H) (hb : RdZ w b B) :
    Calls Tryz.prog 131 #[.agg #[p, h, b], .int .i64 A] w fun e w' => e = .returned (.tuple #[.bool f, .bool g]) ∧ Below w.heap.size w w' := by
  have HG := hide hg
  have HF := hide hf
  have RP := hide hp
  have RH := hide hh
  have RB := hide hb
  have A0 := hide ((Hand.start w).box #[p, h, b] 26)
  have C := hide (fun W (h1 : RdT W p P) (h2 : RdT W h H) (h3 : RdZ W b B) => goodDisk_calls p h b P H B g W hg h1 h2 h3)
  obtain ⟨ap, cp, rfl, mp, _⟩ := hp.sl
  obtain ⟨ah, ch, rfl, mh, _⟩ := hh.sl
  obtain ⟨ab, cb, rfl, mb, _⟩ := hb.sl
  clear hg hf hp hh hb mp mh mb
  cases g with
  | false =>
    have ng : Hid (¬ gkP P H B) := fun h => by have := HG.out.2 h; simp at this
    have ff : f = false := by
      cases f with
      | false => rfl
      | true => exact absurd (HF.out.1 rfl).1 ng.out
    subst ff
    go_enter Tryz.func131, Tryz.ntmps131
    go_wp2_with fail
    refine (C.out _ (RP.out.below A0.out.below) (RH.out.below A0.out.below) (RB.out.below A0.out.below)).mono ?_
    rintro e w1 ⟨rfl, q⟩
    have A1 := hide (A0.out.step q)
    clear q A0
    go_wp2
    go_ret2
    exact ⟨rfl, A1.out.below⟩
  | true =>
  have GK := hide (HG.out.1 rfl)
  have n24 : P.length ≤ 24 := GK.out.1.2
  have HF2 : Hid (f = true ↔ ftP P A) := ⟨fun h => (HF.out.1 h).2, fun h => HF.out.2 ⟨GK.out, h⟩⟩
  clear HG HF
  unfold ftP at HF2
  by_cases h0 : 0 ≤ A
  case neg =>
    have ff : f = false := by
      cases f with
      | false => rfl
      | true => exact absurd (HF2.out.1 rfl).1 h0
    subst ff
    go_enter Tryz.func131, Tryz.ntmps131
    go_wp2_with fail
    refine (C.out _ (RP.out.below A0.out.below) (RH.out.below A0.out.below) (RB.out.below A0.out.below)).mono ?_
    rintro e w1 ⟨rfl, q⟩
    have A1 := hide (A0.out.step q)
    clear q A0
    obtain ⟨c0, c1, c2⟩ := (A1.out.atBox 0 rfl).c3
    go_wp2
    go_ret2
    exact ⟨rfl, A1.out.below⟩
  have ff : f = decide (A ≤ (P.length : Int) - 5) := by
    cases f with
    | false => exact (decide_eq_false (fun h => by have := HF2.out.2 ⟨h0, h⟩; simp at this)).symm
    | true => exact (decide_eq_true (HF2.out.1 rfl).2).symm
  by_cases h5 : A ≤ (P.length : Int) - 5
  · rw [decide_eq_true h5] at ff
    subst ff
    go_enter Tryz.func131, Tryz.ntmps131
    go_wp2_with fail
    refine (C.out _ (RP.out.below A0.out.below) (RH.out.below A0.out.below) (RB.out.below A0.out.below)).mono ?_
    rintro e w1 ⟨rfl, q⟩
    have A1 := hide (A0.out.step q)
    clear q A0
    obtain ⟨c0, c1, c2⟩ := (A1.out.atBox 0 rfl).c3
    go_wp2
    go_ret2
    exact ⟨rfl, A1.out.below⟩
  · rw [decide_eq_false h5] at ff
    subst ff
    have hd : decide (A ≤ (P.length : Int) - 5) = false := decide_eq_false h5
    go_enter Tryz.func131, Tryz.ntmps131
    go_wp2_with fail
    refine (C.out _ (RP.out.below A0.out.below) (RH.out.below A0.out.below) (RB.out.below A0.out.below)).mono ?_
    rintro e w1 ⟨rfl, q⟩
    have A1 := hide (A0.out.step q)
    clear q A0
    obtain ⟨c0, c1, c2⟩ := (A1.out.atBox 0 rfl).c3
    go_wp2
    go_ret2
    exact ⟨rfl, A1.out.below⟩


set_option maxRecDepth 100000 in
set_option maxHeartbeats 400000 in
theorem l8Fits_calls (ap : Option Addr) (cp : Nat) (h b : Value) (P : List ByteArray) (A : Int) (f : Bool) (w : World) (hf : f = true ↔ ftP P A) (h24 : P.length ≤ 24) :
    Calls Tryz.prog 94 #[.agg #[.slice ap P.length cp, h, b], .int .i64 A] w fun e w' => e = .returned (.bool f) ∧ Below w.heap.size w w' := by
  unfold ftP at hf
  have HF2 := hide hf
  have HB := hide (below_box w (.cells #[.slice ap P.length cp, h, b] 26))
  clear hf
  by_cases h0 : 0 ≤ A
  case neg =>
    have ff : f = false := by
      cases f with
      | false => rfl
      | true => exact absurd (HF2.out.1 rfl).1 h0
    subst ff
    go_enter Tryz.func94, Tryz.ntmps94
    go_wp2
    go_ret
    exact ⟨rfl, HB.out⟩
  have ff : f = decide (A ≤ (P.length : Int) - 5) := by
    cases f with
    | false => exact (decide_eq_false (fun h => by have := HF2.out.2 ⟨h0, h⟩; simp at this)).symm
    | true => exact (decide_eq_true (HF2.out.1 rfl).2).symm
  by_cases h5 : A ≤ (P.length : Int) - 5
  · rw [decide_eq_true h5] at ff
    subst ff
    go_enter Tryz.func94, Tryz.ntmps94
    go_wp2
    go_ret
    exact ⟨rfl, HB.out⟩
  · rw [decide_eq_false h5] at ff
    subst ff
    have hd : decide (A ≤ (P.length : Int) - 5) = false := decide_eq_false h5
    go_enter Tryz.func94, Tryz.ntmps94
    go_wp2
    go_ret
    exact ⟨rfl, HB.out⟩

end Go.Proofs.YtbgadbokejaomaaGreatDoor

namespace Go.Proofs.YtbgadbokejaomaaGreatDoor
open Go.RowKit
set_option linter.unusedVariables false

/-- A piece that the program has found, behind its interface. -/
def pv (x : Option (Int × ByteArray)) : Value := match x with | none => .iface 149 (.agg #[]) | some y => .iface 151 (.agg #[.int .i64 y.1, .string y.2])
set_option maxRecDepth 100000 in
set_option maxHeartbeats 1600000 in
theorem findPiece_calls (p h b : Value) (P H : List ByteArray) (B : List Bool) (k : Nat) (least : Int) (w : World) (gk : gkP P H B) (hk : k < P.length) (hp : RdT w p P) (hh : RdT w h H) (hb : RdZ w b B) :
    Calls Tryz.prog 132 #[.agg #[p, h, b], .int .i64 (k : Int), .int .i64 least] w fun e w' => e = .returned (pv (sk P H B least k)) ∧ Below w.heap.size w w' := by
  have RP := hide hp
  have RH := hide hh
  have RB := hide hb
  have GK := hide gk
  have h24 : P.length ≤ 24 := gk.1.2
  have A0 := hide ((Hand.start w).box #[p, h, b] 26)
  obtain ⟨x, hx⟩ : ∃ x, x = sk P H B least k := ⟨_, rfl⟩
  rw [← hx]
  unfold sk at hx
  have HX := hide hx
  have HK := hide hk
  clear hp hh hb hx gk hk
  cases hB : B.getD k false with
  | true =>
    have hno : ¬ rsOk P H B (k : Int) := fun h => by
      have := h.2.2
      rw [Int.toNat_natCast, hB] at this
      simp at this
    have e0 : x = none := by rw [HX.out, hB]; rfl
    subst e0
    have RS := hide (fun W h1 h2 h3 => readFrameAt_no p h b P H B 2 (k : Int) least W hno h1 h2 h3)
    clear hno hB HX
    show Calls _ _ _ _ fun e w' => e = .returned (.iface 149 (.agg #[])) ∧ _
    go_enter Tryz.func132, Tryz.ntmps132
    go_wp2_with fail
    refine (RS.out _ (RP.out.below A0.out.below) (RH.out.below A0.out.below) (RB.out.below A0.out.below)).mono ?_
    rintro e w1 ⟨rfl, q⟩
    have A1 := hide ((A0.out.step q).box (frC 0 0 0 ⟨#[]⟩) 160)
    clear q A0
    go_wp2
    go_ret
    exact ⟨rfl, A1.out.below⟩
  | false =>
    have hyes : rsOk P H B (k : Int) := ⟨GK.out, ⟨by omega, by have := HK.out; omega⟩, by rw [Int.toNat_natCast, hB]⟩
    have RS := hide (fun W h1 h2 h3 => readFrameAt_yes p h b P H B 2 (k : Int) least W hyes h1 h2 h3)
    have e0 := HX.out
    rw [hB, if_neg (by simp)] at e0
    rw [Int.toNat_natCast] at RS
    have SM := hide (ckR_small (rsT P H k) 2 k least)
    generalize rsT P H k = s at RS e0 SM
    generalize ckR s 2 (k : Int) least = c at RS e0 SM
    rcases c with ⟨K, A, E, bo, code, ok⟩
    simp only [frA] at e0 RS SM
    have E0 := hide e0
    have hbo : bo.size ≤ 16 := SM.out
    clear hyes hB HX e0 SM
    go_enter Tryz.func132, Tryz.ntmps132
    go_wp2_with fail
    refine (RS.out _ (RP.out.below A0.out.below) (RH.out.below A0.out.below) (RB.out.below A0.out.below)).mono ?_
    rintro e w1 ⟨rfl, q⟩
    have A3 := hide ((A0.out.step q).box (frC K A E bo) 160)
    clear q A0
    cases ok with
    | false =>
      have e1 : x = none := by rw [E0.out]; simp
      subst e1
      clear E0
      go_wp2
      go_ret
      exact ⟨rfl, A3.out.below⟩
    | true =>
      by_cases h16 : bo.size = 16
      · have e1 : x = some (E, bo) := by rw [E0.out]; simp [h16]
        have h16' : ¬ (bo.size : Int) < 16 := by omega
        subst e1
        clear E0
        go_wp2
        go_ret
        exact ⟨rfl, A3.out.below⟩
      · have e1 : x = none := by rw [E0.out]; simp [h16]
        have h16' : (bo.size : Int) < 16 := by omega
        subst e1
        clear E0
        go_wp2
        go_ret
        exact ⟨rfl, A3.out.below⟩
end Go.Proofs.YtbgadbokejaomaaGreatDoor

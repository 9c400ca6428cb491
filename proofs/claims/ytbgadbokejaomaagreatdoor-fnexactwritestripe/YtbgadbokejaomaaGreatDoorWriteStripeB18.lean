/-
  A crash, on a disk of the call's own: the model's, call by call. The contract says what it asks. What is kept goes to the plate through a channel: the program's putOnPlate, call by call, by the machine's own steps. The contract says what it asks. What is kept goes to the plate through a channel: the program's putOnPlate as a whole. The contract says what it asks. A crash, on a disk of the call's own: the program's, call by call. The contract says what it asks. Behind a crash: the program's AfterCrash and its model's, call by call. Each contract says what it asks. Bytes that rot: the model's function on a text, call by call. The contract says what it asks. A sector held, a sector healed: the program's functions on a disk of the call's own, call by call. Each contract says what it asks. A step done on a disk of the call's own, kind by kind: the program's doStep, call by call. Each contract says what it asks. Fields that a step has no use for: the program's test, call by call. The contract says what it asks. A step done on a disk of the call's own: what it leaves, and the program's doStep as a whole. Each contract says what it asks. A step of a disk: the program's StepDisk, call by call. The contract says what it asks. Where a stripe fits: the program's FitsStripe and its model's, at every disk and number. No condition but that the number is one of 64 bits. What a stripe's sectors tell: which are lost, their Epochs, the right one, those others. Mathematics; no call is walked here. A frame read from a sector's bytes: the program's function, call by call. The sector has its length. A frame read: the program's ReadFrame and CheckFrame, call by call. No condition but a bound on the text's length. A sector read: the model's ReadSector, call by call. The contract says what it asks. The frame that a sector tells: the program's readFrameAt. Each contract says what it asks. A frame is written to its sector, and a disk synced, in the disk's own lists: the program's holdFrame, syncDisk. Each contract says what it asks.
-/
import Derived.Test.YtbgadbokejaomaaGreatDoorWriteStripeB17
import Derived.Conc.LoneCalls
import Derived.Conc.LoneSelect
import Derived.Lib.SliceRun
import Derived.Test.YtbgadbokejaomaaGreatDoorWriteStripeB15
import Derived.Test.YtbgadbokejaomaaGreatDoorWriteStripeB9
import Derived.Deep.RegionHeld3
import Derived.Test.YtbgadbokejaomaaGreatDoorWriteStripeB3
namespace Go.Proofs.YtbgadbokejaomaaGreatDoor
open Go.RowKit
set_option linter.unusedVariables false

theorem has_bool (x : Int) (ks : List Int) : ∃ y : Bool, y = true ↔ x ∈ ks := by
  by_cases hh : x ∈ ks
  · exact ⟨true, fun _ => hh, fun _ => rfl⟩
  · exact ⟨false, fun h => by simp at h, fun h => absurd h hh⟩

set_option maxRecDepth 100000 in
set_option maxHeartbeats 1600000 in
theorem l7Crash_calls (p h b v : Value) (P H : List ByteArray) (B : List Bool) (ks : List Int) (lo hi n : Nat) (w : World) (d : DskV w lo hi p h b P H B) (hhi : hi ≤ w.heap.size) (hP : P.length = n) (hH : H.length = n) (hB : B.length = n) (hn : 0 < n ∧ n ≤ 24)
    (kv : ∀ w', Chg lo hi w w' → Rd w' v ks) :
    Calls Tryz.prog 59 #[.agg #[p, h, b], v] w fun e w' => e = .returned (.agg #[p, h, b]) ∧ DskV w' lo hi p h b (crP P H ks) (crH H) B ∧ Chg lo hi w w' := by
  obtain ⟨gp, cp, gh, ch, gb, cb, rfl, rfl, rfl, n1, n2, n3, ⟨t1, t2, t3⟩, _⟩ := d.blocks hP hH hB hn.1
  have KV := hide kv
  obtain ⟨av, cv, ev, _, _⟩ := (kv w (Chg.refl _ _ _)).sl
  obtain ⟨W0, e0⟩ : ∃ W0, W0 = (w.alloc (.cells #[.slice (some ⟨gp, 0, none⟩) n cp, .slice (some ⟨gh, 0, none⟩) n ch, .slice (some ⟨gb, 0, none⟩) n cb] 26)).alloc (.cells nil3 26) := ⟨_, rfl⟩
  have b0 : Below w.heap.size w W0 := by rw [e0]; exact (below_box w _).trans ((below_box _ _).mono (by simp))
  have x0 : BoxAt W0 w.heap.size #[.slice (some ⟨gp, 0, none⟩) n cp, .slice (some ⟨gh, 0, none⟩) n ch, .slice (some ⟨gb, 0, none⟩) n cb] 26 := by rw [e0]; exact (BoxAt.new w _ _).below (below_box _ _)
  have y0 : BoxAt W0 (w.heap.size + 1) nil3 26 := by
    rw [e0]
    have := BoxAt.new (w.alloc (.cells #[.slice (some ⟨gp, 0, none⟩) n cp, .slice (some ⟨gh, 0, none⟩) n ch, .slice (some ⟨gb, 0, none⟩) n cb] 26)) nil3 26
    simpa only [World.size_alloc] using this
  have E0 := hide e0.symm
  have C0 := hide (Chg.ofBelow (lo := lo) (hi := hi) b0)
  have X0 := hide x0
  have Y0 := hide y0
  have D0 := hide (d.below b0)
  have SH := hide d.sh
  have LP := hide hP
  have LH := hide hH
  have LB := hide hB
  have s0 : w.heap.size + 1 < W0.heap.size := y0.lt
  have SZ : Hid (∀ i, (H.getD i ⟨#[]⟩).size ≤ maxLen) := by
    show ∀ i, _
    intro i
    have := d.rh.szAt i
    unfold maxLen
    exact this
  clear kv d b0 x0 y0 e0 hP hH hB
  subst ev
  go_enter Tryz.func59, Tryz.ntmps59
  go_wp2
  rw [E0.out]
  go_loopw [5, 6, 10] (fun _ _ vi wr => ∃ k : Nat, k ≤ n ∧ vi = .int .i64 k ∧ DskV wr lo hi (.slice (some ⟨gp, 0, none⟩) n cp) (.slice (some ⟨gh, 0, none⟩) n ch) (.slice (some ⟨gb, 0, none⟩) n cb) (crPk P H ks k) (crHk H k) B ∧ Chg lo hi W0 wr) (fun _ _ vi _ => n - (intOf vi).toNat)
  case atStart =>
    refine ⟨0, Nat.zero_le _, rfl, ?_, Chg.refl _ _ _⟩
    rw [crPk_zero, crHk_zero]
    exact D0.out
  case round =>
    obtain ⟨k, hk, rfl, dk, ck⟩ := hrel
    have DK := hide dk
    have CK := hide ck
    have X1 := hide (X0.out.chg ck (.inr hhi))
    have Y1 := hide (Y0.out.chg ck (.inr (by omega)))
    have hs := ck.size
    obtain ⟨c0, c1, c2⟩ := X1.out.c3
    by_cases hlt : k < n
    · obtain ⟨hc, hf⟩ := dk.cellH (by rw [crHk_len]; exact LH.out) k hlt
      rw [crHk_at H k k (by rw [LH.out]; exact hlt), if_neg (by omega)] at hc
      have ST := hide (crHk_step H k (by rw [LH.out]; exact hlt))
      have YES := hide (crPk_yes P H ks k (by rw [LP.out]; exact hlt))
      have NO := hide (crPk_no P H ks k)
      have hz := SZ.out k
      obtain ⟨z, hzz⟩ : ∃ z, z = H.getD k ⟨#[]⟩ := ⟨_, rfl⟩
      rw [← hzz] at hc hz YES
      have HZ := hide hz
      clear hzz dk ck hz
      obtain ⟨y, hy⟩ := has_bool (k : Int) ks
      have HY := hide hy
      have CH : Hid (Calls Tryz.prog 111 #[.slice av ks.length cv, .int .i64 (k : Int)] wr fun e w' => e = .returned (.bool y) ∧ wr = w') := l1Has_calls _ ks (k : Int) y wr (KV.out _ (C0.out.trans CK.out)) hy
      have hlt' : (k : Int) < (n : Int) := by omega
      clear hy
      cases y with
      | true =>
        have hin : (k : Int) ∈ ks := HY.out.1 rfl
        obtain ⟨hp1, hp2⟩ := DK.out.cellP (by rw [crPk_len]; exact LP.out) k hlt
        obtain ⟨dp, cpp⟩ := DK.out.putP (by rw [crPk_len]; exact LP.out) k z HZ.out
        rw [YES.out hin] at dp
        obtain ⟨hq1, hq2⟩ := dp.cellH (by rw [crHk_len]; exact LH.out) k hlt
        obtain ⟨dq, cq⟩ := dp.putH (by rw [crHk_len]; exact LH.out) k ⟨#[]⟩ (Nat.zero_le _)
        rw [ST.out] at dq
        obtain ⟨e0, e1, e2⟩ := (X1.out.chg cpp (.inr hhi)).c3
        have DQ := hide dq
        have CQ := hide ((CK.out.trans cpp).trans cq)
        clear dp cpp dq cq hin
        go_wp2_with (go_at_call 111; refine CH.out.mono ?_; rintro e w' ⟨rfl, rfl⟩)
        go_roundw
        case rel => exact ⟨k + 1, by omega, by go_num, DQ.out, CQ.out⟩
        case measure => simp [intOf]; omega
      | false =>
        have hin : ¬ (k : Int) ∈ ks := fun h => by have := HY.out.2 h; simp at this
        obtain ⟨dq, cq⟩ := DK.out.putH (by rw [crHk_len]; exact LH.out) k ⟨#[]⟩ (Nat.zero_le _)
        rw [ST.out, NO.out hin] at dq
        have DQ := hide dq
        have CQ := hide (CK.out.trans cq)
        clear dq cq hin
        go_wp2_with (go_at_call 111; refine CH.out.mono ?_; rintro e w' ⟨rfl, rfl⟩)
        go_roundw
        case rel => exact ⟨k + 1, by omega, by go_num, DQ.out, CQ.out⟩
        case measure => simp [intOf]; omega
    · obtain rfl : k = n := by omega
      have dd := DK.out
      rw [show crPk P H ks k = crP P H ks from by unfold crP; rw [LP.out], show crHk H k = crH H from by rw [← crHk_end, LH.out]] at dd
      have DD := hide dd
      have g0 := Y1.out.frozen 0
      have g1 := Y1.out.frozen 1
      have g2 := Y1.out.frozen 2
      obtain ⟨d0, d1, d2⟩ := Y1.out.c3
      have XF := hide (Y1.out.store3 (.slice (some ⟨gp, 0, none⟩) k cp) (.slice (some ⟨gh, 0, none⟩) k ch) (.slice (some ⟨gb, 0, none⟩) k cb))
      have C6 := Chg.store3 (lo := w.heap.size + 1) (hi := w.heap.size + 1 + 1) wr (w.heap.size + 1) (.slice (some ⟨gp, 0, none⟩) k cp) (.slice (some ⟨gh, 0, none⟩) k ch) (.slice (some ⟨gb, 0, none⟩) k cb) (Nat.le_refl _) (by omega)
      have D6 := hide (dd.chg C6 (.inl (by omega)))
      have K6 : Hid (Chg lo hi w _) := chg_new (C0.out.trans CK.out) C6 (Nat.le_succ _)
      clear dd dk ck C6
      go_wp2
      exact bodyPost_ret (res_dsk rfl _ _ (w.heap.size + 1) _ _ _ (0, 0) rfl XF.out) rfl ⟨rfl, D6.out, K6.out⟩
end Go.Proofs.YtbgadbokejaomaaGreatDoor

namespace Go.Proofs.YtbgadbokejaomaaGreatDoor
open Go.RowKit Go.Conc
set_option linter.unusedVariables false

end Go.Proofs.YtbgadbokejaomaaGreatDoor

namespace Go.Proofs.YtbgadbokejaomaaGreatDoor
open Go.RowKit Go.Conc
set_option linter.unusedVariables false

end Go.Proofs.YtbgadbokejaomaaGreatDoor

namespace Go.Proofs.YtbgadbokejaomaaGreatDoor
open Go.RowKit
set_option linter.unusedVariables false

end Go.Proofs.YtbgadbokejaomaaGreatDoor

namespace Go.Proofs.YtbgadbokejaomaaGreatDoor
open Go.RowKit
set_option linter.unusedVariables false

theorem Hand.store3 {W w : World} {L : List Tg} {g : Nat} {a b c : Value} {T : TypeId} (A : Hand W w L) (i : Nat) (hi : L[i]? = some (TBox g #[a, b, c] T)) (v0 v1 v2 : Value) :
    Hand W (((w.setCell ⟨g, 0, none⟩ v0).setCell ⟨g, 1, none⟩ v1).setCell ⟨g, 2, none⟩ v2) (L.set i (TBox g #[v0, v1, v2] T)) := by
  obtain ⟨lo, hi', ⟨b1, b2, b3⟩, _, _, put⟩ := A.open i hi
  exact put _ (TBox g #[v0, v1, v2] T) (TBox.st _ _ _) ⟨b1, b2, b3.store3 v0 v1 v2⟩ (Chg.store3 w g v0 v1 v2 b1 b2)
theorem Hand.wide {W w : World} {L : List Tg} {p h b : Value} {P H : List ByteArray} {B : List Bool} (A : Hand W w L) (i : Nat) (hi : L[i]? = some (TDsk p h b P H B)) : DskV w W.heap.size w.heap.size p h b P H B := by
  obtain ⟨lo, hi', d, h1, h2, _⟩ := A.open i hi
  exact DskV.wider d h1 h2
theorem Hand.two (w : World) (c1 c2 : Array Value) (T1 T2 : TypeId) : Hand w ((w.alloc (.cells c1 T1)).alloc (.cells c2 T2)) [TBox (w.heap.size + 1) c2 T2, TBox w.heap.size c1 T1] := by
  have h := ((Hand.start w).box c1 T1).box c2 T2
  simpa only [World.size_alloc] using h
end Go.Proofs.YtbgadbokejaomaaGreatDoor

namespace Go.Proofs.YtbgadbokejaomaaGreatDoor
open Go.RowKit
set_option linter.unusedVariables false

/-- The first k bytes are changed. -/
def rotK (l m : List Nat) : Nat → List Nat
  | 0 => l
  | k + 1 => (rotK l m k).set k (l.getD k 0 ^^^ m.getD k 0)
theorem rotK_len (l m : List Nat) : ∀ k, (rotK l m k).length = l.length
  | 0 => rfl
  | k + 1 => by rw [rotK, List.length_set]; exact rotK_len l m k
theorem rotK_at (l m : List Nat) : ∀ k i, k ≤ i → (rotK l m k).getD i 0 = l.getD i 0
  | 0, _, _ => rfl
  | k + 1, i, h => by
    rw [rotK, List.getD_eq_getElem?_getD, List.getElem?_set_ne (by omega), ← List.getD_eq_getElem?_getD]
    exact rotK_at l m k i (by omega)
theorem rotK_small {l m : List Nat} (hl : ∀ b ∈ l, b < 256) (hm : ∀ b ∈ m, b < 256) : ∀ k, ∀ b ∈ rotK l m k, b < 256
  | 0 => hl
  | k + 1 => by
    intro b hb
    rcases List.mem_or_eq_of_mem_set hb with h | h
    · exact rotK_small hl hm k b h
    · rw [h]
      exact Nat.xor_lt_two_pow (n := 8) (getD_lt hl k) (getD_lt hm k)
/-- A text of which the first bytes are changed by a mask's. -/
def rotT (s m : ByteArray) : ByteArray := ofN (rotK (bs s) (bs m) m.size)
theorem rotT_size (s m : ByteArray) : (rotT s m).size = s.size := by
  unfold rotT
  rw [ofN_size, rotK_len, bs_length]

set_option maxRecDepth 100000 in
set_option maxHeartbeats 800000 in
theorem l7Rot_calls (s m : ByteArray) (w : World) (hs : s.size ≤ 28) (hm : m.size ≤ s.size) :
    Calls Tryz.prog 136 #[.string s, .string m] w fun e w' => e = .returned (.string (rotT s m)) ∧ Below w.heap.size w w' := by
  have hcv := conv_bytes s
  have M := hide (bytesW_row s w)
  have G0 := hide (bytesW_below s w)
  go_enter Tryz.func136, Tryz.ntmps136
  go_wp2
  go_loopw [6] (fun vi wr => ∃ k : Nat, k ≤ m.size ∧ vi = .int .i64 k ∧ BRow wr w.heap.size (bytesC s w) (rotK (bs s) (bs m) k) ∧ Below w.heap.size w wr) (fun vi _ => m.size - (intOf vi).toNat)
  case atStart => exact ⟨0, Nat.zero_le _, rfl, M.out, G0.out⟩
  case round =>
    obtain ⟨k, hk, rfl, hrow, hb⟩ := hrel
    by_cases hlt : k < m.size
    · have hlen : (rotK (bs s) (bs m) k).length = s.size := by rw [rotK_len, bs_length]
      have hc1 := hrow.cell k (by omega)
      have hc2 := hrow.frozen k (by omega)
      rw [rotK_at (bs s) (bs m) k k (Nat.le_refl _)] at hc1
      have ST : Hid (rotK (bs s) (bs m) (k + 1) = (rotK (bs s) (bs m) k).set k ((bs s).getD k 0 ^^^ (bs m).getD k 0)) := rfl
      have hmk : (bs m).getD k 0 = m[k].toNat := bs_getD m k hlt
      rw [hmk] at ST
      have hx : (bs s).getD k 0 < 256 := getD_lt (bs_lt s) k
      have hy : m[k].toNat < 256 := m[k].toNat_lt
      have hst := hrow.set k ((bs s).getD k 0 ^^^ m[k].toNat)
      generalize (bs s).getD k 0 = x at hc1 ST hx hst
      have XX := hide (u8_xor_nat x m[k].toNat hx hy)
      have HS := hide hst
      have HB := hide hb
      have hlt' : (k : Int) < (m.size : Int) := by omega
      have hlts : (k : Int) < (s.size : Int) := by omega
      clear hlen hmk hst hrow hb hy
      go_wp2
      go_region
      go_wp2
      refine ⟨⟨k + 1, by omega, by go_num, ?_, (HB.out.setCell (p := ⟨w.heap.size, k, none⟩) (Nat.le_refl _) _).drew⟩, by simp [intOf]; omega⟩
      rw [XX.out, ST.out]
      exact HS.out.drew
    · obtain rfl : k = m.size := by omega
      have hcr := conv_row hrow (rotK_small (bs_lt s) (bs_lt m) _) (n := s.size) (by rw [rotK_len, bs_length])
      have HB := hide hb
      clear hrow hb
      go_wp2
      go_ret
      exact ⟨rfl, HB.out⟩

/-- The plate of a sector may rot so. -/
def roOk (P H : List ByteArray) (k : Nat) (T : ByteArray) : Prop := H.getD k ⟨#[]⟩ = ⟨#[]⟩ ∧ 1 ≤ T.size ∧ T.size ≤ (P.getD k ⟨#[]⟩).size

end Go.Proofs.YtbgadbokejaomaaGreatDoor

namespace Go.Proofs.YtbgadbokejaomaaGreatDoor
open Go.RowKit
set_option linter.unusedVariables false

/-- The text may be held there. -/
def hoOk (B : List Bool) (k : Nat) (T : ByteArray) : Prop := B.getD k false = false ∧ 1 ≤ T.size ∧ T.size ≤ 28

set_option linter.unusedSimpArgs false in
set_option maxRecDepth 100000 in
set_option maxHeartbeats 1600000 in
theorem holdText_calls (p h b : Value) (P H : List ByteArray) (B : List Bool) (lo hi n k : Nat) (T : ByteArray) (y : Bool) (w : World) (d : DskV w lo hi p h b P H B) (hhi : hi ≤ w.heap.size) (hP : P.length = n) (hH : H.length = n) (hB : B.length = n) (hn : 0 < n ∧ n ≤ 24) (hk : k < n) (hT : T.size ≤ 1048576) (hy : y = true ↔ hoOk B k T) :
    Calls Tryz.prog 128 #[.agg #[p, h, b], .int .i64 (k : Int), .string T] w fun e w' => e = .returned (.bool y) ∧ (y = true → DskV w' lo hi p h b P (H.set k T) B) ∧ Chg lo hi w w' := by
  obtain ⟨gp, cp, gh, ch, gb, cb, rfl, rfl, rfl, n1, n2, n3, ⟨t1, t2, t3⟩, _⟩ := d.blocks hP hH hB hn.1
  have HY : Hid (y = true ↔ (B.getD k false = false ∧ 1 ≤ T.size ∧ T.size ≤ 28)) := hy
  have b1 := below_box w (.cells #[.slice (some ⟨gp, 0, none⟩) n cp, .slice (some ⟨gh, 0, none⟩) n ch, .slice (some ⟨gb, 0, none⟩) n cb] 26)
  have C1 : Hid (Chg lo hi w (w.alloc (.cells #[.slice (some ⟨gp, 0, none⟩) n cp, .slice (some ⟨gh, 0, none⟩) n ch, .slice (some ⟨gb, 0, none⟩) n cb] 26))) := Chg.ofBelow b1
  have X1 := hide (BoxAt.new w #[.slice (some ⟨gp, 0, none⟩) n cp, .slice (some ⟨gh, 0, none⟩) n ch, .slice (some ⟨gb, 0, none⟩) n cb] 26)
  have d1 := d.below b1
  have D1 := hide d1
  have LH := hide hH
  have hk' : (k : Int) < (n : Int) := by omega
  obtain ⟨hb1, _⟩ := d1.cellB hB k hk
  clear hy d d1 b1 hP hH hB
  generalize B.getD k false = bad at *
  cases bad with
  | true =>
    have e0 : Hid (y = false) := by
      show y = false
      cases y with
      | false => rfl
      | true => exact absurd (HY.out.1 rfl).1 (by simp)
    go_enter Tryz.func128, Tryz.ntmps128
    go_wp2
    go_ret
    exact ⟨ret_bool e0.out.symm, fun h => by rw [e0.out] at h; simp at h, C1.out⟩
  | false =>
  by_cases hT0 : T.size = 0
  · have hTT := size_zero hT0
    subst hTT
    have e0 : Hid (y = false) := by
      show y = false
      cases y with
      | false => rfl
      | true => exact absurd (HY.out.1 rfl).2.1 (by decide)
    clear hT0
    go_enter Tryz.func128, Tryz.ntmps128
    go_wp2
    go_ret
    exact ⟨ret_bool e0.out.symm, fun h => by rw [e0.out] at h; simp at h, C1.out⟩
  obtain ⟨tt1, tt2⟩ := toList_ne (z := T) (fun e => hT0 (by rw [e]; rfl))
  obtain ⟨f, hf⟩ : ∃ f : Bool, f = true ↔ T.size ≤ 28 := ⟨decide (T.size ≤ 28), by simp⟩
  have CF := hide (fun W => fitsSector_calls T f W hf (by unfold maxLen; omega))
  have HF := hide hf
  clear hf
  cases f with
  | false =>
    have e0 : Hid (y = false) := by
      show y = false
      cases y with
      | false => rfl
      | true => exact absurd (HF.out.2 (HY.out.1 rfl).2.2) (by simp)
    clear hT0
    go_enter Tryz.func128, Tryz.ntmps128
    go_wp2_with fail
    refine (CF.out _).mono ?_
    rintro e w1 ⟨rfl, rfl⟩
    go_wp2
    go_ret
    exact ⟨ret_bool e0.out.symm, fun h => by rw [e0.out] at h; simp at h, C1.out⟩
  | true =>
  have e0 : Hid (y = true) := HY.out.2 ⟨rfl, by omega, HF.out.1 rfl⟩
  clear HY
  go_enter Tryz.func128, Tryz.ntmps128
  go_wp2_with fail
  refine (CF.out _).mono ?_
  rintro e w1 ⟨rfl, rfl⟩
  clear hb1
  go_wp2
  have hw1 := hide (show w.heap.size < (w.alloc (.cells #[.slice (some ⟨gp, 0, none⟩) n cp, .slice (some ⟨gh, 0, none⟩) n ch, .slice (some ⟨gb, 0, none⟩) n cb] 26)).heap.size from X1.out.lt)
  generalize w.alloc (.cells #[.slice (some ⟨gp, 0, none⟩) n cp, .slice (some ⟨gh, 0, none⟩) n ch, .slice (some ⟨gb, 0, none⟩) n cb] 26) = W1 at *
  refine wp_region_noPanic ?_
  refine wp_region_held_drew (S := fun w' => w'.cell? ⟨w.heap.size, 1, none⟩ = some (.slice (some ⟨gh, 0, none⟩) n ch)) (by kernel_rfl) ((X1.out.below (Below.refl _ _).drew).c3.2.1) (fun hHeld => ?_)
  have BV := hide (Below.refl W1.heap.size W1).drew
  generalize W1.drew = V0 at *
  refine wpAnyH_take (i := 0) (v := ?v1) rfl (by kernel_rfl) (by kernel_rfl) (by kernel_rfl) (fun _ _ _ h => h) (Or.inl ⟨by rfl, ?hy1⟩) (by assumption) ?rest1
  case hy1 => (intro w' hSw; dsimp only [List.getElem_toArray, List.getElem_cons_zero, List.getElem_cons_succ] at hSw ⊢; go_simp; try (with_reducible rfl))
  try simp only [Act.put, List.getElem_toArray, List.getElem_cons_zero, List.getElem_cons_succ, List.setIfInBounds_toArray, List.set_cons_zero, List.set_cons_succ]
  refine wpAnyH_take (i := 1) (v := ?v2) rfl (by kernel_rfl) (by kernel_rfl) (by kernel_rfl) (fun _ _ _ h => h) (Or.inl ⟨by rfl, ?hy2⟩) (by assumption) ?rest2
  case hy2 => (intro w' hSw; dsimp only [List.getElem_toArray, List.getElem_cons_zero, List.getElem_cons_succ] at hSw ⊢; go_simp; try (with_reducible rfl))
  try simp only [Act.put, List.getElem_toArray, List.getElem_cons_zero, List.getElem_cons_succ, List.setIfInBounds_toArray, List.set_cons_zero, List.set_cons_succ]
  refine wpAnyH_take (i := 2) (v := ?v3) rfl (by kernel_rfl) (by kernel_rfl) (by kernel_rfl) (fun _ _ _ h => h) (Or.inl ⟨by rfl, ?hy3⟩) (by assumption) ?rest3
  case hy3 => (intro w' hSw; dsimp only [List.getElem_toArray, List.getElem_cons_zero, List.getElem_cons_succ] at hSw ⊢; go_simp; try (with_reducible rfl))
  try simp only [Act.put, List.getElem_toArray, List.getElem_cons_zero, List.getElem_cons_succ, List.setIfInBounds_toArray, List.set_cons_zero, List.set_cons_succ]
  refine wpAnyH_take (i := 3) (v := ?v4) rfl (by kernel_rfl) (by kernel_rfl) (by kernel_rfl) (fun _ _ _ h => h) (Or.inl ⟨by rfl, ?hy4⟩) (by assumption) ?rest4
  case hy4 => (intro w' hSw; dsimp only [List.getElem_toArray, List.getElem_cons_zero, List.getElem_cons_succ] at hSw ⊢; go_simp; try (with_reducible rfl))
  try simp only [Act.put, List.getElem_toArray, List.getElem_cons_zero, List.getElem_cons_succ, List.setIfInBounds_toArray, List.set_cons_zero, List.set_cons_succ]
  refine wpAnyH_ready (rs := [4]) (by kernel_rfl) (by simp) ?_
  refine AllReadyH.cons rfl (fun K hK => ?_) AllReadyH.nil
  dsimp only [List.getElem_toArray, List.getElem_cons_zero, List.getElem_cons_succ]
  go_simp
  refine (clone_calls T _ hT).mono ?_
  rintro e' u1 ⟨rfl, bb⟩
  have B2 := hide (BV.out.trans (bb.mono BV.out.size))
  clear bb hHeld BV
  refine hK.out _ _ ((X1.out.below B2.out).c3.2.1) (fun hHeld => ?_)
  clear hK K
  try simp only [Act.put, List.getElem_toArray, List.getElem_cons_zero, List.getElem_cons_succ, List.setIfInBounds_toArray, List.set_cons_zero, List.set_cons_succ]
  refine wpAnyH_take (i := 5) (v := ?v5) rfl (by kernel_rfl) (by kernel_rfl) (by kernel_rfl) (fun _ _ _ h => h) (Or.inl ⟨by rfl, ?hy5⟩) (by assumption) ?rest5
  case hy5 => (intro w' hSw; dsimp only [List.getElem_toArray, List.getElem_cons_zero, List.getElem_cons_succ] at hSw ⊢; go_simp; try (with_reducible rfl))
  try simp only [Act.put, List.getElem_toArray, List.getElem_cons_zero, List.getElem_cons_succ, List.setIfInBounds_toArray, List.set_cons_zero, List.set_cons_succ]
  refine wpAnyH_ready (rs := [6]) (by kernel_rfl) (by simp) ?_
  refine AllReadyH.cons rfl (fun K hK => ?_) AllReadyH.nil
  have d2 := D1.out.below B2.out
  obtain ⟨q1, q2⟩ := d2.cellH LH.out k hk
  obtain ⟨dp, cpp⟩ := d2.putH LH.out k T (by unfold maxLen; omega)
  have DP := hide dp
  have CP := hide ((C1.out.trans (Chg.ofBelow B2.out)).trans cpp)
  have cN := ((X1.out.below B2.out).chg cpp (.inr hhi)).c3.2.1
  clear d2 dp cpp hHeld
  dsimp only [List.getElem_toArray, List.getElem_cons_zero, List.getElem_cons_succ]
  go_simp
  refine hK.out _ _ (cN) (fun hHeld => ?_)
  clear hK K
  try simp only [Act.put, List.getElem_toArray, List.getElem_cons_zero, List.getElem_cons_succ, List.setIfInBounds_toArray, List.set_cons_zero, List.set_cons_succ]
  refine wpAnyH_done (by kernel_rfl) ?_ _
  refine NoPanic.normal ?_
  go_wp2
  go_ret
  exact ⟨ret_bool e0.out.symm, fun _ => DP.out, CP.out⟩

end Go.Proofs.YtbgadbokejaomaaGreatDoor

namespace Go.Proofs.YtbgadbokejaomaaGreatDoor
open Go.RowKit
set_option linter.unusedVariables false

set_option linter.unusedSimpArgs false in
set_option maxRecDepth 100000 in
set_option maxHeartbeats 1600000 in
theorem doStep_1 (p h b vk : Value) (P H : List ByteArray) (B : List Bool) (ks : List Int) (lo hi n : Nat) (k : Nat) (T : ByteArray) (y : Bool) (w : World) (d : DskV w lo hi p h b P H B) (hhi : hi ≤ w.heap.size) (hP : P.length = n) (hH : H.length = n) (hB : B.length = n) (hn : 0 < n ∧ n ≤ 24) (kv : ∀ w', Chg lo hi w w' → Rd w' vk ks) (hk : k < n) (hT : T.size ≤ 1048576) (hy : y = true ↔ hoOk B k T) :
    Calls Tryz.prog 84 #[.agg #[p, h, b], .agg #[.int .i64 1, .int .i64 (k : Int), .string T, vk]] w fun e w' => e = .returned (.bool y) ∧ (y = true → DskV w' lo hi p h b P (H.set k T) B) ∧ Chg lo hi w w' := by
  obtain ⟨gp, cp, gh, ch, gb, cb, rfl, rfl, rfl, n1, n2, n3, ⟨t1, t2, t3⟩, _⟩ := d.blocks hP hH hB hn.1
  have KV := hide kv
  obtain ⟨av, cv, ev, _, _⟩ := (kv w (Chg.refl _ _ _)).sl
  subst ev
  obtain ⟨W0, e0⟩ : ∃ W0, W0 = (w.alloc (.cells #[.slice (some ⟨gp, 0, none⟩) n cp, .slice (some ⟨gh, 0, none⟩) n ch, .slice (some ⟨gb, 0, none⟩) n cb] 26)).alloc (.cells #[.int .i64 1, .int .i64 (k : Int), .string T, .slice av ks.length cv] 105) := ⟨_, rfl⟩
  have b0 : Below w.heap.size w W0 := by rw [e0]; exact (below_box w _).trans ((below_box _ _).mono (by simp))
  have x0 : BoxAt W0 w.heap.size #[.slice (some ⟨gp, 0, none⟩) n cp, .slice (some ⟨gh, 0, none⟩) n ch, .slice (some ⟨gb, 0, none⟩) n cb] 26 := by rw [e0]; exact (BoxAt.new w _ _).below (below_box _ _)
  have y0 : BoxAt W0 (w.heap.size + 1) #[.int .i64 1, .int .i64 (k : Int), .string T, .slice av ks.length cv] 105 := by
    rw [e0]
    have := BoxAt.new (w.alloc (.cells #[.slice (some ⟨gp, 0, none⟩) n cp, .slice (some ⟨gh, 0, none⟩) n ch, .slice (some ⟨gb, 0, none⟩) n cb] 26)) #[.int .i64 1, .int .i64 (k : Int), .string T, .slice av ks.length cv] 105
    simpa only [World.size_alloc] using this
  have s0 : w.heap.size + 1 < W0.heap.size := y0.lt
  have E0 := hide e0.symm
  have C0 := hide (Chg.ofBelow (lo := lo) (hi := hi) b0)
  have X0 := hide x0
  have Y0 := hide y0
  have D0 := hide (d.below b0)
  have LP := hide hP
  have LH := hide hH
  have LB := hide hB
  have KV0 : Hid (∀ w', Chg lo hi W0 w' → Rd w' (.slice av ks.length cv) ks) := fun w' hc => KV.out _ (C0.out.trans hc)
  clear kv d b0 x0 y0 e0 hP hH hB
  have HY := hide hy
  clear hy
  have hk0 : (0 : Int) ≤ (k : Int) := by omega
  have hk' : (k : Int) < (n : Int) := by omega
  go_enter Tryz.func84, Tryz.ntmps84
  go_wp2_with fail
  rw [E0.out]
  refine (hasSector_yes _ _ _ _ _ _ _ hk0 hk' (by omega)).mono ?_
  rintro e u1 ⟨rfl, q⟩
  have D1 := hide (D0.out.below q)
  have C1 := hide (C0.out.trans (Chg.ofBelow q))
  have s1 := q.size
  obtain ⟨c0, c1, c2⟩ := (X0.out.below q).c3
  obtain ⟨y0, y1, y2, y3⟩ := (Y0.out.below q).c4
  clear q
  go_wp2_with fail
  refine (holdText_calls _ _ _ P H B lo hi n k T y _ D1.out (by omega) LP.out LH.out LB.out hn hk hT HY.out).mono ?_
  rintro e u2 ⟨rfl, d2, c2'⟩
  have D2 := hide d2
  have C2 := hide (C1.out.trans c2')
  clear d2 c2' c0 c1 c2 y0 y1 y2 y3
  go_wp2
  go_ret
  exact ⟨rfl, D2.out, C2.out⟩

end Go.Proofs.YtbgadbokejaomaaGreatDoor

namespace Go.Proofs.YtbgadbokejaomaaGreatDoor
open Go.RowKit
set_option linter.unusedVariables false

end Go.Proofs.YtbgadbokejaomaaGreatDoor

namespace Go.Proofs.YtbgadbokejaomaaGreatDoor
open Go.RowKit
set_option linter.unusedVariables false

/-- A step can be done on a disk of n sectors. -/
def stOk (P H : List ByteArray) (B : List Bool) (n : Nat) (K A : Int) (T : ByteArray) (ks : List Int) : Prop :=
  (K = 1 ∧ ks = [] ∧ (0 ≤ A ∧ A < (n : Int)) ∧ hoOk B A.toNat T) ∨ (K = 2 ∧ A = 0 ∧ T = ⟨#[]⟩ ∧ ks = []) ∨ (K = 3 ∧ A = 0 ∧ T = ⟨#[]⟩ ∧ kpOk H ks) ∨
  (K = 4 ∧ ks = [] ∧ (0 ≤ A ∧ A < (n : Int)) ∧ roOk P H A.toNat T) ∨ (K = 5 ∧ T = ⟨#[]⟩ ∧ ks = [] ∧ (0 ≤ A ∧ A < (n : Int))) ∨ (K = 6 ∧ T = ⟨#[]⟩ ∧ ks = [] ∧ (0 ≤ A ∧ A < (n : Int)) ∧ B.getD A.toNat false = true)
/-- What a step leaves. -/
def stP (P H : List ByteArray) (n : Nat) (K A : Int) (T : ByteArray) (ks : List Int) : List ByteArray :=
  if K = 2 then crP P H (hpl H n) else if K = 3 then crP P H ks else if K = 4 then P.set A.toNat (rotT (P.getD A.toNat ⟨#[]⟩) T) else if K = 6 then P.set A.toNat ⟨#[]⟩ else P
def stH (H : List ByteArray) (K A : Int) (T : ByteArray) : List ByteArray := if K = 1 then H.set A.toNat T else if K = 2 then crH H else if K = 3 then crH H else if K = 5 then H.set A.toNat ⟨#[]⟩ else H
def stB (B : List Bool) (K A : Int) : List Bool := if K = 5 then B.set A.toNat true else if K = 6 then B.set A.toNat false else B

/-- What both do with a step on a disk of the call's own. -/
def StepPost (lo hi : Nat) (p h b : Value) (P H : List ByteArray) (B : List Bool) (n : Nat) (K A : Int) (T : ByteArray) (ks : List Int) (ok : Bool) (w w' : World) : Prop :=
  (ok = true → DskV w' lo hi p h b (stP P H n K A T ks) (stH H K A T) (stB B K A)) ∧ Chg lo hi w w'

end Go.Proofs.YtbgadbokejaomaaGreatDoor

namespace Go.Proofs.YtbgadbokejaomaaGreatDoor
open Go.RowKit
set_option linter.unusedVariables false

theorem Hand.three (w : World) (c1 c2 c3 : Array Value) (T1 T2 T3 : TypeId) : Hand w (((w.alloc (.cells c1 T1)).alloc (.cells c2 T2)).alloc (.cells c3 T3)) [TBox (w.heap.size + 1 + 1) c3 T3, TBox (w.heap.size + 1) c2 T2, TBox w.heap.size c1 T1] := by
  have h := (((Hand.start w).box c1 T1).box c2 T2).box c3 T3
  simpa only [World.size_alloc] using h
end Go.Proofs.YtbgadbokejaomaaGreatDoor

namespace Go.Proofs.YtbgadbokejaomaaGreatDoor
open Go.RowKit
set_option linter.unusedVariables false

/-- A stripe fits from A on. -/
def ftP (P : List ByteArray) (A : Int) : Prop := 0 ≤ A ∧ A ≤ (P.length : Int) - 5
theorem ft_bool (P H : List ByteArray) (B : List Bool) (A : Int) : ∃ f : Bool, f = true ↔ (gkP P H B ∧ ftP P A) := by
  by_cases h : gkP P H B ∧ ftP P A
  · exact ⟨true, by simp [h]⟩
  · exact ⟨false, by simp [h]⟩

set_option maxRecDepth 100000 in
set_option maxHeartbeats 1600000 in
theorem fitsStripe_calls (p h b : Value) (P H : List ByteArray) (B : List Bool) (A : Int) (g f : Bool) (w : World) (hg : g = true ↔ gkP P H B) (hf : f = true ↔ (gkP P H B ∧ ftP P A)) (hwf : (Lit.int .i64 A).wf = true) (hp : RdT w p P) (hh : RdT w h H) (hb : RdZ w b B) :
    Calls Tryz.prog 131 #[.agg #[p, h, b], .int .i64 A] w fun e w' => e = .returned (.tuple #[.bool f, .bool g]) ∧ Below w.heap.size w w' := by
  have HG := hide hg
  have HF := hide hf
  have RP := hide hp
  have RH := hide hh
  have RB := hide hb
  have A0 := hide ((Hand.start w).box #[p, h, b] 26)
  have C := hide (fun W (h1 : RdT W p P) (h2 : RdT W h H) (h3 : RdZ W b B) => goodDisk_calls p h b P H B g W hg h1 h2 h3)
  obtain ⟨ap, cp, rfl, mp, _⟩ := hp.sl
  obtain ⟨ah, ch, rfl, mh, _⟩ := hh.sl
  obtain ⟨ab, cb, rfl, mb, _⟩ := hb.sl
  clear hg hf hp hh hb mp mh mb
  cases g with
  | false =>
    have ng : Hid (¬ gkP P H B) := fun h => by have := HG.out.2 h; simp at this
    have ff : f = false := by
      cases f with
      | false => rfl
      | true => exact absurd (HF.out.1 rfl).1 ng.out
    subst ff
    go_enter Tryz.func131, Tryz.ntmps131
    go_wp2_with fail
    refine (C.out _ (RP.out.below A0.out.below) (RH.out.below A0.out.below) (RB.out.below A0.out.below)).mono ?_
    rintro e w1 ⟨rfl, q⟩
    have A1 := hide (A0.out.step q)
    clear q A0
    go_wp2
    go_ret2
    exact ⟨rfl, A1.out.below⟩
  | true =>
  have GK := hide (HG.out.1 rfl)
  have n24 : P.length ≤ 24 := GK.out.1.2
  have HF2 : Hid (f = true ↔ ftP P A) := ⟨fun h => (HF.out.1 h).2, fun h => HF.out.2 ⟨GK.out, h⟩⟩
  clear HG HF
  unfold ftP at HF2
  by_cases h0 : 0 ≤ A
  case neg =>
    have ff : f = false := by
      cases f with
      | false => rfl
      | true => exact absurd (HF2.out.1 rfl).1 h0
    subst ff
    go_enter Tryz.func131, Tryz.ntmps131
    go_wp2_with fail
    refine (C.out _ (RP.out.below A0.out.below) (RH.out.below A0.out.below) (RB.out.below A0.out.below)).mono ?_
    rintro e w1 ⟨rfl, q⟩
    have A1 := hide (A0.out.step q)
    clear q A0
    obtain ⟨c0, c1, c2⟩ := (A1.out.atBox 0 rfl).c3
    go_wp2
    go_ret2
    exact ⟨rfl, A1.out.below⟩
  have ff : f = decide (A ≤ (P.length : Int) - 5) := by
    cases f with
    | false => exact (decide_eq_false (fun h => by have := HF2.out.2 ⟨h0, h⟩; simp at this)).symm
    | true => exact (decide_eq_true (HF2.out.1 rfl).2).symm
  by_cases h5 : A ≤ (P.length : Int) - 5
  · rw [decide_eq_true h5] at ff
    subst ff
    go_enter Tryz.func131, Tryz.ntmps131
    go_wp2_with fail
    refine (C.out _ (RP.out.below A0.out.below) (RH.out.below A0.out.below) (RB.out.below A0.out.below)).mono ?_
    rintro e w1 ⟨rfl, q⟩
    have A1 := hide (A0.out.step q)
    clear q A0
    obtain ⟨c0, c1, c2⟩ := (A1.out.atBox 0 rfl).c3
    go_wp2
    go_ret2
    exact ⟨rfl, A1.out.below⟩
  · rw [decide_eq_false h5] at ff
    subst ff
    have hd : decide (A ≤ (P.length : Int) - 5) = false := decide_eq_false h5
    go_enter Tryz.func131, Tryz.ntmps131
    go_wp2_with fail
    refine (C.out _ (RP.out.below A0.out.below) (RH.out.below A0.out.below) (RB.out.below A0.out.below)).mono ?_
    rintro e w1 ⟨rfl, q⟩
    have A1 := hide (A0.out.step q)
    clear q A0
    obtain ⟨c0, c1, c2⟩ := (A1.out.atBox 0 rfl).c3
    go_wp2
    go_ret2
    exact ⟨rfl, A1.out.below⟩


set_option maxRecDepth 100000 in
set_option maxHeartbeats 400000 in
theorem l8Fits_calls (ap : Option Addr) (cp : Nat) (h b : Value) (P : List ByteArray) (A : Int) (f : Bool) (w : World) (hf : f = true ↔ ftP P A) (h24 : P.length ≤ 24) :
    Calls Tryz.prog 94 #[.agg #[.slice ap P.length cp, h, b], .int .i64 A] w fun e w' => e = .returned (.bool f) ∧ Below w.heap.size w w' := by
  unfold ftP at hf
  have HF2 := hide hf
  have HB := hide (below_box w (.cells #[.slice ap P.length cp, h, b] 26))
  clear hf
  by_cases h0 : 0 ≤ A
  case neg =>
    have ff : f = false := by
      cases f with
      | false => rfl
      | true => exact absurd (HF2.out.1 rfl).1 h0
    subst ff
    go_enter Tryz.func94, Tryz.ntmps94
    go_wp2
    go_ret
    exact ⟨rfl, HB.out⟩
  have ff : f = decide (A ≤ (P.length : Int) - 5) := by
    cases f with
    | false => exact (decide_eq_false (fun h => by have := HF2.out.2 ⟨h0, h⟩; simp at this)).symm
    | true => exact (decide_eq_true (HF2.out.1 rfl).2).symm
  by_cases h5 : A ≤ (P.length : Int) - 5
  · rw [decide_eq_true h5] at ff
    subst ff
    go_enter Tryz.func94, Tryz.ntmps94
    go_wp2
    go_ret
    exact ⟨rfl, HB.out⟩
  · rw [decide_eq_false h5] at ff
    subst ff
    have hd : decide (A ≤ (P.length : Int) - 5) = false := decide_eq_false h5
    go_enter Tryz.func94, Tryz.ntmps94
    go_wp2
    go_ret
    exact ⟨rfl, HB.out⟩

end Go.Proofs.YtbgadbokejaomaaGreatDoor

namespace Go.Proofs.YtbgadbokejaomaaGreatDoor
open Go.RowKit
set_option linter.unusedVariables false

end Go.Proofs.YtbgadbokejaomaaGreatDoor

namespace Go.Proofs.YtbgadbokejaomaaGreatDoor
open Go.RowKit

end Go.Proofs.YtbgadbokejaomaaGreatDoor

namespace Go.Proofs.YtbgadbokejaomaaGreatDoor
open Go.RowKit
set_option linter.unusedVariables false

end Go.Proofs.YtbgadbokejaomaaGreatDoor

namespace Go.Proofs.YtbgadbokejaomaaGreatDoor
open Go.RowKit
set_option linter.unusedVariables false

end Go.Proofs.YtbgadbokejaomaaGreatDoor

namespace Go.Proofs.YtbgadbokejaomaaGreatDoor
open Go.RowKit
set_option linter.unusedVariables false

abbrev frC (K A E : Int) (b : ByteArray) : Array Value := #[.int .i64 K, .int .i64 A, .int .i64 E, .string b]
theorem Hand.twoR (w : World) (c1 c2 : Array Value) (T1 T2 : TypeId) : Hand w ((w.alloc (.cells c1 T1)).alloc (.cells c2 T2)) [TBox (w.heap.size + 1) c2 T2, TBox w.heap.size c1 T1] := by
  have h := ((Hand.start w).box c1 T1).box c2 T2
  simpa only [World.size_alloc] using h

end Go.Proofs.YtbgadbokejaomaaGreatDoor

namespace Go.Proofs.YtbgadbokejaomaaGreatDoor
open Go.RowKit
set_option linter.unusedVariables false
set_option linter.unusedSimpArgs false

theorem rd_nilJ (w : World) : Rd w (.slice none 0 0) [] := ⟨none, 0, rfl, Nat.le_refl _, ⟨Nat.zero_le _, fun _ => rfl⟩, .inl rfl⟩
theorem frR_yes {K A E : Int} {b : ByteArray} (h : goodF K A E b.size) : (frR K A E b).2 = true ∧ (frR K A E b).1.size = 28 := by
  have e : frR K A E b = (ofN (frB K.toNat A.toNat E.toNat (bs b)), true) := if_pos h
  rw [e]
  refine ⟨rfl, ?_⟩
  rw [ofN_size, frB_length (by rw [bs_length]; exact h.2.2)]
theorem frR_no {K A E : Int} {b : ByteArray} (h : ¬ goodF K A E b.size) : frR K A E b = (⟨#[]⟩, false) := if_neg h
set_option maxRecDepth 100000 in
set_option maxHeartbeats 1600000 in
theorem holdFrame_calls (p h b : Value) (P H : List ByteArray) (B : List Bool) (K E : Int) (k : Nat) (T : ByteArray) (lo hi n : Nat) (ok : Bool) (w : World) (d : DskV w lo hi p h b P H B) (hhi : hi ≤ w.heap.size) (hP : P.length = n) (hH : H.length = n) (hB : B.length = n) (hn : 0 < n ∧ n ≤ 24) (hk : k < n) (hT : T.size ≤ maxLen)
    (hok : ok = true ↔ (goodF K (k : Int) E T.size ∧ B.getD k false = false)) :
    Calls Tryz.prog 146 #[.agg #[p, h, b], .agg #[.int .i64 K, .int .i64 (k : Int), .int .i64 E, .string T]] w fun e w' => e = .returned (.bool ok) ∧ (ok = true → DskV w' lo hi p h b P (H.set k (frR K (k : Int) E T).1) B) ∧ Chg lo hi w w' := by
  obtain ⟨ap, cp, ah, ch, ab, cb, rfl, rfl, rfl⟩ := d.sl
  have A0 := hide (Hand.twoR w #[.slice ap P.length cp, .slice ah H.length ch, .slice ab B.length cb] (frC K (k : Int) E T) 26 160)
  have FB := hide (fun W => frameBytes_calls K (k : Int) E T W hT)
  have D := hide d
  have HP := hide hP
  have HH := hide hH
  have HB := hide hB
  by_cases hg : goodF K (k : Int) E T.size
  · obtain ⟨f1, f2⟩ := frR_yes hg
    rw [f1] at FB
    have DS := hide (fun W dd q => doStep_1 (.slice ap P.length cp) (.slice ah H.length ch) (.slice ab B.length cb) (.slice none 0 0) P H B [] lo hi n k (frR K (k : Int) E T).1 ok W dd q HP.out HH.out HB.out hn (fun w' _ => rd_nilJ w') hk (by omega) (hok.trans ⟨fun h => ⟨h.2, by omega, by omega⟩, fun h => ⟨hg, h.1⟩⟩))
    generalize (frR K (k : Int) E T).1 = s at FB DS ⊢
    obtain ⟨x0, x1, x2⟩ := (A0.out.atBox 1 rfl).c3
    obtain ⟨z0, z1, z2, z3⟩ := (A0.out.atBox 0 rfl).c4
    clear d hP hH hB hok hg f1 f2 hT
    go_enter Tryz.func146, Tryz.ntmps146
    go_wp2_with fail
    refine (FB.out _).mono ?_
    rintro e w1 ⟨rfl, q⟩
    have A1 := hide (A0.out.step q)
    have BS : hi ≤ w1.heap.size := Nat.le_trans hhi A1.out.below.size
    clear q A0 x0 x1 x2 z0 z1 z2 z3
    obtain ⟨x0, x1, x2⟩ := (A1.out.atBox 1 rfl).c3
    obtain ⟨z0, z1, z2, z3⟩ := (A1.out.atBox 0 rfl).c4
    go_wp2_with (go_at_call 84; refine (DS.out _ (D.out.below A1.out.below) BS).mono ?_; rintro e w2 ⟨rfl, d2, c2⟩)
    go_ret
    exact ⟨by simp, d2, (Chg.ofBelow A1.out.below).trans c2⟩
  · rw [frR_no hg] at FB
    obtain rfl : ok = false := by cases ok with | false => rfl | true => exact absurd (hok.1 rfl).1 hg
    obtain ⟨x0, x1, x2⟩ := (A0.out.atBox 1 rfl).c3
    obtain ⟨z0, z1, z2, z3⟩ := (A0.out.atBox 0 rfl).c4
    clear d hP hH hB hok hg hT
    go_enter Tryz.func146, Tryz.ntmps146
    go_wp2_with fail
    refine (FB.out _).mono ?_
    rintro e w1 ⟨rfl, q⟩
    have A1 := hide (A0.out.step q)
    clear q A0 x0 x1 x2 z0 z1 z2 z3
    go_wp2
    go_ret
    exact ⟨rfl, fun h => by simp at h, Chg.ofBelow A1.out.below⟩

end Go.Proofs.YtbgadbokejaomaaGreatDoor

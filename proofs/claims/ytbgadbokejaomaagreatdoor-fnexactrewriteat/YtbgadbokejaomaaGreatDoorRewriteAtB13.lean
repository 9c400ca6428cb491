/-
  A crash, on a disk of the call's own: the program's, call by call. The contract says what it asks. Behind a crash: the program's AfterCrash and its model's, call by call. Each contract says what it asks. Bytes that rot: the model's function on a text, call by call. The contract says what it asks. A sector held, a sector healed: the program's functions on a disk of the call's own, call by call. Each contract says what it asks. A step done on a disk of the call's own, kind by kind: the program's doStep, call by call. Each contract says what it asks. Fields that a step has no use for: the program's test, call by call. The contract says what it asks. A step done on a disk of the call's own: what it leaves, and the program's doStep as a whole. Each contract says what it asks. A step of a disk: the program's StepDisk, call by call. The contract says what it asks. What lies apart stays where a call writes elsewhere: a row of the call's own beside a disk. No call is walked here. A step handed over, measured, held against another and marked: call by call. Each contract says what it asks. What a stripe's sectors tell: which are lost, their Epochs, the right one, those others. Mathematics; no call is walked here.
-/
import Derived.Test.YtbgadbokejaomaaGreatDoorRewriteAtB12
import Derived.Lib.SliceRun
import Derived.Test.YtbgadbokejaomaaGreatDoorRewriteAtB8
namespace Go.Proofs.YtbgadbokejaomaaGreatDoor
open Go.RowKit
set_option linter.unusedVariables false

theorem dsk_clear {lo hi gh ch n : Nat} {p b : Value} {P H : List ByteArray} {B : List Bool} (hH : H.length = n) : ∀ (m k : Nat) (w : World), k + m = n → DskV w lo hi p (.slice (some ⟨gh, 0, none⟩) n ch) b P (crHk H k) B →
    DskV (w.setCells gh k (List.replicate m (.string ⟨#[]⟩))) lo hi p (.slice (some ⟨gh, 0, none⟩) n ch) b P (crH H) B ∧ Chg lo hi w (w.setCells gh k (List.replicate m (.string ⟨#[]⟩)))
  | 0, k, w, hk, d => by
    obtain rfl : k = H.length := by omega
    rw [crHk_end] at d
    exact ⟨d, Chg.refl _ _ _⟩
  | m + 1, k, w, hk, d => by
    obtain ⟨d1, c1⟩ := d.putH (by rw [crHk_len]; exact hH) k ⟨#[]⟩ (Nat.zero_le _)
    rw [crHk_step H k (by omega)] at d1
    obtain ⟨d2, c2⟩ := dsk_clear hH m (k + 1) _ (by omega) d1
    exact ⟨d2, c1.trans c2⟩
theorem zero_str (w : World) : (zeroValue 9).run Tryz.prog w = .ok (.string ⟨#[]⟩) w := by
  obtain ⟨i0, hi, hz0, hz1, hz2⟩ := info_parts infoStr
  simp [zeroValue, typeInfo, hi, hz0]

set_option maxRecDepth 100000 in
set_option maxHeartbeats 1600000 in
theorem crashTo_calls (p h b v : Value) (P H : List ByteArray) (B : List Bool) (ks : List Int) (lo hi n : Nat) (g : Bool) (w : World) (d : DskV w lo hi p h b P H B) (hhi : hi ≤ w.heap.size) (hP : P.length = n) (hH : H.length = n) (hB : B.length = n) (hn : 0 < n ∧ n ≤ 24)
    (hkl : ks.length ≤ 1048576) (kv : ∀ w', Chg lo hi w w' → Rd w' v ks) (hg : g = true ↔ kpOk H ks) :
    Calls Tryz.prog 125 #[.agg #[p, h, b], v] w fun e w' => e = .returned (.bool g) ∧ (g = true → DskV w' lo hi p h b (crP P H ks) (crH H) B) ∧ Chg lo hi w w' := by
  obtain ⟨gp, cp, gh, ch, gb, cb, rfl, rfl, rfl, n1, n2, n3, ⟨t1, t2, t3⟩, _⟩ := d.blocks hP hH hB hn.1
  have KV := hide kv
  have HG := hide hg
  have D := hide d
  have LP := hide hP
  have LH := hide hH
  have LB := hide hB
  have A0 : Hid (Chg lo hi w (w.alloc (.cells #[.slice (some ⟨gp, 0, none⟩) n cp, .slice (some ⟨gh, 0, none⟩) n ch, .slice (some ⟨gb, 0, none⟩) n cb] 26))) := Chg.ofAlloc w _
  have X0 := hide (BoxAt.new w #[.slice (some ⟨gp, 0, none⟩) n cp, .slice (some ⟨gh, 0, none⟩) n ch, .slice (some ⟨gb, 0, none⟩) n cb] 26)
  have D0 := hide (d.below (below_box w (.cells #[.slice (some ⟨gp, 0, none⟩) n cp, .slice (some ⟨gh, 0, none⟩) n ch, .slice (some ⟨gb, 0, none⟩) n cb] 26)))
  have s0 : (w.alloc (.cells #[.slice (some ⟨gp, 0, none⟩) n cp, .slice (some ⟨gh, 0, none⟩) n ch, .slice (some ⟨gb, 0, none⟩) n cb] 26)).heap.size = w.heap.size + 1 := by simp
  clear kv hg d hP hH hB
  cases hr : rises ks (n : Int) with
  | false =>
    have HR := hide hr
    clear hr
    have e0 : Hid (g = false) := by
      show g = false
      cases g with
      | false => rfl
      | true =>
        have h1 := (rises_iff ks (n : Int)).2 (by rw [← LH.out]; exact (HG.out.1 rfl).1)
        rw [HR.out] at h1
        simp at h1
    go_enter Tryz.func125, Tryz.ntmps125
    go_wp2_with fail
    refine (areRising_calls _ ks (n : Int) _ (KV.out _ A0.out) (by omega) (by omega)).mono ?_
    rintro e w1 ⟨rfl, rfl⟩
    rw [HR.out]
    go_wp2
    go_ret
    exact ⟨ret_bool e0.out.symm, fun h => by rw [e0.out] at h; simp at h, A0.out⟩
  | true =>
  have HR := hide ((rises_iff ks (n : Int)).1 hr)
  have HRR := hide hr
  clear hr
  obtain ⟨y, hy⟩ : ∃ y : Bool, y = true ↔ ∀ i, i < ks.length → 0 < (H.getD (ks.getD i 0).toNat ⟨#[]⟩).size := by
    by_cases hh : ∀ i, i < ks.length → 0 < (H.getD (ks.getD i 0).toNat ⟨#[]⟩).size
    · exact ⟨true, fun _ => hh, fun _ => rfl⟩
    · exact ⟨false, fun h => by simp at h, fun h => absurd h hh⟩
  have CA := hide (allHeld_calls v ks w.heap.size _ H y _ (KV.out _ A0.out) X0.out.c3.2.1 D0.out.rh (fun i hi => by have := HR.out i hi; rw [LH.out]; exact ⟨this.1, this.2.1⟩) hy)
  have HYG : Hid (g = y) := by
    show g = y
    have hyk : kpOk H ks ↔ y = true := ⟨fun h => hy.2 h.2, fun h => ⟨by rw [LH.out]; exact HR.out, hy.1 h⟩⟩
    cases g with
    | true => exact (hyk.1 (HG.out.1 rfl)).symm
    | false =>
      cases y with
      | false => rfl
      | true => exact absurd (HG.out.2 (hyk.2 rfl)) (by simp)
  clear hy
  cases y with
  | false =>
    go_enter Tryz.func125, Tryz.ntmps125
    go_wp2_with fail
    refine (areRising_calls _ ks (n : Int) _ (KV.out _ A0.out) (by omega) (by omega)).mono ?_
    rintro e w1 ⟨rfl, rfl⟩
    rw [HRR.out]
    go_wp2_with fail
    refine CA.out.mono ?_
    rintro e w1 ⟨rfl, rfl⟩
    go_wp2
    go_ret
    exact ⟨ret_bool HYG.out.symm, fun h => by rw [HYG.out] at h; simp at h, A0.out⟩
  | true =>
  go_enter Tryz.func125, Tryz.ntmps125
  go_wp2_with fail
  refine (areRising_calls _ ks (n : Int) _ (KV.out _ A0.out) (by omega) (by omega)).mono ?_
  rintro e w1 ⟨rfl, rfl⟩
  rw [HRR.out]
  go_wp2_with fail
  refine CA.out.mono ?_
  rintro e w1 ⟨rfl, rfl⟩
  clear CA
  go_wp2_with fail
  refine (putOnPlate_calls _ _ _ v P H B ks lo hi n _ D0.out (by omega) LP.out LH.out LB.out hn (fun i hi => by have := HR.out i hi; exact ⟨this.1, this.2.1⟩) hkl (fun w' hc => KV.out _ (A0.out.trans hc))).mono ?_
  rintro e w2 ⟨rfl, d2, c2⟩
  have X2 := hide (X0.out.chg c2 (.inr hhi))
  obtain ⟨x0, x1, x2⟩ := X2.out.c3
  have d3 : DskV w2 lo hi (.slice (some ⟨gp, 0, none⟩) n cp) (.slice (some ⟨gh, 0, none⟩) n ch) (.slice (some ⟨gb, 0, none⟩) n cb) (crP P H ks) (crHk H 0) B := by rw [crHk_zero]; exact d2
  obtain ⟨d4, c4⟩ := dsk_clear LH.out n 0 w2 (by omega) d3
  have hcl := fun ty => Lib.run_clear_slice (P := Tryz.prog) w2 22 9 ty (.string ⟨#[]⟩) Tryz.underlying22 zero_str rfl rfl gh 0 n ch hn.1 (fun j hj => by rw [Nat.zero_add, (d2.cellH LH.out j hj).1]; rfl) (fun j hj => by rw [Nat.zero_add]; exact (d2.cellH LH.out j hj).2)
  have D4 := hide d4
  have C4 := hide ((A0.out.trans c2).trans c4)
  clear d2 c2 d3 d4 c4 x0 x2
  go_wp2
  go_ret
  exact ⟨ret_bool HYG.out.symm, fun _ => D4.out, C4.out⟩
end Go.Proofs.YtbgadbokejaomaaGreatDoor

namespace Go.Proofs.YtbgadbokejaomaaGreatDoor
open Go.RowKit
set_option linter.unusedVariables false

theorem Hand.store3 {W w : World} {L : List Tg} {g : Nat} {a b c : Value} {T : TypeId} (A : Hand W w L) (i : Nat) (hi : L[i]? = some (TBox g #[a, b, c] T)) (v0 v1 v2 : Value) :
    Hand W (((w.setCell ⟨g, 0, none⟩ v0).setCell ⟨g, 1, none⟩ v1).setCell ⟨g, 2, none⟩ v2) (L.set i (TBox g #[v0, v1, v2] T)) := by
  obtain ⟨lo, hi', ⟨b1, b2, b3⟩, _, _, put⟩ := A.open i hi
  exact put _ (TBox g #[v0, v1, v2] T) (TBox.st _ _ _) ⟨b1, b2, b3.store3 v0 v1 v2⟩ (Chg.store3 w g v0 v1 v2 b1 b2)
theorem Hand.wide {W w : World} {L : List Tg} {p h b : Value} {P H : List ByteArray} {B : List Bool} (A : Hand W w L) (i : Nat) (hi : L[i]? = some (TDsk p h b P H B)) : DskV w W.heap.size w.heap.size p h b P H B := by
  obtain ⟨lo, hi', d, h1, h2, _⟩ := A.open i hi
  exact DskV.wider d h1 h2
theorem Hand.two (w : World) (c1 c2 : Array Value) (T1 T2 : TypeId) : Hand w ((w.alloc (.cells c1 T1)).alloc (.cells c2 T2)) [TBox (w.heap.size + 1) c2 T2, TBox w.heap.size c1 T1] := by
  have h := ((Hand.start w).box c1 T1).box c2 T2
  simpa only [World.size_alloc] using h
theorem crP_len (P H : List ByteArray) (ks : List Int) : (crP P H ks).length = P.length := crPk_len _ _ _ _
end Go.Proofs.YtbgadbokejaomaaGreatDoor

namespace Go.Proofs.YtbgadbokejaomaaGreatDoor
open Go.RowKit
set_option linter.unusedVariables false

/-- The first k bytes are changed. -/
def rotK (l m : List Nat) : Nat → List Nat
  | 0 => l
  | k + 1 => (rotK l m k).set k (l.getD k 0 ^^^ m.getD k 0)
theorem rotK_len (l m : List Nat) : ∀ k, (rotK l m k).length = l.length
  | 0 => rfl
  | k + 1 => by rw [rotK, List.length_set]; exact rotK_len l m k
theorem rotK_at (l m : List Nat) : ∀ k i, k ≤ i → (rotK l m k).getD i 0 = l.getD i 0
  | 0, _, _ => rfl
  | k + 1, i, h => by
    rw [rotK, List.getD_eq_getElem?_getD, List.getElem?_set_ne (by omega), ← List.getD_eq_getElem?_getD]
    exact rotK_at l m k i (by omega)
theorem rotK_small {l m : List Nat} (hl : ∀ b ∈ l, b < 256) (hm : ∀ b ∈ m, b < 256) : ∀ k, ∀ b ∈ rotK l m k, b < 256
  | 0 => hl
  | k + 1 => by
    intro b hb
    rcases List.mem_or_eq_of_mem_set hb with h | h
    · exact rotK_small hl hm k b h
    · rw [h]
      exact Nat.xor_lt_two_pow (n := 8) (getD_lt hl k) (getD_lt hm k)
/-- A text of which the first bytes are changed by a mask's. -/
def rotT (s m : ByteArray) : ByteArray := ofN (rotK (bs s) (bs m) m.size)
theorem rotT_size (s m : ByteArray) : (rotT s m).size = s.size := by
  unfold rotT
  rw [ofN_size, rotK_len, bs_length]

set_option maxRecDepth 100000 in
set_option maxHeartbeats 800000 in
theorem l7Rot_calls (s m : ByteArray) (w : World) (hs : s.size ≤ 28) (hm : m.size ≤ s.size) :
    Calls Tryz.prog 136 #[.string s, .string m] w fun e w' => e = .returned (.string (rotT s m)) ∧ Below w.heap.size w w' := by
  have hcv := conv_bytes s
  have M := hide (bytesW_row s w)
  have G0 := hide (bytesW_below s w)
  go_enter Tryz.func136, Tryz.ntmps136
  go_wp2
  go_loopw [6] (fun vi wr => ∃ k : Nat, k ≤ m.size ∧ vi = .int .i64 k ∧ BRow wr w.heap.size (bytesC s w) (rotK (bs s) (bs m) k) ∧ Below w.heap.size w wr) (fun vi _ => m.size - (intOf vi).toNat)
  case atStart => exact ⟨0, Nat.zero_le _, rfl, M.out, G0.out⟩
  case round =>
    obtain ⟨k, hk, rfl, hrow, hb⟩ := hrel
    by_cases hlt : k < m.size
    · have hlen : (rotK (bs s) (bs m) k).length = s.size := by rw [rotK_len, bs_length]
      have hc1 := hrow.cell k (by omega)
      have hc2 := hrow.frozen k (by omega)
      rw [rotK_at (bs s) (bs m) k k (Nat.le_refl _)] at hc1
      have ST : Hid (rotK (bs s) (bs m) (k + 1) = (rotK (bs s) (bs m) k).set k ((bs s).getD k 0 ^^^ (bs m).getD k 0)) := rfl
      have hmk : (bs m).getD k 0 = m[k].toNat := bs_getD m k hlt
      rw [hmk] at ST
      have hx : (bs s).getD k 0 < 256 := getD_lt (bs_lt s) k
      have hy : m[k].toNat < 256 := m[k].toNat_lt
      have hst := hrow.set k ((bs s).getD k 0 ^^^ m[k].toNat)
      generalize (bs s).getD k 0 = x at hc1 ST hx hst
      have XX := hide (u8_xor_nat x m[k].toNat hx hy)
      have HS := hide hst
      have HB := hide hb
      have hlt' : (k : Int) < (m.size : Int) := by omega
      have hlts : (k : Int) < (s.size : Int) := by omega
      clear hlen hmk hst hrow hb hy
      go_wp2
      go_region
      go_wp2
      refine ⟨⟨k + 1, by omega, by go_num, ?_, (HB.out.setCell (p := ⟨w.heap.size, k, none⟩) (Nat.le_refl _) _).drew⟩, by simp [intOf]; omega⟩
      rw [XX.out, ST.out]
      exact HS.out.drew
    · obtain rfl : k = m.size := by omega
      have hcr := conv_row hrow (rotK_small (bs_lt s) (bs_lt m) _) (n := s.size) (by rw [rotK_len, bs_length])
      have HB := hide hb
      clear hrow hb
      go_wp2
      go_ret
      exact ⟨rfl, HB.out⟩

/-- The plate of a sector may rot so. -/
def roOk (P H : List ByteArray) (k : Nat) (T : ByteArray) : Prop := H.getD k ⟨#[]⟩ = ⟨#[]⟩ ∧ 1 ≤ T.size ∧ T.size ≤ (P.getD k ⟨#[]⟩).size

end Go.Proofs.YtbgadbokejaomaaGreatDoor

namespace Go.Proofs.YtbgadbokejaomaaGreatDoor
open Go.RowKit
set_option linter.unusedVariables false

/-- The text may be held there. -/
def hoOk (B : List Bool) (k : Nat) (T : ByteArray) : Prop := B.getD k false = false ∧ 1 ≤ T.size ∧ T.size ≤ 28

set_option linter.unusedSimpArgs false in
set_option maxRecDepth 100000 in
set_option maxHeartbeats 1600000 in
theorem holdText_calls (p h b : Value) (P H : List ByteArray) (B : List Bool) (lo hi n k : Nat) (T : ByteArray) (y : Bool) (w : World) (d : DskV w lo hi p h b P H B) (hhi : hi ≤ w.heap.size) (hP : P.length = n) (hH : H.length = n) (hB : B.length = n) (hn : 0 < n ∧ n ≤ 24) (hk : k < n) (hT : T.size ≤ 1048576) (hy : y = true ↔ hoOk B k T) :
    Calls Tryz.prog 128 #[.agg #[p, h, b], .int .i64 (k : Int), .string T] w fun e w' => e = .returned (.bool y) ∧ (y = true → DskV w' lo hi p h b P (H.set k T) B) ∧ Chg lo hi w w' := by
  obtain ⟨gp, cp, gh, ch, gb, cb, rfl, rfl, rfl, n1, n2, n3, ⟨t1, t2, t3⟩, _⟩ := d.blocks hP hH hB hn.1
  have HY : Hid (y = true ↔ (B.getD k false = false ∧ 1 ≤ T.size ∧ T.size ≤ 28)) := hy
  have b1 := below_box w (.cells #[.slice (some ⟨gp, 0, none⟩) n cp, .slice (some ⟨gh, 0, none⟩) n ch, .slice (some ⟨gb, 0, none⟩) n cb] 26)
  have C1 : Hid (Chg lo hi w (w.alloc (.cells #[.slice (some ⟨gp, 0, none⟩) n cp, .slice (some ⟨gh, 0, none⟩) n ch, .slice (some ⟨gb, 0, none⟩) n cb] 26))) := Chg.ofBelow b1
  have X1 := hide (BoxAt.new w #[.slice (some ⟨gp, 0, none⟩) n cp, .slice (some ⟨gh, 0, none⟩) n ch, .slice (some ⟨gb, 0, none⟩) n cb] 26)
  have d1 := d.below b1
  have D1 := hide d1
  have LH := hide hH
  have hk' : (k : Int) < (n : Int) := by omega
  obtain ⟨hb1, _⟩ := d1.cellB hB k hk
  clear hy d d1 b1 hP hH hB
  generalize B.getD k false = bad at *
  cases bad with
  | true =>
    have e0 : Hid (y = false) := by
      show y = false
      cases y with
      | false => rfl
      | true => exact absurd (HY.out.1 rfl).1 (by simp)
    go_enter Tryz.func128, Tryz.ntmps128
    go_wp2
    go_ret
    exact ⟨ret_bool e0.out.symm, fun h => by rw [e0.out] at h; simp at h, C1.out⟩
  | false =>
  by_cases hT0 : T.size = 0
  · have hTT := size_zero hT0
    subst hTT
    have e0 : Hid (y = false) := by
      show y = false
      cases y with
      | false => rfl
      | true => exact absurd (HY.out.1 rfl).2.1 (by decide)
    clear hT0
    go_enter Tryz.func128, Tryz.ntmps128
    go_wp2
    go_ret
    exact ⟨ret_bool e0.out.symm, fun h => by rw [e0.out] at h; simp at h, C1.out⟩
  obtain ⟨tt1, tt2⟩ := toList_ne (z := T) (fun e => hT0 (by rw [e]; rfl))
  obtain ⟨f, hf⟩ : ∃ f : Bool, f = true ↔ T.size ≤ 28 := ⟨decide (T.size ≤ 28), by simp⟩
  have CF := hide (fun W => fitsSector_calls T f W hf (by unfold maxLen; omega))
  have HF := hide hf
  clear hf
  cases f with
  | false =>
    have e0 : Hid (y = false) := by
      show y = false
      cases y with
      | false => rfl
      | true => exact absurd (HF.out.2 (HY.out.1 rfl).2.2) (by simp)
    clear hT0
    go_enter Tryz.func128, Tryz.ntmps128
    go_wp2_with fail
    refine (CF.out _).mono ?_
    rintro e w1 ⟨rfl, rfl⟩
    go_wp2
    go_ret
    exact ⟨ret_bool e0.out.symm, fun h => by rw [e0.out] at h; simp at h, C1.out⟩
  | true =>
  have e0 : Hid (y = true) := HY.out.2 ⟨rfl, by omega, HF.out.1 rfl⟩
  clear HY
  go_enter Tryz.func128, Tryz.ntmps128
  go_wp2_with fail
  refine (CF.out _).mono ?_
  rintro e w1 ⟨rfl, rfl⟩
  clear hb1
  go_wp2
  have hw1 := hide (show w.heap.size < (w.alloc (.cells #[.slice (some ⟨gp, 0, none⟩) n cp, .slice (some ⟨gh, 0, none⟩) n ch, .slice (some ⟨gb, 0, none⟩) n cb] 26)).heap.size from X1.out.lt)
  generalize w.alloc (.cells #[.slice (some ⟨gp, 0, none⟩) n cp, .slice (some ⟨gh, 0, none⟩) n ch, .slice (some ⟨gb, 0, none⟩) n cb] 26) = W1 at *
  refine wp_region_noPanic ?_
  refine wp_region_held_drew (S := fun w' => w'.cell? ⟨w.heap.size, 1, none⟩ = some (.slice (some ⟨gh, 0, none⟩) n ch)) (by kernel_rfl) ((X1.out.below (Below.refl _ _).drew).c3.2.1) (fun hHeld => ?_)
  have BV := hide (Below.refl W1.heap.size W1).drew
  generalize W1.drew = V0 at *
  refine wpAnyH_take (i := 0) (v := ?v1) rfl (by kernel_rfl) (by kernel_rfl) (by kernel_rfl) (fun _ _ _ h => h) (Or.inl ⟨by rfl, ?hy1⟩) (by assumption) ?rest1
  case hy1 => (intro w' hSw; dsimp only [List.getElem_toArray, List.getElem_cons_zero, List.getElem_cons_succ] at hSw ⊢; go_simp; try (with_reducible rfl))
  try simp only [Act.put, List.getElem_toArray, List.getElem_cons_zero, List.getElem_cons_succ, List.setIfInBounds_toArray, List.set_cons_zero, List.set_cons_succ]
  refine wpAnyH_take (i := 1) (v := ?v2) rfl (by kernel_rfl) (by kernel_rfl) (by kernel_rfl) (fun _ _ _ h => h) (Or.inl ⟨by rfl, ?hy2⟩) (by assumption) ?rest2
  case hy2 => (intro w' hSw; dsimp only [List.getElem_toArray, List.getElem_cons_zero, List.getElem_cons_succ] at hSw ⊢; go_simp; try (with_reducible rfl))
  try simp only [Act.put, List.getElem_toArray, List.getElem_cons_zero, List.getElem_cons_succ, List.setIfInBounds_toArray, List.set_cons_zero, List.set_cons_succ]
  refine wpAnyH_take (i := 2) (v := ?v3) rfl (by kernel_rfl) (by kernel_rfl) (by kernel_rfl) (fun _ _ _ h => h) (Or.inl ⟨by rfl, ?hy3⟩) (by assumption) ?rest3
  case hy3 => (intro w' hSw; dsimp only [List.getElem_toArray, List.getElem_cons_zero, List.getElem_cons_succ] at hSw ⊢; go_simp; try (with_reducible rfl))
  try simp only [Act.put, List.getElem_toArray, List.getElem_cons_zero, List.getElem_cons_succ, List.setIfInBounds_toArray, List.set_cons_zero, List.set_cons_succ]
  refine wpAnyH_take (i := 3) (v := ?v4) rfl (by kernel_rfl) (by kernel_rfl) (by kernel_rfl) (fun _ _ _ h => h) (Or.inl ⟨by rfl, ?hy4⟩) (by assumption) ?rest4
  case hy4 => (intro w' hSw; dsimp only [List.getElem_toArray, List.getElem_cons_zero, List.getElem_cons_succ] at hSw ⊢; go_simp; try (with_reducible rfl))
  try simp only [Act.put, List.getElem_toArray, List.getElem_cons_zero, List.getElem_cons_succ, List.setIfInBounds_toArray, List.set_cons_zero, List.set_cons_succ]
  refine wpAnyH_ready (rs := [4]) (by kernel_rfl) (by simp) ?_
  refine AllReadyH.cons rfl (fun K hK => ?_) AllReadyH.nil
  dsimp only [List.getElem_toArray, List.getElem_cons_zero, List.getElem_cons_succ]
  go_simp
  refine (clone_calls T _ hT).mono ?_
  rintro e' u1 ⟨rfl, bb⟩
  have B2 := hide (BV.out.trans (bb.mono BV.out.size))
  clear bb hHeld BV
  refine hK.out _ _ ((X1.out.below B2.out).c3.2.1) (fun hHeld => ?_)
  clear hK K
  try simp only [Act.put, List.getElem_toArray, List.getElem_cons_zero, List.getElem_cons_succ, List.setIfInBounds_toArray, List.set_cons_zero, List.set_cons_succ]
  refine wpAnyH_take (i := 5) (v := ?v5) rfl (by kernel_rfl) (by kernel_rfl) (by kernel_rfl) (fun _ _ _ h => h) (Or.inl ⟨by rfl, ?hy5⟩) (by assumption) ?rest5
  case hy5 => (intro w' hSw; dsimp only [List.getElem_toArray, List.getElem_cons_zero, List.getElem_cons_succ] at hSw ⊢; go_simp; try (with_reducible rfl))
  try simp only [Act.put, List.getElem_toArray, List.getElem_cons_zero, List.getElem_cons_succ, List.setIfInBounds_toArray, List.set_cons_zero, List.set_cons_succ]
  refine wpAnyH_ready (rs := [6]) (by kernel_rfl) (by simp) ?_
  refine AllReadyH.cons rfl (fun K hK => ?_) AllReadyH.nil
  have d2 := D1.out.below B2.out
  obtain ⟨q1, q2⟩ := d2.cellH LH.out k hk
  obtain ⟨dp, cpp⟩ := d2.putH LH.out k T (by unfold maxLen; omega)
  have DP := hide dp
  have CP := hide ((C1.out.trans (Chg.ofBelow B2.out)).trans cpp)
  have cN := ((X1.out.below B2.out).chg cpp (.inr hhi)).c3.2.1
  clear d2 dp cpp hHeld
  dsimp only [List.getElem_toArray, List.getElem_cons_zero, List.getElem_cons_succ]
  go_simp
  refine hK.out _ _ (cN) (fun hHeld => ?_)
  clear hK K
  try simp only [Act.put, List.getElem_toArray, List.getElem_cons_zero, List.getElem_cons_succ, List.setIfInBounds_toArray, List.set_cons_zero, List.set_cons_succ]
  refine wpAnyH_done (by kernel_rfl) ?_ _
  refine NoPanic.normal ?_
  go_wp2
  go_ret
  exact ⟨ret_bool e0.out.symm, fun _ => DP.out, CP.out⟩

end Go.Proofs.YtbgadbokejaomaaGreatDoor

namespace Go.Proofs.YtbgadbokejaomaaGreatDoor
open Go.RowKit
set_option linter.unusedVariables false

theorem hpl_sorted (H : List ByteArray) : ∀ k, (∀ i, i < (hpl H k).length → 0 ≤ (hpl H k).getD i 0 ∧ (hpl H k).getD i 0 < (k : Int) ∧ (i = 0 ∨ (hpl H k).getD (i - 1) 0 < (hpl H k).getD i 0)) ∧ ∀ i, i < (hpl H k).length → 0 < (H.getD ((hpl H k).getD i 0).toNat ⟨#[]⟩).size
  | 0 => by simp [hpl]
  | k + 1 => by
    obtain ⟨h1, h2⟩ := hpl_sorted H k
    by_cases hz : 0 < (H.getD k ⟨#[]⟩).size
    · rw [hpl_yes H k hz]
      have at1 : ∀ i, i < (hpl H k).length → (hpl H k ++ [(k : Int)]).getD i 0 = (hpl H k).getD i 0 := fun i hi => by
        rw [List.getD_eq_getElem?_getD, List.getElem?_append_left hi, ← List.getD_eq_getElem?_getD]
      have at2 : (hpl H k ++ [(k : Int)]).getD (hpl H k).length 0 = (k : Int) := by
        rw [List.getD_eq_getElem?_getD, List.getElem?_append_right (Nat.le_refl _), Nat.sub_self]
        rfl
      refine ⟨fun i hi => ?_, fun i hi => ?_⟩
      · rw [List.length_append, List.length_singleton] at hi
        by_cases e : i = (hpl H k).length
        · subst e
          rw [at2]
          refine ⟨by omega, by omega, ?_⟩
          by_cases e0 : (hpl H k).length = 0
          · exact .inl e0
          · right
            rw [at1 _ (by omega)]
            exact (h1 ((hpl H k).length - 1) (by omega)).2.1
        · obtain ⟨a1, a2, a3⟩ := h1 i (by omega)
          rw [at1 i (by omega)]
          refine ⟨a1, by omega, ?_⟩
          rcases a3 with a3 | a3
          · exact .inl a3
          · right
            rw [at1 _ (by omega)]
            exact a3
      · rw [List.length_append, List.length_singleton] at hi
        by_cases e : i = (hpl H k).length
        · subst e
          rw [at2, Int.toNat_natCast]
          exact hz
        · rw [at1 i (by omega)]
          exact h2 i (by omega)
    · rw [hpl_no H k hz]
      refine ⟨fun i hi => ?_, h2⟩
      obtain ⟨a1, a2, a3⟩ := h1 i hi
      exact ⟨a1, by omega, a3⟩
theorem hpl_ok (H : List ByteArray) : kpOk H (hpl H H.length) := hpl_sorted H H.length

set_option linter.unusedSimpArgs false in
set_option maxRecDepth 100000 in
set_option maxHeartbeats 1600000 in
theorem doStep_sync (p h b vk : Value) (P H : List ByteArray) (B : List Bool) (ks : List Int) (lo hi n : Nat)  (w : World) (d : DskV w lo hi p h b P H B) (hhi : hi ≤ w.heap.size) (hP : P.length = n) (hH : H.length = n) (hB : B.length = n) (hn : 0 < n ∧ n ≤ 24) (kv : ∀ w', Chg lo hi w w' → Rd w' vk ks)  :
    Calls Tryz.prog 84 #[.agg #[p, h, b], .agg #[.int .i64 2, .int .i64 0, .string ⟨#[]⟩, vk]] w fun e w' => e = .returned (.bool true) ∧ (true = true → DskV w' lo hi p h b (crP P H (hpl H n)) (crH H) B) ∧ Chg lo hi w w' := by
  obtain ⟨gp, cp, gh, ch, gb, cb, rfl, rfl, rfl, n1, n2, n3, ⟨t1, t2, t3⟩, _⟩ := d.blocks hP hH hB hn.1
  have KV := hide kv
  obtain ⟨av, cv, ev, _, _⟩ := (kv w (Chg.refl _ _ _)).sl
  subst ev
  obtain ⟨W0, e0⟩ : ∃ W0, W0 = (w.alloc (.cells #[.slice (some ⟨gp, 0, none⟩) n cp, .slice (some ⟨gh, 0, none⟩) n ch, .slice (some ⟨gb, 0, none⟩) n cb] 26)).alloc (.cells #[.int .i64 2, .int .i64 0, .string ⟨#[]⟩, .slice av ks.length cv] 105) := ⟨_, rfl⟩
  have b0 : Below w.heap.size w W0 := by rw [e0]; exact (below_box w _).trans ((below_box _ _).mono (by simp))
  have x0 : BoxAt W0 w.heap.size #[.slice (some ⟨gp, 0, none⟩) n cp, .slice (some ⟨gh, 0, none⟩) n ch, .slice (some ⟨gb, 0, none⟩) n cb] 26 := by rw [e0]; exact (BoxAt.new w _ _).below (below_box _ _)
  have y0 : BoxAt W0 (w.heap.size + 1) #[.int .i64 2, .int .i64 0, .string ⟨#[]⟩, .slice av ks.length cv] 105 := by
    rw [e0]
    have := BoxAt.new (w.alloc (.cells #[.slice (some ⟨gp, 0, none⟩) n cp, .slice (some ⟨gh, 0, none⟩) n ch, .slice (some ⟨gb, 0, none⟩) n cb] 26)) #[.int .i64 2, .int .i64 0, .string ⟨#[]⟩, .slice av ks.length cv] 105
    simpa only [World.size_alloc] using this
  have s0 : w.heap.size + 1 < W0.heap.size := y0.lt
  have E0 := hide e0.symm
  have C0 := hide (Chg.ofBelow (lo := lo) (hi := hi) b0)
  have X0 := hide x0
  have Y0 := hide y0
  have D0 := hide (d.below b0)
  have LP := hide hP
  have LH := hide hH
  have LB := hide hB
  have KV0 : Hid (∀ w', Chg lo hi W0 w' → Rd w' (.slice av ks.length cv) ks) := fun w' hc => KV.out _ (C0.out.trans hc)
  clear kv d b0 x0 y0 e0 hP hH hB
  go_enter Tryz.func84, Tryz.ntmps84
  go_wp2
  rw [E0.out]
  refine wp_region_noPanic ?_
  refine wp_region_held_drew (S := fun w' => w'.cell? ⟨w.heap.size, 0, none⟩ = some (.slice (some ⟨gp, 0, none⟩) n cp) ∧ w'.cell? ⟨w.heap.size, 1, none⟩ = some (.slice (some ⟨gh, 0, none⟩) n ch) ∧ w'.cell? ⟨w.heap.size, 2, none⟩ = some (.slice (some ⟨gb, 0, none⟩) n cb)) (by kernel_rfl) ((X0.out.below (Below.refl _ _).drew).c3) (fun hHeld => ?_)
  have DV := hide (D0.out.below (Below.refl _ _).drew)
  have XV := hide (X0.out.below (Below.refl _ _).drew)
  have CV : Hid (Chg lo hi w W0.drew) := C0.out.trans (Chg.ofBelow (Below.refl _ _).drew)
  have sV : w.heap.size + 1 < W0.drew.heap.size := s0
  clear D0 X0 Y0 C0 E0 s0 KV0
  generalize W0.drew = V0 at *
  refine wpAnyH_take (i := 0) (v := ?v1) rfl (by kernel_rfl) (by kernel_rfl) (by kernel_rfl) (fun _ _ _ h => h) (Or.inl ⟨by rfl, ?hy1⟩) (by assumption) ?rest1
  case hy1 => (intro w' hSw; dsimp only [List.getElem_toArray, List.getElem_cons_zero, List.getElem_cons_succ] at hSw ⊢; go_simp; try (with_reducible rfl))
  try simp only [Act.put, List.getElem_toArray, List.getElem_cons_zero, List.getElem_cons_succ, List.setIfInBounds_toArray, List.set_cons_zero, List.set_cons_succ]
  refine wpAnyH_take (i := 1) (v := ?v2) rfl (by kernel_rfl) (by kernel_rfl) (by kernel_rfl) (fun _ _ _ h => h) (Or.inl ⟨by rfl, ?hy2⟩) (by assumption) ?rest2
  case hy2 => (intro w' hSw; dsimp only [List.getElem_toArray, List.getElem_cons_zero, List.getElem_cons_succ] at hSw ⊢; go_simp; try (with_reducible rfl))
  try simp only [Act.put, List.getElem_toArray, List.getElem_cons_zero, List.getElem_cons_succ, List.setIfInBounds_toArray, List.set_cons_zero, List.set_cons_succ]
  refine wpAnyH_ready (rs := [2]) (by kernel_rfl) (by simp) ?_
  refine AllReadyH.cons rfl (fun K hK => ?_) AllReadyH.nil
  dsimp only [List.getElem_toArray, List.getElem_cons_zero, List.getElem_cons_succ]
  go_simp
  refine (heldPlaces_calls _ _ _ H _ DV.out.rh (by rw [LH.out]; exact hn.2)).mono ?_
  rintro e' u1 ⟨v1, rfl, o1, bb⟩
  obtain ⟨a1, c1, rfl⟩ := row_slice o1
  have hl := hpl_len H H.length
  have hl2 := LH.out
  have s1 := bb.size
  have O1 := hide o1
  have D1 := hide (DV.out.below bb)
  have X1 := hide (XV.out.below bb)
  have C1 := hide (CV.out.trans (Chg.ofBelow bb))
  have hl3 : (hpl H H.length).length ≤ 24 := by omega
  clear bb hHeld o1 DV XV CV hl hl2
  refine hK.out _ _ (X1.out.c3) (fun hHeld => ?_)
  clear hK K
  try simp only [Act.put, List.getElem_toArray, List.getElem_cons_zero, List.getElem_cons_succ, List.setIfInBounds_toArray, List.set_cons_zero, List.set_cons_succ]
  refine wpAnyH_ready (rs := [3]) (by kernel_rfl) (by simp) ?_
  refine AllReadyH.cons rfl (fun K hK => ?_) AllReadyH.nil
  dsimp only [List.getElem_toArray, List.getElem_cons_zero, List.getElem_cons_succ]
  go_simp
  have hK1 := hpl_ok H
  refine (crashTo_calls _ _ _ _ P H B (hpl H H.length) lo hi n true _ D1.out (by omega) LP.out LH.out LB.out hn (by omega) (fun w' hc => Own.rd (ownsRow_chg O1.out (row_top O1.out) hc (.inr (by omega)))) ⟨fun _ => hK1, fun _ => rfl⟩).mono ?_
  rintro e' u2 ⟨rfl, d2, c2⟩
  have dd := d2 rfl
  rw [show hpl H H.length = hpl H n from by rw [LH.out]] at dd
  have D2 := hide dd
  have X2 := hide (X1.out.chg c2 (.inr hhi))
  have C2 := hide (C1.out.trans c2)
  clear d2 dd c2 hHeld D1 X1 C1 hK1
  refine hK.out _ _ (X2.out.c3) (fun hHeld => ?_)
  clear hK K
  try simp only [Act.put, List.getElem_toArray, List.getElem_cons_zero, List.getElem_cons_succ, List.setIfInBounds_toArray, List.set_cons_zero, List.set_cons_succ]
  refine wpAnyH_ready (rs := [4]) (by kernel_rfl) (by simp) ?_
  refine AllReadyH.cons rfl (fun K hK => ?_) AllReadyH.nil
  dsimp only [List.getElem_toArray, List.getElem_cons_zero, List.getElem_cons_succ]
  go_simp
  refine hK.out _ _ (X2.out.c3) (fun hHeld => ?_)
  clear hK K
  try simp only [Act.put, List.getElem_toArray, List.getElem_cons_zero, List.getElem_cons_succ, List.setIfInBounds_toArray, List.set_cons_zero, List.set_cons_succ]
  refine wpAnyH_done (by kernel_rfl) ?_ _
  refine NoPanic.normal ?_
  go_wp2
  go_ret
  exact ⟨rfl, fun _ => D2.out, C2.out⟩

set_option linter.unusedSimpArgs false in
set_option maxRecDepth 100000 in
set_option maxHeartbeats 1600000 in
theorem doStep_1 (p h b vk : Value) (P H : List ByteArray) (B : List Bool) (ks : List Int) (lo hi n : Nat) (k : Nat) (T : ByteArray) (y : Bool) (w : World) (d : DskV w lo hi p h b P H B) (hhi : hi ≤ w.heap.size) (hP : P.length = n) (hH : H.length = n) (hB : B.length = n) (hn : 0 < n ∧ n ≤ 24) (kv : ∀ w', Chg lo hi w w' → Rd w' vk ks) (hk : k < n) (hT : T.size ≤ 1048576) (hy : y = true ↔ hoOk B k T) :
    Calls Tryz.prog 84 #[.agg #[p, h, b], .agg #[.int .i64 1, .int .i64 (k : Int), .string T, vk]] w fun e w' => e = .returned (.bool y) ∧ (y = true → DskV w' lo hi p h b P (H.set k T) B) ∧ Chg lo hi w w' := by
  obtain ⟨gp, cp, gh, ch, gb, cb, rfl, rfl, rfl, n1, n2, n3, ⟨t1, t2, t3⟩, _⟩ := d.blocks hP hH hB hn.1
  have KV := hide kv
  obtain ⟨av, cv, ev, _, _⟩ := (kv w (Chg.refl _ _ _)).sl
  subst ev
  obtain ⟨W0, e0⟩ : ∃ W0, W0 = (w.alloc (.cells #[.slice (some ⟨gp, 0, none⟩) n cp, .slice (some ⟨gh, 0, none⟩) n ch, .slice (some ⟨gb, 0, none⟩) n cb] 26)).alloc (.cells #[.int .i64 1, .int .i64 (k : Int), .string T, .slice av ks.length cv] 105) := ⟨_, rfl⟩
  have b0 : Below w.heap.size w W0 := by rw [e0]; exact (below_box w _).trans ((below_box _ _).mono (by simp))
  have x0 : BoxAt W0 w.heap.size #[.slice (some ⟨gp, 0, none⟩) n cp, .slice (some ⟨gh, 0, none⟩) n ch, .slice (some ⟨gb, 0, none⟩) n cb] 26 := by rw [e0]; exact (BoxAt.new w _ _).below (below_box _ _)
  have y0 : BoxAt W0 (w.heap.size + 1) #[.int .i64 1, .int .i64 (k : Int), .string T, .slice av ks.length cv] 105 := by
    rw [e0]
    have := BoxAt.new (w.alloc (.cells #[.slice (some ⟨gp, 0, none⟩) n cp, .slice (some ⟨gh, 0, none⟩) n ch, .slice (some ⟨gb, 0, none⟩) n cb] 26)) #[.int .i64 1, .int .i64 (k : Int), .string T, .slice av ks.length cv] 105
    simpa only [World.size_alloc] using this
  have s0 : w.heap.size + 1 < W0.heap.size := y0.lt
  have E0 := hide e0.symm
  have C0 := hide (Chg.ofBelow (lo := lo) (hi := hi) b0)
  have X0 := hide x0
  have Y0 := hide y0
  have D0 := hide (d.below b0)
  have LP := hide hP
  have LH := hide hH
  have LB := hide hB
  have KV0 : Hid (∀ w', Chg lo hi W0 w' → Rd w' (.slice av ks.length cv) ks) := fun w' hc => KV.out _ (C0.out.trans hc)
  clear kv d b0 x0 y0 e0 hP hH hB
  have HY := hide hy
  clear hy
  have hk0 : (0 : Int) ≤ (k : Int) := by omega
  have hk' : (k : Int) < (n : Int) := by omega
  go_enter Tryz.func84, Tryz.ntmps84
  go_wp2_with fail
  rw [E0.out]
  refine (hasSector_yes _ _ _ _ _ _ _ hk0 hk' (by omega)).mono ?_
  rintro e u1 ⟨rfl, q⟩
  have D1 := hide (D0.out.below q)
  have C1 := hide (C0.out.trans (Chg.ofBelow q))
  have s1 := q.size
  obtain ⟨c0, c1, c2⟩ := (X0.out.below q).c3
  obtain ⟨y0, y1, y2, y3⟩ := (Y0.out.below q).c4
  clear q
  go_wp2_with fail
  refine (holdText_calls _ _ _ P H B lo hi n k T y _ D1.out (by omega) LP.out LH.out LB.out hn hk hT HY.out).mono ?_
  rintro e u2 ⟨rfl, d2, c2'⟩
  have D2 := hide d2
  have C2 := hide (C1.out.trans c2')
  clear d2 c2' c0 c1 c2 y0 y1 y2 y3
  go_wp2
  go_ret
  exact ⟨rfl, D2.out, C2.out⟩

end Go.Proofs.YtbgadbokejaomaaGreatDoor

namespace Go.Proofs.YtbgadbokejaomaaGreatDoor
open Go.RowKit
set_option linter.unusedVariables false

end Go.Proofs.YtbgadbokejaomaaGreatDoor

namespace Go.Proofs.YtbgadbokejaomaaGreatDoor
open Go.RowKit
set_option linter.unusedVariables false

/-- A step can be done on a disk of n sectors. -/
def stOk (P H : List ByteArray) (B : List Bool) (n : Nat) (K A : Int) (T : ByteArray) (ks : List Int) : Prop :=
  (K = 1 ∧ ks = [] ∧ (0 ≤ A ∧ A < (n : Int)) ∧ hoOk B A.toNat T) ∨ (K = 2 ∧ A = 0 ∧ T = ⟨#[]⟩ ∧ ks = []) ∨ (K = 3 ∧ A = 0 ∧ T = ⟨#[]⟩ ∧ kpOk H ks) ∨
  (K = 4 ∧ ks = [] ∧ (0 ≤ A ∧ A < (n : Int)) ∧ roOk P H A.toNat T) ∨ (K = 5 ∧ T = ⟨#[]⟩ ∧ ks = [] ∧ (0 ≤ A ∧ A < (n : Int))) ∨ (K = 6 ∧ T = ⟨#[]⟩ ∧ ks = [] ∧ (0 ≤ A ∧ A < (n : Int)) ∧ B.getD A.toNat false = true)
/-- What a step leaves. -/
def stP (P H : List ByteArray) (n : Nat) (K A : Int) (T : ByteArray) (ks : List Int) : List ByteArray :=
  if K = 2 then crP P H (hpl H n) else if K = 3 then crP P H ks else if K = 4 then P.set A.toNat (rotT (P.getD A.toNat ⟨#[]⟩) T) else if K = 6 then P.set A.toNat ⟨#[]⟩ else P
def stH (H : List ByteArray) (K A : Int) (T : ByteArray) : List ByteArray := if K = 1 then H.set A.toNat T else if K = 2 then crH H else if K = 3 then crH H else if K = 5 then H.set A.toNat ⟨#[]⟩ else H
def stB (B : List Bool) (K A : Int) : List Bool := if K = 5 then B.set A.toNat true else if K = 6 then B.set A.toNat false else B

/-- What both do with a step on a disk of the call's own. -/
def StepPost (lo hi : Nat) (p h b : Value) (P H : List ByteArray) (B : List Bool) (n : Nat) (K A : Int) (T : ByteArray) (ks : List Int) (ok : Bool) (w w' : World) : Prop :=
  (ok = true → DskV w' lo hi p h b (stP P H n K A T ks) (stH H K A T) (stB B K A)) ∧ Chg lo hi w w'

end Go.Proofs.YtbgadbokejaomaaGreatDoor

namespace Go.Proofs.YtbgadbokejaomaaGreatDoor
open Go.RowKit
set_option linter.unusedVariables false

theorem Hand.three (w : World) (c1 c2 c3 : Array Value) (T1 T2 T3 : TypeId) : Hand w (((w.alloc (.cells c1 T1)).alloc (.cells c2 T2)).alloc (.cells c3 T3)) [TBox (w.heap.size + 1 + 1) c3 T3, TBox (w.heap.size + 1) c2 T2, TBox w.heap.size c1 T1] := by
  have h := (((Hand.start w).box c1 T1).box c2 T2).box c3 T3
  simpa only [World.size_alloc] using h
end Go.Proofs.YtbgadbokejaomaaGreatDoor

namespace Go.Proofs.YtbgadbokejaomaaGreatDoor
open Go.RowKit
set_option linter.unusedVariables false

theorem own_outJ {w w' : World} {base lo hi n : Nat} {e : TypeId} {v : Value} {xs : List Value} (h : w.ownsRow base e 1 v n xs) (ho : ∀ k, v.ownBlock = some k → k < lo ∨ hi ≤ k) (hc : Chg lo hi w w') : w'.ownsRow base e 1 v n xs := by
  refine ⟨h.1, ?_⟩
  rcases h.2 with hn | ⟨g, cap, cur, rfl, hb', hg, rest⟩
  · exact .inl hn
  · exact .inr ⟨g, cap, cur, rfl, hb', by rw [hc.block g (Array.getElem?_eq_some_iff.1 hg).1 (ho g rfl)]; exact hg, rest⟩
theorem dsk_out {w w' : World} {l u : Nat} {p h b v : Value} {P H : List ByteArray} {B : List Bool} (d : DskV w l u p h b P H B) (ho : ∀ k, v.ownBlock = some k → k < l ∨ u ≤ k) (hg : w.grownBy w' v.ownBlock) : DskV w' l u p h b P H B := by
  cases e : v.ownBlock with
  | none => exact d.chg (Chg.ofGrown (lo := u) (hi := u) hg (fun j hj => by rw [e] at hj; cases hj)) (.inl (Nat.le_refl _))
  | some j =>
    have := ho j e
    exact d.chg (Chg.ofGrown (lo := j) (hi := j + 1) hg (fun i hi => by rw [e] at hi; cases hi; omega)) (by omega)
end Go.Proofs.YtbgadbokejaomaaGreatDoor

namespace Go.Proofs.YtbgadbokejaomaaGreatDoor
open Go.RowKit
set_option linter.unusedVariables false

set_option maxRecDepth 100000 in
set_option maxHeartbeats 400000 in
theorem szIntS_any (v : Value) (xs : List Int) (l : Int) (w : World) (h : Rd w v xs) (h0 : 0 ≤ l) (hl : l ≤ 1048576) :
    Calls Tryz.prog 65 #[v, .int .i64 l] w fun e w' => (∃ r : Int, e = .returned (.int .i64 r) ∧ (r < 0 ∨ (0 ≤ r ∧ r ≤ 1048576 ∧ xs.length ≤ 1048576))) ∧ w = w' := by
  obtain ⟨a, cap, rfl, h1, h2, h3⟩ := h
  have hm : xs.length ≤ maxLen := by omega
  unfold maxLen at hm
  clear h3 h2 h1
  by_cases hc : (xs.length : Int) ≤ l
  · have e : ¬ (l - (xs.length : Int) < 0) := by omega
    go_enter Tryz.func65, Tryz.ntmps65
    go_wp2
    go_ret
    exact ⟨⟨_, rfl, .inr ⟨by omega, by omega, by omega⟩⟩, rfl⟩
  · have e : l - (xs.length : Int) < 0 := by omega
    go_enter Tryz.func65, Tryz.ntmps65
    go_wp2
    go_ret
    exact ⟨⟨_, rfl, .inl (by decide)⟩, rfl⟩

theorem Hand.store4 {W w : World} {L : List Tg} {g : Nat} {a b c d : Value} {T : TypeId} (A : Hand W w L) (i : Nat) (hi : L[i]? = some (TBox g #[a, b, c, d] T)) (v0 v1 v2 v3 : Value) :
    Hand W ((((w.setCell ⟨g, 0, none⟩ v0).setCell ⟨g, 1, none⟩ v1).setCell ⟨g, 2, none⟩ v2).setCell ⟨g, 3, none⟩ v3) (L.set i (TBox g #[v0, v1, v2, v3] T)) := by
  obtain ⟨lo, hi', ⟨b1, b2, b3⟩, _, _, put⟩ := A.open i hi
  exact put _ (TBox g #[v0, v1, v2, v3] T) (TBox.st _ _ _) ⟨b1, b2, b3.store4 v0 v1 v2 v3⟩ (Chg.store4 w g v0 v1 v2 v3 b1 b2)
end Go.Proofs.YtbgadbokejaomaaGreatDoor

namespace Go.Proofs.YtbgadbokejaomaaGreatDoor
open Go.RowKit
set_option linter.unusedVariables false

end Go.Proofs.YtbgadbokejaomaaGreatDoor

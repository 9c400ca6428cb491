/-
  A crash, on a disk of the call's own: the model's, call by call. The contract says what it asks. What is kept goes to the plate through a channel: the program's putOnPlate, call by call, by the machine's own steps. The contract says what it asks.
-/
import Derived.Test.YthdbacihhmilbaaGreatDoorStripesB32
import Derived.Conc.LoneCalls
import Derived.Conc.LoneSelect
import Derived.Lib.SliceRun
import Derived.Test.YthdbacihhmilbaaGreatDoorStripesB0
set_option linter.unusedVariables false
set_option maxRecDepth 100000
set_option maxHeartbeats 1600000
set_option linter.unusedSimpArgs false
namespace Go.Proofs.YthdbacihhmilbaaGreatDoor
open Go.RowKit
theorem has_bool (x : Int) (ks : List Int) : ∃ y : Bool, y = true ↔ x ∈ ks := by
 by_cases hh : x ∈ ks
 ·exact ⟨true, fun _ => hh, fun _ => rfl⟩
 ·exact ⟨false, fun h => by simp at h, fun h => absurd h hh⟩
theorem l7Crash_calls (p h b v : Value) (P H : List ByteArray) (B : List Bool) (ks : List Int) (lo hi n : Nat) (w : World) (d : DskV w lo hi p h b P H B) (hhi : hi ≤ w.heap.size) (hP : P.length = n) (hH : H.length = n) (hB : B.length = n) (hn : 0 < n ∧ n ≤ 24)
    (kv : ∀ w', Chg lo hi w w' → Rd w' v ks) :
    Calls Tryz.prog 129 #[.agg #[p, h, b], v] w fun e w' => e = .returned (.agg #[p, h, b]) ∧ DskV w' lo hi p h b (crP P H ks) (crH H) B ∧ Chg lo hi w w' := by
 obtain ⟨gp, cp, gh, ch, gb, cb, rfl, rfl, rfl, n1, n2, n3, ⟨t1, t2, t3⟩, _⟩ := d.blocks hP hH hB hn.1
 have KV := hide kv
 obtain ⟨av, cv, ev, _, _⟩ := (kv w (Chg.refl _ _ _)).sl
 obtain ⟨W0, e0⟩ : ∃ W0, W0 = (w.alloc (.cells #[.slice (some ⟨gp, 0, none⟩) n cp, .slice (some ⟨gh, 0, none⟩) n ch, .slice (some ⟨gb, 0, none⟩) n cb] 26)).alloc (.cells nil3 26) := ⟨_, rfl⟩
 have b0 : Below w.heap.size w W0 := by rw [e0]; exact (below_box w _).trans ((below_box _ _).mono (by simp))
 have x0 : BoxAt W0 w.heap.size #[.slice (some ⟨gp, 0, none⟩) n cp, .slice (some ⟨gh, 0, none⟩) n ch, .slice (some ⟨gb, 0, none⟩) n cb] 26 := by rw [e0]; exact (BoxAt.new w _ _).below (below_box _ _)
 have y0 : BoxAt W0 (w.heap.size + 1) nil3 26 := by
  rw [e0]
  have := BoxAt.new (w.alloc (.cells #[.slice (some ⟨gp, 0, none⟩) n cp, .slice (some ⟨gh, 0, none⟩) n ch, .slice (some ⟨gb, 0, none⟩) n cb] 26)) nil3 26
  simpa only [World.size_alloc] using this
 have E0 := hide e0.symm
 have C0 := hide (Chg.ofBelow (lo := lo) (hi := hi) b0)
 have X0 := hide x0
 have Y0 := hide y0
 have D0 := hide (d.below b0)
 have SH := hide d.sh
 have LP := hide hP
 have LH := hide hH
 have LB := hide hB
 have s0 : w.heap.size + 1 < W0.heap.size := y0.lt
 have SZ : Hid (∀ i, (H.getD i ⟨#[]⟩).size ≤ maxLen) := by
  show ∀ i, _
  intro i
  have := d.rh.szAt i
  unfold maxLen
  exact this
 clear kv d b0 x0 y0 e0 hP hH hB
 subst ev
 go_enter Tryz.func129, Tryz.ntmps129
 go_wp2
 rw [E0.out]
 go_loopw [5, 6, 10] (fun _ _ vi wr => ∃ k : Nat, k ≤ n ∧ vi = .int .i64 k ∧ DskV wr lo hi (.slice (some ⟨gp, 0, none⟩) n cp) (.slice (some ⟨gh, 0, none⟩) n ch) (.slice (some ⟨gb, 0, none⟩) n cb) (crPk P H ks k) (crHk H k) B ∧ Chg lo hi W0 wr) (fun _ _ vi _ => n - (intOf vi).toNat)
 case atStart =>
  refine ⟨0, Nat.zero_le _, rfl, ?_, Chg.refl _ _ _⟩
  rw [crPk_zero, crHk_zero]
  exact D0.out
 case round =>
  obtain ⟨k, hk, rfl, dk, ck⟩ := hrel
  have DK := hide dk
  have CK := hide ck
  have X1 := hide (X0.out.chg ck (.inr hhi))
  have Y1 := hide (Y0.out.chg ck (.inr (by omega)))
  have hs := ck.size
  obtain ⟨c0, c1, c2⟩ := X1.out.c3
  by_cases hlt : k < n
  ·obtain ⟨hc, hf⟩ := dk.cellH (by rw [crHk_len]; exact LH.out) k hlt
   rw [crHk_at H k k (by rw [LH.out]; exact hlt), if_neg (by omega)] at hc
   have ST := hide (crHk_step H k (by rw [LH.out]; exact hlt))
   have YES := hide (crPk_yes P H ks k (by rw [LP.out]; exact hlt))
   have NO := hide (crPk_no P H ks k)
   have hz := SZ.out k
   obtain ⟨z, hzz⟩ : ∃ z, z = H.getD k ⟨#[]⟩ := ⟨_, rfl⟩
   rw [← hzz] at hc hz YES
   have HZ := hide hz
   clear hzz dk ck hz
   obtain ⟨y, hy⟩ := has_bool (k : Int) ks
   have HY := hide hy
   have CH : Hid (Calls Tryz.prog 148 #[.slice av ks.length cv, .int .i64 (k : Int)] wr fun e w' => e = .returned (.bool y) ∧ wr = w') := l1Has_calls _ ks (k : Int) y wr (KV.out _ (C0.out.trans CK.out)) hy
   have hlt' : (k : Int) < (n : Int) := by omega
   clear hy
   cases y with
   | true =>
    have hin : (k : Int) ∈ ks := HY.out.1 rfl
    obtain ⟨hp1, hp2⟩ := DK.out.cellP (by rw [crPk_len]; exact LP.out) k hlt
    obtain ⟨dp, cpp⟩ := DK.out.putP (by rw [crPk_len]; exact LP.out) k z HZ.out
    rw [YES.out hin] at dp
    obtain ⟨hq1, hq2⟩ := dp.cellH (by rw [crHk_len]; exact LH.out) k hlt
    obtain ⟨dq, cq⟩ := dp.putH (by rw [crHk_len]; exact LH.out) k ⟨#[]⟩ (Nat.zero_le _)
    rw [ST.out] at dq
    obtain ⟨e0, e1, e2⟩ := (X1.out.chg cpp (.inr hhi)).c3
    have DQ := hide dq
    have CQ := hide ((CK.out.trans cpp).trans cq)
    clear dp cpp dq cq hin
    go_wp2_with (go_at_call 148; refine CH.out.mono ?_; rintro e w' ⟨rfl, rfl⟩)
    go_roundw
    case rel => exact ⟨k + 1, by omega, by go_num, DQ.out, CQ.out⟩
    case measure => simp [intOf]; omega
   | false =>
    have hin : ¬ (k : Int) ∈ ks := fun h => by have := HY.out.2 h; simp at this
    obtain ⟨dq, cq⟩ := DK.out.putH (by rw [crHk_len]; exact LH.out) k ⟨#[]⟩ (Nat.zero_le _)
    rw [ST.out, NO.out hin] at dq
    have DQ := hide dq
    have CQ := hide (CK.out.trans cq)
    clear dq cq hin
    go_wp2_with (go_at_call 148; refine CH.out.mono ?_; rintro e w' ⟨rfl, rfl⟩)
    go_roundw
    case rel => exact ⟨k + 1, by omega, by go_num, DQ.out, CQ.out⟩
    case measure => simp [intOf]; omega
  ·obtain rfl : k = n := by omega
   have dd := DK.out
   rw [show crPk P H ks k = crP P H ks from by unfold crP; rw [LP.out], show crHk H k = crH H from by rw [← crHk_end, LH.out]] at dd
   have DD := hide dd
   have g0 := Y1.out.frozen 0
   have g1 := Y1.out.frozen 1
   have g2 := Y1.out.frozen 2
   obtain ⟨d0, d1, d2⟩ := Y1.out.c3
   have XF := hide (Y1.out.store3 (.slice (some ⟨gp, 0, none⟩) k cp) (.slice (some ⟨gh, 0, none⟩) k ch) (.slice (some ⟨gb, 0, none⟩) k cb))
   have C6 := Chg.store3 (lo := w.heap.size + 1) (hi := w.heap.size + 1 + 1) wr (w.heap.size + 1) (.slice (some ⟨gp, 0, none⟩) k cp) (.slice (some ⟨gh, 0, none⟩) k ch) (.slice (some ⟨gb, 0, none⟩) k cb) (Nat.le_refl _) (by omega)
   have D6 := hide (dd.chg C6 (.inl (by omega)))
   have K6 : Hid (Chg lo hi w _) := chg_new (C0.out.trans CK.out) C6 (Nat.le_succ _)
   clear dd dk ck C6
   go_wp2
   exact bodyPost_ret (res_dsk rfl _ _ (w.heap.size + 1) _ _ _ (0, 0) rfl XF.out) rfl ⟨rfl, D6.out, K6.out⟩
open Go.RowKit Go.Conc
open Go.RowKit Go.Conc
theorem Hand.store3 {W w : World} {L : List Tg} {g : Nat} {a b c : Value} {T : TypeId} (A : Hand W w L) (i : Nat) (hi : L[i]? = some (TBox g #[a, b, c] T)) (v0 v1 v2 : Value) :
    Hand W (((w.setCell ⟨g, 0, none⟩ v0).setCell ⟨g, 1, none⟩ v1).setCell ⟨g, 2, none⟩ v2) (L.set i (TBox g #[v0, v1, v2] T)) := by
 obtain ⟨lo, hi', ⟨b1, b2, b3⟩, _, _, put⟩ := A.open i hi
 exact put _ (TBox g #[v0, v1, v2] T) (TBox.st _ _ _) ⟨b1, b2, b3.store3 v0 v1 v2⟩ (Chg.store3 w g v0 v1 v2 b1 b2)
theorem Hand.wide {W w : World} {L : List Tg} {p h b : Value} {P H : List ByteArray} {B : List Bool} (A : Hand W w L) (i : Nat) (hi : L[i]? = some (TDsk p h b P H B)) : DskV w W.heap.size w.heap.size p h b P H B := by
 obtain ⟨lo, hi', d, h1, h2, _⟩ := A.open i hi
 exact DskV.wider d h1 h2
theorem crP_len (P H : List ByteArray) (ks : List Int) : (crP P H ks).length = P.length := crPk_len _ _ _ _
def rotK (l m : List Nat) : Nat → List Nat
 | 0 => l
 | k + 1 => (rotK l m k).set k (l.getD k 0 ^^^ m.getD k 0)
theorem rotK_len (l m : List Nat) : ∀ k, (rotK l m k).length = l.length
 | 0 => rfl
 | k + 1 => by rw [rotK, List.length_set]; exact rotK_len l m k
theorem rotK_at (l m : List Nat) : ∀ k i, k ≤ i → (rotK l m k).getD i 0 = l.getD i 0
 | 0, _, _ => rfl
 | k + 1, i, h => by
  rw [rotK, qg, List.getElem?_set_ne (by omega), ← qg]
  exact rotK_at l m k i (by omega)
theorem rotK_small {l m : List Nat} (hl : ∀ b ∈ l, b < 256) (hm : ∀ b ∈ m, b < 256) : ∀ k, ∀ b ∈ rotK l m k, b < 256
 | 0 => hl
 | k + 1 => by
  intro b hb
  rcases List.mem_or_eq_of_mem_set hb with h | h
  ·exact rotK_small hl hm k b h
  ·rw [h]
   exact Nat.xor_lt_two_pow (n := 8) (getD_lt hl k) (getD_lt hm k)
def rotT (s m : ByteArray) : ByteArray := ofN (rotK (bs s) (bs m) m.size)
theorem rotT_size (s m : ByteArray) : (rotT s m).size = s.size := by
 unfold rotT
 rw [ofN_size, rotK_len, bs_length]
theorem l7Rot_calls (s m : ByteArray) (w : World) (hs : s.size ≤ 28) (hm : m.size ≤ s.size) :
    Calls Tryz.prog 131 #[.string s, .string m] w fun e w' => e = .returned (.string (rotT s m)) ∧ Below w.heap.size w w' := by
 have hcv := conv_bytes s
 have M := hide (bytesW_row s w)
 have G0 := hide (bytesW_below s w)
 go_enter Tryz.func131, Tryz.ntmps131
 go_wp2
 go_loopw [6] (fun vi wr => ∃ k : Nat, k ≤ m.size ∧ vi = .int .i64 k ∧ BRow wr w.heap.size (bytesC s w) (rotK (bs s) (bs m) k) ∧ Below w.heap.size w wr) (fun vi _ => m.size - (intOf vi).toNat)
 case atStart => exact ⟨0, Nat.zero_le _, rfl, M.out, G0.out⟩
 case round =>
  obtain ⟨k, hk, rfl, hrow, hb⟩ := hrel
  by_cases hlt : k < m.size
  ·have hlen : (rotK (bs s) (bs m) k).length = s.size := by rw [rotK_len, bs_length]
   have hc1 := hrow.cell k (by omega)
   have hc2 := hrow.frozen k (by omega)
   rw [rotK_at (bs s) (bs m) k k (Nat.le_refl _)] at hc1
   have ST : Hid (rotK (bs s) (bs m) (k + 1) = (rotK (bs s) (bs m) k).set k ((bs s).getD k 0 ^^^ (bs m).getD k 0)) := rfl
   have hmk : (bs m).getD k 0 = m[k].toNat := bs_getD m k hlt
   rw [hmk] at ST
   have hx : (bs s).getD k 0 < 256 := getD_lt (bs_lt s) k
   have hy : m[k].toNat < 256 := m[k].toNat_lt
   have hst := hrow.set k ((bs s).getD k 0 ^^^ m[k].toNat)
   generalize (bs s).getD k 0 = x at hc1 ST hx hst
   have XX := hide (u8_xor_nat x m[k].toNat hx hy)
   have HS := hide hst
   have HB := hide hb
   have hlt' : (k : Int) < (m.size : Int) := by omega
   have hlts : (k : Int) < (s.size : Int) := by omega
   clear hlen hmk hst hrow hb hy
   go_wp2
   go_region
   go_wp2
   refine ⟨⟨k + 1, by omega, by go_num, ?_, (HB.out.setCell (p := ⟨w.heap.size, k, none⟩) (Nat.le_refl _) _).drew⟩, by simp [intOf]; omega⟩
   rw [XX.out, ST.out]
   exact HS.out.drew
  ·obtain rfl : k = m.size := by omega
   have hcr := conv_row hrow (rotK_small (bs_lt s) (bs_lt m) _) (n := s.size) (by rw [rotK_len, bs_length])
   have HB := hide hb
   clear hrow hb
   go_wp2
   go_ret
   exact ⟨rfl, HB.out⟩
def roOk (P H : List ByteArray) (k : Nat) (T : ByteArray) : Prop := H.getD k ⟨#[]⟩ = ⟨#[]⟩ ∧ 1 ≤ T.size ∧ T.size ≤ (P.getD k ⟨#[]⟩).size
def hoOk (B : List Bool) (k : Nat) (T : ByteArray) : Prop := B.getD k false = false ∧ 1 ≤ T.size ∧ T.size ≤ 28
theorem holdText_calls (p h b : Value) (P H : List ByteArray) (B : List Bool) (lo hi n k : Nat) (T : ByteArray) (y : Bool) (w : World) (d : DskV w lo hi p h b P H B) (hhi : hi ≤ w.heap.size) (hP : P.length = n) (hH : H.length = n) (hB : B.length = n) (hn : 0 < n ∧ n ≤ 24) (hk : k < n) (hT : T.size ≤ 1048576) (hy : y = true ↔ hoOk B k T) :
    Calls Tryz.prog 99 #[.agg #[p, h, b], .int .i64 (k : Int), .string T] w fun e w' => e = .returned (.bool y) ∧ (y = true → DskV w' lo hi p h b P (H.set k T) B) ∧ Chg lo hi w w' := by
 obtain ⟨gp, cp, gh, ch, gb, cb, rfl, rfl, rfl, n1, n2, n3, ⟨t1, t2, t3⟩, _⟩ := d.blocks hP hH hB hn.1
 have HY : Hid (y = true ↔ (B.getD k false = false ∧ 1 ≤ T.size ∧ T.size ≤ 28)) := hy
 have b1 := below_box w (.cells #[.slice (some ⟨gp, 0, none⟩) n cp, .slice (some ⟨gh, 0, none⟩) n ch, .slice (some ⟨gb, 0, none⟩) n cb] 26)
 have C1 : Hid (Chg lo hi w (w.alloc (.cells #[.slice (some ⟨gp, 0, none⟩) n cp, .slice (some ⟨gh, 0, none⟩) n ch, .slice (some ⟨gb, 0, none⟩) n cb] 26))) := Chg.ofBelow b1
 have X1 := hide (BoxAt.new w #[.slice (some ⟨gp, 0, none⟩) n cp, .slice (some ⟨gh, 0, none⟩) n ch, .slice (some ⟨gb, 0, none⟩) n cb] 26)
 have d1 := d.below b1
 have D1 := hide d1
 have LH := hide hH
 have hk' : (k : Int) < (n : Int) := by omega
 obtain ⟨hb1, _⟩ := d1.cellB hB k hk
 clear hy d d1 b1 hP hH hB
 generalize B.getD k false = bad at *
 cases bad with
 | true =>
  have e0 : Hid (y = false) := by
   show y = false
   cases y with
   | false => rfl
   | true => exact absurd (HY.out.1 rfl).1 (by simp)
  go_enter Tryz.func99, Tryz.ntmps99
  go_wp2
  go_ret
  exact ⟨ret_bool e0.out.symm, fun h => by rw [e0.out] at h; simp at h, C1.out⟩
 | false =>
 by_cases hT0 : T.size = 0
 ·have hTT := size_zero hT0
  subst hTT
  have e0 : Hid (y = false) := by
   show y = false
   cases y with
   | false => rfl
   | true => exact absurd (HY.out.1 rfl).2.1 (by decide)
  clear hT0
  go_enter Tryz.func99, Tryz.ntmps99
  go_wp2
  go_ret
  exact ⟨ret_bool e0.out.symm, fun h => by rw [e0.out] at h; simp at h, C1.out⟩
 obtain ⟨tt1, tt2⟩ := toList_ne (z := T) (fun e => hT0 (by rw [e]; rfl))
 obtain ⟨f, hf⟩ : ∃ f : Bool, f = true ↔ T.size ≤ 28 := ⟨decide (T.size ≤ 28), by simp⟩
 have CF := hide (fun W => fitsSector_calls T f W hf (by unfold maxLen; omega))
 have HF := hide hf
 clear hf
 cases f with
 | false =>
  have e0 : Hid (y = false) := by
   show y = false
   cases y with
   | false => rfl
   | true => exact absurd (HF.out.2 (HY.out.1 rfl).2.2) (by simp)
  clear hT0
  go_enter Tryz.func99, Tryz.ntmps99
  go_wp2_with fail
  refine (CF.out _).mono ?_
  rintro e w1 ⟨rfl, rfl⟩
  go_wp2
  go_ret
  exact ⟨ret_bool e0.out.symm, fun h => by rw [e0.out] at h; simp at h, C1.out⟩
 | true =>
 have e0 : Hid (y = true) := HY.out.2 ⟨rfl, by omega, HF.out.1 rfl⟩
 clear HY
 go_enter Tryz.func99, Tryz.ntmps99
 go_wp2_with fail
 refine (CF.out _).mono ?_
 rintro e w1 ⟨rfl, rfl⟩
 clear hb1
 go_wp2
 have hw1 := hide (show w.heap.size < (w.alloc (.cells #[.slice (some ⟨gp, 0, none⟩) n cp, .slice (some ⟨gh, 0, none⟩) n ch, .slice (some ⟨gb, 0, none⟩) n cb] 26)).heap.size from X1.out.lt)
 generalize w.alloc (.cells #[.slice (some ⟨gp, 0, none⟩) n cp, .slice (some ⟨gh, 0, none⟩) n ch, .slice (some ⟨gb, 0, none⟩) n cb] 26) = W1 at *
 refine wp_region_noPanic ?_
 refine wp_region_held_drew (S := fun w' => w'.cell? ⟨w.heap.size, 1, none⟩ = some (.slice (some ⟨gh, 0, none⟩) n ch)) (by kernel_rfl) ((X1.out.below (Below.refl _ _).drew).c3.2.1) (fun hHeld => ?_)
 have BV := hide (Below.refl W1.heap.size W1).drew
 generalize W1.drew = V0 at *
 refine qt 0 ?v1 rfl (by kernel_rfl) (by kernel_rfl) (by kernel_rfl) (by rfl) ?hy1 (by assumption) (fun _ _ _ h => h) ?rest1
 case hy1 => intro _ s; dsimp only [qa,qb,qc] at s ⊢; go_simp; try with_reducible rfl
 try simp only [Act.put,qa,qb,qc,qd,qe,qf]
 refine qt 1 ?v2 rfl (by kernel_rfl) (by kernel_rfl) (by kernel_rfl) (by rfl) ?hy2 (by assumption) (fun _ _ _ h => h) ?rest2
 case hy2 => intro _ s; dsimp only [qa,qb,qc] at s ⊢; go_simp; try with_reducible rfl
 try simp only [Act.put,qa,qb,qc,qd,qe,qf]
 refine qt 2 ?v3 rfl (by kernel_rfl) (by kernel_rfl) (by kernel_rfl) (by rfl) ?hy3 (by assumption) (fun _ _ _ h => h) ?rest3
 case hy3 => intro _ s; dsimp only [qa,qb,qc] at s ⊢; go_simp; try with_reducible rfl
 try simp only [Act.put,qa,qb,qc,qd,qe,qf]
 refine qt 3 ?v4 rfl (by kernel_rfl) (by kernel_rfl) (by kernel_rfl) (by rfl) ?hy4 (by assumption) (fun _ _ _ h => h) ?rest4
 case hy4 => intro _ s; dsimp only [qa,qb,qc] at s ⊢; go_simp; try with_reducible rfl
 try simp only [Act.put,qa,qb,qc,qd,qe,qf]
 refine qs 4 (by kernel_rfl) rfl (fun K hK => ?_)
 dsimp only [qa,qb,qc]
 go_simp
 refine (clone_calls T _ hT).mono ?_
 rintro e' u1 ⟨rfl, bb⟩
 have B2 := hide (BV.out.trans (bb.mono BV.out.size))
 clear bb hHeld BV
 refine hK.out _ _ ((X1.out.below B2.out).c3.2.1) (fun hHeld => ?_)
 clear hK K
 try simp only [Act.put,qa,qb,qc,qd,qe,qf]
 refine qt 5 ?v5 rfl (by kernel_rfl) (by kernel_rfl) (by kernel_rfl) (by rfl) ?hy5 (by assumption) (fun _ _ _ h => h) ?rest5
 case hy5 => intro _ s; dsimp only [qa,qb,qc] at s ⊢; go_simp; try with_reducible rfl
 try simp only [Act.put,qa,qb,qc,qd,qe,qf]
 refine qs 6 (by kernel_rfl) rfl (fun K hK => ?_)
 have d2 := D1.out.below B2.out
 obtain ⟨q1, q2⟩ := d2.cellH LH.out k hk
 obtain ⟨dp, cpp⟩ := d2.putH LH.out k T (by unfold maxLen; omega)
 have DP := hide dp
 have CP := hide ((C1.out.trans (Chg.ofBelow B2.out)).trans cpp)
 have cN := ((X1.out.below B2.out).chg cpp (.inr hhi)).c3.2.1
 clear d2 dp cpp hHeld
 dsimp only [qa,qb,qc]
 go_simp
 refine hK.out _ _ (cN) (fun hHeld => ?_)
 clear hK K
 try simp only [Act.put,qa,qb,qc,qd,qe,qf]
 refine wpAnyH_done (by kernel_rfl) ?_ _
 refine NoPanic.normal ?_
 go_wp2
 go_ret
 exact ⟨ret_bool e0.out.symm, fun _ => DP.out, CP.out⟩
theorem healSector_calls (p h b : Value) (P H : List ByteArray) (B : List Bool) (lo hi n k : Nat) (w : World) (d : DskV w lo hi p h b P H B) (hhi : hi ≤ w.heap.size) (hP : P.length = n) (hH : H.length = n) (hB : B.length = n) (hn : 0 < n ∧ n ≤ 24) (hk : k < n) (y : Bool) (hy : B.getD k false = y) :
    Calls Tryz.prog 101 #[.agg #[p, h, b], .int .i64 (k : Int)] w fun e w' => e = .returned (.bool y) ∧ (y = true → DskV w' lo hi p h b (P.set k ⟨#[]⟩) H (B.set k false)) ∧ Chg lo hi w w' := by
 obtain ⟨gp, cp, gh, ch, gb, cb, rfl, rfl, rfl, n1, n2, n3, ⟨t1, t2, t3⟩, _⟩ := d.blocks hP hH hB hn.1
 have b1 := below_box w (.cells #[.slice (some ⟨gp, 0, none⟩) n cp, .slice (some ⟨gh, 0, none⟩) n ch, .slice (some ⟨gb, 0, none⟩) n cb] 26)
 have C1 : Hid (Chg lo hi w (w.alloc (.cells #[.slice (some ⟨gp, 0, none⟩) n cp, .slice (some ⟨gh, 0, none⟩) n ch, .slice (some ⟨gb, 0, none⟩) n cb] 26))) := Chg.ofBelow b1
 have X1 := hide (BoxAt.new w #[.slice (some ⟨gp, 0, none⟩) n cp, .slice (some ⟨gh, 0, none⟩) n ch, .slice (some ⟨gb, 0, none⟩) n cb] 26)
 have d1 := d.below b1
 have D1 := hide d1
 have LP := hide hP
 have LB := hide hB
 have hk' : (k : Int) < (n : Int) := by omega
 obtain ⟨hb1, _⟩ := d1.cellB hB k hk
 rw [hy] at hb1
 clear hy d d1 b1 hP hH hB
 cases y with
 | false =>
  go_enter Tryz.func101, Tryz.ntmps101
  go_wp2
  go_ret
  exact ⟨rfl, fun h => by simp at h, C1.out⟩
 | true =>
 go_enter Tryz.func101, Tryz.ntmps101
 go_wp2
 clear hb1
 have hw1 := hide (show w.heap.size < (w.alloc (.cells #[.slice (some ⟨gp, 0, none⟩) n cp, .slice (some ⟨gh, 0, none⟩) n ch, .slice (some ⟨gb, 0, none⟩) n cb] 26)).heap.size from X1.out.lt)
 generalize w.alloc (.cells #[.slice (some ⟨gp, 0, none⟩) n cp, .slice (some ⟨gh, 0, none⟩) n ch, .slice (some ⟨gb, 0, none⟩) n cb] 26) = W1 at *
 refine wp_region_noPanic ?_
 refine wp_region_held_drew (S := fun w' => w'.cell? ⟨w.heap.size, 0, none⟩ = some (.slice (some ⟨gp, 0, none⟩) n cp) ∧ w'.cell? ⟨w.heap.size, 2, none⟩ = some (.slice (some ⟨gb, 0, none⟩) n cb)) (by kernel_rfl) (⟨(X1.out.below (Below.refl _ _).drew).c3.1, (X1.out.below (Below.refl _ _).drew).c3.2.2⟩) (fun hHeld => ?_)
 have DV := hide (D1.out.below (Below.refl _ _).drew)
 have XV := hide (X1.out.below (Below.refl _ _).drew)
 have CV : Hid (Chg lo hi w W1.drew) := C1.out.trans (Chg.ofBelow (Below.refl _ _).drew)
 clear D1 X1 C1 hw1
 generalize W1.drew = V0 at *
 refine qt 0 ?v6 rfl (by kernel_rfl) (by kernel_rfl) (by kernel_rfl) (by rfl) ?hy6 (by assumption) (fun _ _ _ h => h) ?rest6
 case hy6 => intro _ s; dsimp only [qa,qb,qc] at s ⊢; go_simp; try with_reducible rfl
 try simp only [Act.put,qa,qb,qc,qd,qe,qf]
 refine qt 1 ?v7 rfl (by kernel_rfl) (by kernel_rfl) (by kernel_rfl) (by rfl) ?hy7 (by assumption) (fun _ _ _ h => h) ?rest7
 case hy7 => intro _ s; dsimp only [qa,qb,qc] at s ⊢; go_simp; try with_reducible rfl
 try simp only [Act.put,qa,qb,qc,qd,qe,qf]
 refine qt 2 ?v8 rfl (by kernel_rfl) (by kernel_rfl) (by kernel_rfl) (by rfl) ?hy8 (by assumption) (fun _ _ _ h => h) ?rest8
 case hy8 => intro _ s; dsimp only [qa,qb,qc] at s ⊢; go_simp; try with_reducible rfl
 try simp only [Act.put,qa,qb,qc,qd,qe,qf]
 refine qt 3 ?v9 rfl (by kernel_rfl) (by kernel_rfl) (by kernel_rfl) (by rfl) ?hy9 (by assumption) (fun _ _ _ h => h) ?rest9
 case hy9 => intro _ s; dsimp only [qa,qb,qc] at s ⊢; go_simp; try with_reducible rfl
 try simp only [Act.put,qa,qb,qc,qd,qe,qf]
 refine qt 4 ?v10 rfl (by kernel_rfl) (by kernel_rfl) (by kernel_rfl) (by rfl) ?hy10 (by assumption) (fun _ _ _ h => h) ?rest10
 case hy10 => intro _ s; dsimp only [qa,qb,qc] at s ⊢; go_simp; try with_reducible rfl
 try simp only [Act.put,qa,qb,qc,qd,qe,qf]
 refine qt 5 ?v11 rfl (by kernel_rfl) (by kernel_rfl) (by kernel_rfl) (by rfl) ?hy11 (by assumption) (fun _ _ _ h => h) ?rest11
 case hy11 => intro _ s; dsimp only [qa,qb,qc] at s ⊢; go_simp; try with_reducible rfl
 try simp only [Act.put,qa,qb,qc,qd,qe,qf]
 refine qt 6 ?v12 rfl (by kernel_rfl) (by kernel_rfl) (by kernel_rfl) (by rfl) ?hy12 (by assumption) (fun _ _ _ h => h) ?rest12
 case hy12 => intro _ s; dsimp only [qa,qb,qc] at s ⊢; go_simp; try with_reducible rfl
 try simp only [Act.put,qa,qb,qc,qd,qe,qf]
 refine qs 7 (by kernel_rfl) rfl (fun K hK => ?_)
 obtain ⟨q1, q2⟩ := DV.out.cellB LB.out k hk
 obtain ⟨dp, cpp⟩ := DV.out.putB LB.out k false
 have D2 := hide dp
 have C2 := hide (CV.out.trans cpp)
 have X2 := hide (XV.out.chg cpp (.inr hhi))
 clear dp cpp hHeld DV CV XV
 dsimp only [qa,qb,qc]
 go_simp
 clear q1 q2
 refine hK.out _ _ (⟨X2.out.c3.1, X2.out.c3.2.2⟩) (fun hHeld => ?_)
 clear hK K
 try simp only [Act.put,qa,qb,qc,qd,qe,qf]
 refine qt 8 ?v13 rfl (by kernel_rfl) (by kernel_rfl) (by kernel_rfl) (by rfl) ?hy13 (by assumption) (fun _ _ _ h => h) ?rest13
 case hy13 => intro _ s; dsimp only [qa,qb,qc] at s ⊢; go_simp; try with_reducible rfl
 try simp only [Act.put,qa,qb,qc,qd,qe,qf]
 refine qs 9 (by kernel_rfl) rfl (fun K hK => ?_)
 obtain ⟨q1, q2⟩ := D2.out.cellP LP.out k hk
 obtain ⟨dp, cpp⟩ := D2.out.putP LP.out k ⟨#[]⟩ (Nat.zero_le _)
 have D3 := hide dp
 have C3 := hide (C2.out.trans cpp)
 have X3 := hide (X2.out.chg cpp (.inr hhi))
 clear dp cpp hHeld D2 C2 X2
 dsimp only [qa,qb,qc]
 go_simp
 refine hK.out _ _ (⟨X3.out.c3.1, X3.out.c3.2.2⟩) (fun hHeld => ?_)
 clear hK K
 try simp only [Act.put,qa,qb,qc,qd,qe,qf]
 refine wpAnyH_done (by kernel_rfl) ?_ _
 refine NoPanic.normal ?_
 go_wp2
 go_ret
 exact ⟨rfl, fun _ => D3.out, C3.out⟩
end Go.Proofs.YthdbacihhmilbaaGreatDoor

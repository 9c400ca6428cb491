/-
  New journals: the model's NewJournal. The contract says what it asks. What lies apart stays where a call writes elsewhere: a row of the call's own beside a disk. No call is walked here. Journals as values: compared, marked, and whether the marks are held, call by call. Each contract says what it asks. A journal that came in, opened. No condition; no call is walked here.
-/
import Derived.Test.YtpgmocogffolaaaGoodJournalB24
import Derived.Test.YtpgmocogffolaaaGoodJournalB16
import Derived.Test.YtpgmocogffolaaaGoodJournalB11
import Derived.Test.YtpgmocogffolaaaGoodJournalB21
import Derived.Test.YtpgmocogffolaaaGoodJournalB6
namespace Go.Proofs.Ytpgmocogffolaaa
open Go.RowKit
set_option linter.unusedVariables false
set_option linter.unusedSimpArgs false

set_option maxRecDepth 100000 in
set_option maxHeartbeats 3200000 in
theorem sNewJournal_calls (w : World) :
    Calls Try.prog 29 #[] w fun e w' => ∃ p h b a, e = .returned (.agg (jrC p h b 0 0 a (.slice none 0 0))) ∧ JrnV w' w.heap.size w'.heap.size p h b a (.slice none 0 0) newPJ (crH newHJ) (ndZ 5) zst6 [] ∧ Below w.heap.size w w' := by
  obtain ⟨nP, nB, nz⟩ := nd5
  have NP := hide nP
  have NB := hide nB
  have NZ := hide nz
  have ND := hide (fun W => sNewDisk_calls 5 W)
  have HZ : Hid (newHJ.length = 5) := by show _ = _; unfold newHJ; rw [hrt_len, hhv_len]; exact nP
  have EH : Hid (hrt (hhv (ndT 5) 0 zst6) 0 = newHJ) := rfl
  have EP : Hid (crP (ndT 5) newHJ (hpl newHJ 5) = newPJ) := rfl
  have LV : Hid ((hhv (ndT 5) 0 zst6).length = 5) := by show _ = _; rw [hhv_len]; exact nP
  have ZE : Hid (List.replicate 6 0 = zst6) := rfl
  have N28 : Hid (∀ i, i < (ndT 5).length → ((ndT 5).getD i ⟨#[]⟩).size ≤ 28) := by
    show ∀ i, _
    intro i hi
    show ((List.replicate 5 (⟨#[]⟩ : ByteArray)).getD i ⟨#[]⟩).size ≤ 28
    rw [List.getD_eq_getElem?_getD, List.getElem?_replicate]
    split <;> exact Nat.zero_le _
  clear nP nB nz
  have b0 := below_box w (.cells jr0 42)
  have x0 := BoxAt.new w jr0 42
  go_enter Try.func29, Try.ntmps29
  go_wp2_with fail
  refine (ND.out _).mono ?_
  rintro e w2 ⟨p, h, b, rfl, d2, b2⟩
  obtain ⟨ap, cp, ah, ch, ab, cb, rfl, rfl, rfl⟩ := d2.sl
  have bx := below_box w2 (.cells #[.slice ap (ndT 5).length cp, .slice ah (ndT 5).length ch, .slice ab (ndZ 5).length cb] 30)
  have X3 := BoxAt.new w2 #[.slice ap (ndT 5).length cp, .slice ah (ndT 5).length ch, .slice ab (ndZ 5).length cb] 30
  have s2 := b2.size
  simp only [World.size_alloc] at s2
  have R3 := ((x0.below b2).below bx)
  have D3 := d2.below bx
  have B3 := (b0.trans (b2.mono b0.size)).trans (bx.mono (Nat.le_trans b0.size b2.size))
  have s3 : (w2.alloc (.cells #[.slice ap (ndT 5).length cp, .slice ah (ndT 5).length ch, .slice ab (ndZ 5).length cb] 30)).heap.size = w2.heap.size + 1 := by simp
  simp only [World.size_alloc] at D3
  have X3h := hide X3
  have R3h := hide R3
  have D3h := hide D3
  have B3h := hide B3
  clear b0 x0 d2 b2 bx X3 R3 D3 B3
  go_upto_region 2 with fail
  obtain ⟨w3, hw3⟩ : ∃ u, u = w2.alloc (.cells #[.slice ap (ndT 5).length cp, .slice ah (ndT 5).length ch, .slice ab (ndZ 5).length cb] 30) := ⟨_, rfl⟩
  rw [← hw3] at X3h R3h D3h B3h s3 ⊢
  have s3a : w2.heap.size + 1 ≤ w3.heap.size := Nat.le_of_eq s3.symm
  have s3b : w3.heap.size ≤ w2.heap.size + 1 := Nat.le_of_eq s3
  clear hw3 s3
  go_wp2_with (at_make; refine wpList_make_ints rfl _ _ rfl w3.heap.size _ _ 6 rfl rfl (by omega) (by omega) (by omega) (Nat.le_refl _) ?_)
  intro w4 o4 g4
  have b4 := grown_none g4
  have O4 : Hid (w4.ownsRow w3.heap.size 3 1 (.slice (some ⟨w3.heap.size, 0, none⟩) 6 6) 6 (zst6.map fun i => .int .i64 i)) := by
    show World.ownsRow _ _ _ _ _ _ _
    rw [← ZE.out]
    simpa [Own] using o4
  have OR : Hid (∀ W, W.ownsRow w3.heap.size 3 1 (.slice (some ⟨w3.heap.size, 0, none⟩) 6 6) 6 (zst6.map fun i => .int .i64 i) → Rd W (.slice (some ⟨w3.heap.size, 0, none⟩) 6 6) zst6) := fun W o => Own.rd o
  have X4 := hide (X3h.out.below b4)
  have R4 := hide (R3h.out.below b4)
  have D4 := hide (D3h.out.below b4)
  have B4 := hide (B3h.out.trans (b4.mono B3h.out.size))
  have S4 : Hid (w3.heap.size ≤ w4.heap.size) := b4.size
  clear o4 g4 b4 X3h R3h D3h B3h
  obtain ⟨x0, x1, x2⟩ := X4.out.c3
  go_wp2_with fail
  refine (l15Put_calls _ _ _ _ (ndT 5) (ndT 5) (ndZ 5) 0 zst6 (w.heap.size + 1) w2.heap.size w4 D4.out (by have := S4.out; omega) NP.out NP.out NB.out NZ.out N28.out (OR.out _ O4.out) ⟨by omega, by omega⟩ zst6_ok).mono ?_
  rintro e w5 ⟨rfl, d5, c5⟩
  have D5 := hide d5
  have X5 := hide (X4.out.chg c5 (.inr (Nat.le_refl _)))
  have R5 := hide (R4.out.chg c5 (.inl (by omega)))
  have O5 := hide (ownsRow_chg O4.out (row_top O4.out) c5 (.inr (by omega)))
  have B5 := hide (B4.out.trans (c5.below (B := w.heap.size) (by omega) B4.out.size))
  have S5 : Hid (w3.heap.size ≤ w5.heap.size) := Nat.le_trans S4.out c5.size
  clear d5 c5 D4 X4 R4 O4 B4 S4 x0 x1 x2
  obtain ⟨x0, x1, x2⟩ := X5.out.c3
  go_wp2_with fail
  refine (l15Write_calls _ _ _ (ndT 5) (hhv (ndT 5) 0 zst6) (ndZ 5) 4 0 0 ⟨#[]⟩ (w.heap.size + 1) w2.heap.size 5 w5 D5.out (by have := S5.out; omega) NP.out LV.out NB.out ⟨by omega, by omega⟩ (by omega) ⟨⟨⟨by omega, by omega⟩, by omega, by omega⟩, ⟨by omega, by omega⟩, by decide⟩ (NZ.out 0) N28.out).mono ?_
  rintro e w6 ⟨rfl, d6, c6⟩
  have d6' : DskV w6 (w.heap.size + 1) w2.heap.size (.slice ap (ndT 5).length cp) (.slice ah (ndT 5).length ch) (.slice ab (ndZ 5).length cb) (ndT 5) newHJ (ndZ 5) := by rw [← EH.out]; exact d6
  have c7 := Chg.store3 (lo := w2.heap.size) (hi := w2.heap.size + 1) w6 w2.heap.size (.slice ap (ndT 5).length cp) (.slice ah (ndT 5).length ch) (.slice ab (ndZ 5).length cb) (Nat.le_refl _) (by omega)
  have X6 := X5.out.chg c6 (.inr (Nat.le_refl _))
  have D7 := hide (d6'.chg c7 (.inl (Nat.le_refl _)))
  have X7 := hide (X6.store3 (.slice ap (ndT 5).length cp) (.slice ah (ndT 5).length ch) (.slice ab (ndZ 5).length cb))
  have R7 := hide ((R5.out.chg c6 (.inl (by omega))).chg c7 (.inl (by omega)))
  have O6 := ownsRow_chg O5.out (row_top O5.out) c6 (.inr (by omega))
  have O7 := hide (ownsRow_chg O6 (row_top O6) c7 (.inr (by omega)))
  have B7 := hide ((B5.out.trans (c6.below (B := w.heap.size) (by omega) B5.out.size)).trans (c7.below (B := w.heap.size) (by omega) (Nat.le_trans B5.out.size c6.size)))
  have S7 : Hid (w3.heap.size ≤ _) := Nat.le_trans S5.out (Nat.le_trans c6.size c7.size)
  obtain ⟨y0, y1, y2⟩ := X6.c3
  have f0 := X6.frozen 0
  have f1 := X6.frozen 1
  have f2 := X6.frozen 2
  clear d6 d6' c6 c7 D5 X5 X6 R5 O5 O6 B5 S5 x0 x1 x2
  go_upto_region 4 with fail
  obtain ⟨w7, hw7⟩ : ∃ u, u = ((w6.setCell ⟨w2.heap.size, 0, none⟩ (.slice ap (ndT 5).length cp)).setCell ⟨w2.heap.size, 1, none⟩ (.slice ah (ndT 5).length ch)).setCell ⟨w2.heap.size, 2, none⟩ (.slice ab (ndZ 5).length cb) := ⟨_, rfl⟩
  rw [← hw7] at X7 R7 D7 B7 O7 S7 ⊢
  clear hw7 y0 y1 y2 f0 f1 f2
  have bd := (Below.refl w7.heap.size w7).drew
  refine wp_region_noPanic ?_
  refine wp_region_held_drew (S := (fun w' => w'.cell? ⟨w2.heap.size, 0, none⟩ = some (.slice ap (ndT 5).length cp) ∧ w'.cell? ⟨w2.heap.size, 1, none⟩ = some (.slice ah (ndT 5).length ch) ∧ w'.cell? ⟨w2.heap.size, 2, none⟩ = some (.slice ab (ndZ 5).length cb))) (by kernel_rfl) ((X7.out.below bd).c3) (fun hHeld => ?_)
  have X8 := hide (X7.out.below bd)
  have R8 := hide (R7.out.below bd)
  have D8 := hide (D7.out.below bd)
  have O8 := hide (ownsRow_below O7.out bd)
  have B8 := hide (B7.out.trans (bd.mono B7.out.size))
  have S8 : Hid (w3.heap.size ≤ w7.drew.heap.size) := Nat.le_trans S7.out bd.size
  clear X7 R7 D7 O7 B7 S7 bd
  generalize World.drew w7 = w8 at *
  refine wpAnyH_take (i := 0) (v := ?v1) rfl (by kernel_rfl) (by kernel_rfl) (by kernel_rfl) (fun _ _ _ h => h) (Or.inl ⟨by rfl, ?hy1⟩) (by assumption) ?rest1
  case hy1 => (intro w' hSw; dsimp only [List.getElem_toArray, List.getElem_cons_zero, List.getElem_cons_succ] at hSw ⊢; go_simp; try (with_reducible rfl))
  try simp only [Act.put, List.getElem_toArray, List.getElem_cons_zero, List.getElem_cons_succ, List.setIfInBounds_toArray, List.set_cons_zero, List.set_cons_succ]
  refine wpAnyH_take (i := 1) (v := ?v2) rfl (by kernel_rfl) (by kernel_rfl) (by kernel_rfl) (fun _ _ _ h => h) (Or.inl ⟨by rfl, ?hy2⟩) (by assumption) ?rest2
  case hy2 => (intro w' hSw; dsimp only [List.getElem_toArray, List.getElem_cons_zero, List.getElem_cons_succ] at hSw ⊢; go_simp; try (with_reducible rfl))
  try simp only [Act.put, List.getElem_toArray, List.getElem_cons_zero, List.getElem_cons_succ, List.setIfInBounds_toArray, List.set_cons_zero, List.set_cons_succ]
  refine wpAnyH_take (i := 4) (v := ?v3) rfl (by kernel_rfl) (by kernel_rfl) (by kernel_rfl) (fun _ _ _ h => h) (Or.inl ⟨by rfl, ?hy3⟩) (by assumption) ?rest3
  case hy3 => (intro w' hSw; dsimp only [List.getElem_toArray, List.getElem_cons_zero, List.getElem_cons_succ] at hSw ⊢; go_simp; try (with_reducible rfl))
  try simp only [Act.put, List.getElem_toArray, List.getElem_cons_zero, List.getElem_cons_succ, List.setIfInBounds_toArray, List.set_cons_zero, List.set_cons_succ]
  refine wpAnyH_ready (rs := [2]) (by kernel_rfl) (by simp) ?_
  refine AllReadyH.cons rfl (fun K hK => ?_) AllReadyH.nil
  dsimp only [List.getElem_toArray, List.getElem_cons_zero, List.getElem_cons_succ]
  go_simp
  refine (l7Held_calls _ (.slice ah (ndT 5).length ch) _ newHJ _ (by have := D8.out.rh; exact this) (by rw [HZ.out]; omega)).mono ?_
  rintro e' w9 ⟨v9, rfl, o9, b9⟩
  rw [HZ.out] at o9
  obtain ⟨a9, c9, rfl⟩ := row_slice o9
  have V9 := hide o9
  have T9 := hide (row_top o9)
  have X9 := hide (X8.out.below b9)
  have R9 := hide (R8.out.below b9)
  have D9 := hide (D8.out.below b9)
  have O9 := hide (ownsRow_below O8.out b9)
  have B9 := hide (B8.out.trans (b9.mono B8.out.size))
  have S9 : Hid (w3.heap.size ≤ w9.heap.size) := Nat.le_trans S8.out b9.size
  have S89 : w8.heap.size ≤ w9.heap.size := b9.size
  have S8o := S8.out
  clear o9 b9 X8 R8 D8 O8 B8 S8 hHeld
  refine hK.out _ _ (X9.out.c3) (fun hHeld => ?_)
  clear hK K
  try simp only [Act.put, List.getElem_toArray, List.getElem_cons_zero, List.getElem_cons_succ, List.setIfInBounds_toArray, List.set_cons_zero, List.set_cons_succ]
  refine wpAnyH_ready (rs := [3]) (by kernel_rfl) (by simp) ?_
  refine AllReadyH.cons rfl (fun K hK => ?_) AllReadyH.nil
  dsimp only [List.getElem_toArray, List.getElem_cons_zero, List.getElem_cons_succ]
  go_simp
  refine (l7Crash_calls _ _ _ _ (ndT 5) newHJ (ndZ 5) (hpl newHJ 5) (w.heap.size + 1) w2.heap.size 5 _ D9.out (by omega) NP.out HZ.out NB.out ⟨by omega, by omega⟩ (fun w' c => Own.rd (ownsRow_chg V9.out T9.out c (.inr (by omega))))).mono ?_
  rintro e' w10 ⟨rfl, d10, c10⟩
  rw [EP.out] at d10
  have D10 := hide d10
  have X10 := hide (X9.out.chg c10 (.inr (Nat.le_refl _)))
  have R10 := hide (R9.out.chg c10 (.inl (by omega)))
  have O10 := hide (ownsRow_chg O9.out (row_top O9.out) c10 (.inr (by omega)))
  have B10 := hide (B9.out.trans (c10.below (B := w.heap.size) (by omega) B9.out.size))
  have S10 : Hid (w3.heap.size ≤ w10.heap.size) := Nat.le_trans S9.out c10.size
  clear d10 c10 X9 R9 D9 O9 B9 S9 V9 T9 hHeld
  refine hK.out _ _ (X10.out.c3) (fun hHeld => ?_)
  clear hK K
  try simp only [Act.put, List.getElem_toArray, List.getElem_cons_zero, List.getElem_cons_succ, List.setIfInBounds_toArray, List.set_cons_zero, List.set_cons_succ]
  refine wpAnyH_take (i := 5) (v := ?v4) rfl (by kernel_rfl) (by kernel_rfl) (by kernel_rfl) (fun _ _ _ h => h) (Or.inl ⟨by rfl, ?hy4⟩) (by assumption) ?rest4
  case hy4 => (intro w' hSw; dsimp only [List.getElem_toArray, List.getElem_cons_zero, List.getElem_cons_succ] at hSw ⊢; go_simp; try (with_reducible rfl))
  try simp only [Act.put, List.getElem_toArray, List.getElem_cons_zero, List.getElem_cons_succ, List.setIfInBounds_toArray, List.set_cons_zero, List.set_cons_succ]
  refine wpAnyH_ready (rs := [6]) (by kernel_rfl) (by simp) ?_
  refine AllReadyH.cons rfl (fun K hK => ?_) AllReadyH.nil
  obtain ⟨r0, r1, r2, r3, r4, r5, r6⟩ := R10.out.c7
  have f0 := R10.out.frozen 0
  have f1 := R10.out.frozen 1
  have f2 := R10.out.frozen 2
  have f3 := R10.out.frozen 3
  have f4 := R10.out.frozen 4
  have f5 := R10.out.frozen 5
  have f6 := R10.out.frozen 6
  have c11 := Chg.store7 (lo := w.heap.size) (hi := w.heap.size + 1) w10 w.heap.size (.slice ap (ndT 5).length cp) (.slice ah (ndT 5).length ch) (.slice ab (ndZ 5).length cb) (.int .i64 0) (.int .i64 0) (.slice (some ⟨w3.heap.size, 0, none⟩) 6 6) (.slice none 0 0) (Nat.le_refl _) (by omega)
  have X11 := hide (R10.out.store7 (.slice ap (ndT 5).length cp) (.slice ah (ndT 5).length ch) (.slice ab (ndZ 5).length cb) (.int .i64 0) (.int .i64 0) (.slice (some ⟨w3.heap.size, 0, none⟩) 6 6) (.slice none 0 0))
  have XB := hide (X10.out.chg c11 (.inr (by omega)))
  have D11 := hide (D10.out.chg c11 (.inr (by omega)))
  have O11 := hide (ownsRow_chg O10.out (row_top O10.out) c11 (.inr (by omega)))
  have B11 := hide (B10.out.trans (c11.below (B := w.heap.size) (Nat.le_refl _) B10.out.size))
  have S11 : Hid (w3.heap.size ≤ _) := Nat.le_trans S10.out c11.size
  dsimp only [List.getElem_toArray, List.getElem_cons_zero, List.getElem_cons_succ]
  go_simp
  clear r0 r1 r2 r3 r4 r5 r6 f0 f1 f2 f3 f4 f5 f6 c11 X10 R10 D10 O10 B10 S10 hHeld
  refine hK.out _ _ (XB.out.c3) (fun hHeld => ?_)
  clear hK K
  try simp only [Act.put, List.getElem_toArray, List.getElem_cons_zero, List.getElem_cons_succ, List.setIfInBounds_toArray, List.set_cons_zero, List.set_cons_succ]
  refine wpAnyH_done (by kernel_rfl) ?_ _
  refine NoPanic.normal ?_
  clear hHeld
  go_wp2
  refine bodyPost_ret (res_jr rfl _ _ w.heap.size _ _ _ _ _ _ _ (0, 0) rfl X11.out) rfl ⟨_, _, _, _, rfl, ⟨⟨w.heap.size + 1, w2.heap.size, ⟨by omega, Nat.le_trans (by omega) S11.out⟩, D11.out, fun k hk => .inr (by
        have e : w3.heap.size = k := by simpa [Value.ownBlock] using hk
        omega), fun k hk => by simp [Value.ownBlock] at hk⟩, ownsRow_mono O11.out (by omega), World.ownsRow_nil _ _ _ _, fun k hk => (World.ownsRow.lt O11.out k hk).2, fun k hk => by simp [Value.ownBlock] at hk, .inr (by simp [Value.ownBlock])⟩, B11.out⟩
end Go.Proofs.Ytpgmocogffolaaa

namespace Go.Proofs.Ytpgmocogffolaaa
open Go.RowKit
set_option linter.unusedVariables false

theorem own_outJ {w w' : World} {base lo hi n : Nat} {e : TypeId} {v : Value} {xs : List Value} (h : w.ownsRow base e 1 v n xs) (ho : ∀ k, v.ownBlock = some k → k < lo ∨ hi ≤ k) (hc : Chg lo hi w w') : w'.ownsRow base e 1 v n xs := by
  refine ⟨h.1, ?_⟩
  rcases h.2 with hn | ⟨g, cap, cur, rfl, hb', hg, rest⟩
  · exact .inl hn
  · exact .inr ⟨g, cap, cur, rfl, hb', by rw [hc.block g (Array.getElem?_eq_some_iff.1 hg).1 (ho g rfl)]; exact hg, rest⟩
theorem dsk_out {w w' : World} {l u : Nat} {p h b v : Value} {P H : List ByteArray} {B : List Bool} (d : DskV w l u p h b P H B) (ho : ∀ k, v.ownBlock = some k → k < l ∨ u ≤ k) (hg : w.grownBy w' v.ownBlock) : DskV w' l u p h b P H B := by
  cases e : v.ownBlock with
  | none => exact d.chg (Chg.ofGrown (lo := u) (hi := u) hg (fun j hj => by rw [e] at hj; cases hj)) (.inl (Nat.le_refl _))
  | some j =>
    have := ho j e
    exact d.chg (Chg.ofGrown (lo := j) (hi := j + 1) hg (fun i hi => by rw [e] at hi; cases hi; omega)) (by omega)
end Go.Proofs.Ytpgmocogffolaaa

namespace Go.Proofs.Ytpgmocogffolaaa
open Go.RowKit
set_option linter.unusedVariables false
set_option linter.unusedSimpArgs false

/-- A journal's five lists, as they read. -/
structure RdJ (w : World) (p h b a c : Value) (P H : List ByteArray) (B : List Bool) (ak cm : List Int) : Prop where
  rp : RdT w p P
  rh : RdT w h H
  rb : RdZ w b B
  ra : Rd w a ak
  rc : Rd w c cm
theorem RdJ.below {w w' : World} {p h b a c : Value} {P H : List ByteArray} {B : List Bool} {ak cm : List Int} (d : RdJ w p h b a c P H B ak cm) (hb : Below w.heap.size w w') : RdJ w' p h b a c P H B ak cm :=
  ⟨d.rp.below hb, d.rh.below hb, d.rb.below hb, d.ra.below hb, d.rc.below hb⟩
theorem JrnV.rd {w : World} {lo hi : Nat} {p h b a c : Value} {P H : List ByteArray} {B : List Bool} {ak cm : List Int} (d : JrnV w lo hi p h b a c P H B ak cm) : RdJ w p h b a c P H B ak cm :=
  ⟨d.rp, d.rh, d.rb, Own.rd d.acked, Own.rd d.coming⟩
/-- A journal of the call's own. -/
def TJrn (p h b a c : Value) (P H : List ByteArray) (B : List Bool) (ak cm : List Int) : Tg := fun lo hi w => JrnV w lo hi p h b a c P H B ak cm
theorem TJrn.st (p h b a c : Value) (P H : List ByteArray) (B : List Bool) (ak cm : List Int) : (TJrn p h b a c P H B ak cm).st := fun lo hi x y w w' h hc hd => h.chg hc hd

set_option maxRecDepth 100000 in
set_option maxHeartbeats 1600000 in
theorem eqJournal_same (p h b a c p' h' b' a' c' : Value) (e ph : Int) (P H : List ByteArray) (B : List Bool) (ak cm : List Int) (w : World) (d : RdJ w p h b a c P H B ak cm) (d' : RdJ w p' h' b' a' c' P H B ak cm) :
    Calls Try.prog 28 #[.agg (jrC p h b e ph a c), .agg (jrC p' h' b' e ph a' c')] w fun x w' => x = .returned (.bool true) ∧ Below w.heap.size w w' := by
  have A0 := hide (Hand.twoR w (jrC p h b e ph a c) (jrC p' h' b' e ph a' c') 42 42)
  have D := hide (d.below A0.out.below)
  have D' := hide (d'.below A0.out.below)
  have nee : (e != e) = false := by simp
  have npp : (ph != ph) = false := by simp
  clear d d'
  obtain ⟨x0, x1, x2, x3, x4, x5, x6⟩ := (A0.out.atBox 1 rfl).c7
  obtain ⟨y0, y1, y2, y3, y4, y5, y6⟩ := (A0.out.atBox 0 rfl).c7
  go_enter Try.func28, Try.ntmps28
  go_wp2_with fail
  refine (eqDisk_same _ _ _ _ _ _ P H B _ D.out.rp D.out.rh D.out.rb D'.out.rp D'.out.rh D'.out.rb).mono ?_
  rintro x w1 ⟨rfl, q⟩
  have A1 := hide (A0.out.step q)
  have D1 := hide (D.out.below q)
  have D1' := hide (D'.out.below q)
  clear q A0 D D' x0 x1 x2 x3 x4 x5 x6 y0 y1 y2 y3 y4 y5 y6
  obtain ⟨x0, x1, x2, x3, x4, x5, x6⟩ := (A1.out.atBox 1 rfl).c7
  obtain ⟨y0, y1, y2, y3, y4, y5, y6⟩ := (A1.out.atBox 0 rfl).c7
  go_wp2_with fail
  refine (eqIntS_same _ _ ak _ D1.out.ra D1'.out.ra).mono ?_
  rintro x w2 ⟨rfl, q⟩
  have A2 := hide (A1.out.step q)
  have D2 := hide (D1.out.below q)
  have D2' := hide (D1'.out.below q)
  clear q A1 D1 D1' x0 x1 x2 x3 x4 x5 x6 y0 y1 y2 y3 y4 y5 y6
  obtain ⟨x0, x1, x2, x3, x4, x5, x6⟩ := (A2.out.atBox 1 rfl).c7
  obtain ⟨y0, y1, y2, y3, y4, y5, y6⟩ := (A2.out.atBox 0 rfl).c7
  go_wp2_with fail
  refine (eqIntS_same _ _ cm _ D2.out.rc D2'.out.rc).mono ?_
  rintro x w3 ⟨rfl, q⟩
  have A3 := hide (A2.out.step q)
  clear q A2 D2 D2'
  go_wp2
  go_ret
  exact ⟨rfl, A3.out.below⟩

/-- What the marking of a journal tells. -/
def enJ (P H : List ByteArray) (B : List Bool) (ak cm : List Int) : Nat := 1 + P.length + H.length + B.length + ak.length + cm.length
set_option maxRecDepth 100000 in
set_option maxHeartbeats 1600000 in
theorem markJournal_calls (p h b a c : Value) (e ph : Int) (P H : List ByteArray) (B : List Bool) (ak cm : List Int) (lo hi : Nat) (w : World) (d : JrnV w lo hi p h b a c P H B ak cm) (hh : hi ≤ w.heap.size) (hz : SzD P H B) (za : ak.length ≤ 1048576) (zc : cm.length ≤ 1048576) :
    Calls Try.prog 31 #[.agg (jrC p h b e ph a c), .int .i64 1] w fun x w' => x = .returned (.int .i64 (enJ P H B ak cm : Int)) ∧
      JrnV w' lo hi p h b a c (marksT 1 P.length) (marksT (1 + P.length) H.length) (marksZ ((1 + P.length + H.length : Nat) : Int) B.length) (marks ((1 + P.length + H.length + B.length : Nat) : Int) ak.length) (marks ((1 + P.length + H.length + B.length + ak.length : Nat) : Int) cm.length) ∧ Chg lo hi w w' := by
  have b0 := below_box w (.cells (jrC p h b e ph a c) 42)
  have X0 := hide (BoxAt.new w (jrC p h b e ph a c) 42)
  have d0 := d.below b0
  obtain ⟨l, u, h1, hd, ho1, ho2⟩ := d0.disk
  have OA := hide d0.acked
  have OC := hide d0.coming
  have TA := hide d0.ta
  have TC := hide d0.tc
  have AC := hide d0.ac
  have DD := hide hd
  have C0 : Hid (Chg lo hi w (w.alloc (.cells (jrC p h b e ph a c) 42))) := Chg.ofBelow b0
  have SZ := hide hz
  obtain ⟨n1, e1⟩ : ∃ n, n = 1 + P.length + H.length + B.length := ⟨_, rfl⟩
  obtain ⟨n2, e2⟩ : ∃ n, n = n1 + ak.length := ⟨_, rfl⟩
  obtain ⟨n3, e3⟩ : ∃ n, n = n2 + cm.length := ⟨_, rfl⟩
  have EN : enJ P H B ak cm = n3 := by unfold enJ; omega
  rw [EN, ← e1, ← e2]
  have p1 : 0 < n1 := by omega
  have q1 : n1 ≤ 4000000 := by obtain ⟨z1, z2, z3⟩ := hz; omega
  have q2 : n2 ≤ 6000000 := by omega
  have E1 := hide e1
  have E2 := hide e2
  have E3 := hide e3
  have l2 : u ≤ (w.alloc (.cells (jrC p h b e ph a c) 42)).heap.size := by simp; omega
  have hl : lo ≤ l := h1.1
  have hu : u ≤ hi := h1.2
  clear e1 e2 e3 EN d d0 hd b0 h1 hz
  obtain ⟨x0, x1, x2, x3, x4, x5, x6⟩ := X0.out.c7
  go_enter Try.func31, Try.ntmps31
  go_wp2_with fail
  refine (markDisk_calls p h b P H B 1 l u _ DD.out l2 (by omega) (by omega) SZ.out).mono ?_
  rintro x w1 ⟨rfl, d1, c1⟩
  have D1 := hide d1
  have X1 := hide (X0.out.chg c1 (.inr (by omega)))
  have OA1 := hide (own_outJ OA.out ho1 c1)
  have OC1 := hide (own_outJ OC.out ho2 c1)
  have C1 := hide (C0.out.trans (c1.wider hl hu))
  rw [← E1.out]
  clear d1 c1 DD X0 OA OC C0 x0 x1 x2 x3 x4 x5 x6
  obtain ⟨x0, x1, x2, x3, x4, x5, x6⟩ := X1.out.c7
  go_wp2_with fail
  refine (markIntS_calls a ak n1 lo _ OA1.out (by omega) (by omega) (by omega)).mono ?_
  rintro x w2 ⟨rfl, o2, g2⟩
  have c2 : Chg lo hi w1 w2 := Chg.ofGrown g2 (fun j hj => ⟨row_low OA1.out j hj, TA.out j hj⟩)
  have D2 := hide (dsk_out D1.out ho1 g2)
  have X2 := hide (X1.out.chg c2 (.inr hh))
  have OA2 := hide o2
  have OC2 := hide (World.ownsRow.kept OC1.out g2 (by
    rcases AC.out with h | h
    · rw [h]
      cases hc : c.ownBlock with | none => exact .inl rfl | some k => exact .inr (by simp)
    · exact .inr (fun e => h e.symm)))
  have C2 := hide (C1.out.trans c2)
  clear o2 g2 c2 D1 X1 OA1 OC1 C1 x0 x1 x2 x3 x4 x5 x6
  obtain ⟨x0, x1, x2, x3, x4, x5, x6⟩ := X2.out.c7
  have E2i : Hid ((n1 : Int) + (ak.length : Int) = (n2 : Int)) := by have := E2.out; show _ = _; omega
  rw [E2i.out]
  go_wp2_with fail
  refine (markIntS_calls c cm n2 lo _ OC2.out (by omega) (by omega) (by omega)).mono ?_
  rintro x w3 ⟨rfl, o3, g3⟩
  have c3 : Chg lo hi w2 w3 := Chg.ofGrown g3 (fun j hj => ⟨row_low OC2.out j hj, TC.out j hj⟩)
  have D3 := hide (dsk_out D2.out ho2 g3)
  have OA3 := hide (World.ownsRow.kept OA2.out g3 (by
    rcases AC.out with h | h
    · exact .inl h
    · exact .inr h))
  have OC3 := hide o3
  have C3 := hide (C2.out.trans c3)
  clear o3 g3 c3 D2 X2 OA2 OC2 C2
  have E3i : Hid ((n2 : Int) + (cm.length : Int) = (n3 : Int)) := by have := E3.out; show _ = _; omega
  rw [E3i.out]
  go_wp2
  go_ret
  exact ⟨rfl, ⟨⟨l, u, ⟨hl, hu⟩, D3.out, ho1, ho2⟩, OA3.out, OC3.out, TA.out, TC.out, AC.out⟩, C3.out⟩
set_option maxRecDepth 100000 in
set_option maxHeartbeats 1600000 in
theorem heldJournal_calls (p h b a c : Value) (e ph : Int) (P H : List ByteArray) (B : List Bool) (ak cm : List Int) (w : World)
    (d : RdJ w p h b a c (marksT 1 P.length) (marksT (1 + P.length) H.length) (marksZ ((1 + P.length + H.length : Nat) : Int) B.length) (marks ((1 + P.length + H.length + B.length : Nat) : Int) ak.length) (marks ((1 + P.length + H.length + B.length + ak.length : Nat) : Int) cm.length))
    (hz : SzD P H B) (za : ak.length ≤ 1048576) (zc : cm.length ≤ 1048576) :
    Calls Try.prog 32 #[.agg (jrC p h b e ph a c), .int .i64 1] w fun x w' => x = .returned (.int .i64 (enJ P H B ak cm : Int)) ∧ Below w.heap.size w w' := by
  have b0 := below_box w (.cells (jrC p h b e ph a c) 42)
  have A0 := hide ((Hand.start w).box (jrC p h b e ph a c) 42)
  have D := hide (d.below b0)
  obtain ⟨n1, e1⟩ : ∃ n, n = 1 + P.length + H.length + B.length := ⟨_, rfl⟩
  obtain ⟨n2, e2⟩ : ∃ n, n = n1 + ak.length := ⟨_, rfl⟩
  obtain ⟨n3, e3⟩ : ∃ n, n = n2 + cm.length := ⟨_, rfl⟩
  have EN : enJ P H B ak cm = n3 := by unfold enJ; omega
  have ra := D.out.ra
  have rc := D.out.rc
  rw [← e1] at ra
  rw [← e1, ← e2] at rc
  have RA := hide ra
  have RC := hide rc
  have RP := hide D.out.rp
  have RH := hide D.out.rh
  have RB := hide D.out.rb
  rw [EN]
  have p1 : ¬ ((n1 : Int) < 0) := by omega
  have p2 : ¬ ((n2 : Int) < 0) := by omega
  have p3 : ¬ ((n3 : Int) < 0) := by omega
  have q1 : n1 ≤ 4000000 := by obtain ⟨z1, z2, z3⟩ := hz; omega
  have q2 : n2 ≤ 6000000 := by omega
  have SZ := hide hz
  have E1 := hide e1
  have E2 := hide e2
  have E3 := hide e3
  clear e1 e2 e3 EN d D b0 hz ra rc
  obtain ⟨x0, x1, x2, x3, x4, x5, x6⟩ := (A0.out.atBox 0 rfl).c7
  go_enter Try.func32, Try.ntmps32
  go_wp2_with fail
  refine (heldDisk_calls p h b P.length H.length B.length 1 _ RP.out RH.out RB.out (by omega) (by omega) SZ.out.1 SZ.out.2.1 SZ.out.2.2).mono ?_
  rintro x w1 ⟨rfl, q⟩
  have A1 := hide (A0.out.step q)
  have RA1 := hide (RA.out.below q)
  have RC1 := hide (RC.out.below q)
  rw [← E1.out]
  clear q A0 RA RC RP RH RB x0 x1 x2 x3 x4 x5 x6
  obtain ⟨x0, x1, x2, x3, x4, x5, x6⟩ := (A1.out.atBox 0 rfl).c7
  go_wp2_with fail
  refine (heldIntS_calls a ak.length n1 _ RA1.out (by omega) (by omega) (by omega)).mono ?_
  rintro x w2 ⟨rfl, rfl⟩
  have E2i : Hid ((n1 : Int) + (ak.length : Int) = (n2 : Int)) := by have := E2.out; show _ = _; omega
  rw [E2i.out]
  go_wp2_with fail
  refine (heldIntS_calls c cm.length n2 _ RC1.out (by omega) (by omega) (by omega)).mono ?_
  rintro x w3 ⟨rfl, rfl⟩
  have E3i : Hid ((n2 : Int) + (cm.length : Int) = (n3 : Int)) := by have := E3.out; show _ = _; omega
  rw [E3i.out]
  go_wp2
  go_ret
  exact ⟨rfl, A1.out.below⟩
end Go.Proofs.Ytpgmocogffolaaa

namespace Go.Proofs.Ytpgmocogffolaaa.Frame
open Go.ChangeShapes Go.WideShapes Go.ChangeAt Go.RowKit
set_option linter.unusedVariables false
section
variable {H : Type} {enc : TypeId × Value → H} {W : World}
theorem trod_struct5J {P : Program} {w : World} {base : Nat} {spare : Nat → Bool} {held : Bool} {t : TypeId} {f0 f1 f2 f3 f4 : Field} {fuel : Nat} {cs : List Value} {x : DataW H × List MemPlace} (ht : P.underlying t = some (.struct #[f0, f1, f2, f3, f4])) (h : DataW.trod enc P w base spare held fuel t cs = some x) :
    ∃ y0 y1 y2 y3 y4 n, cs.length = P.cellsOf t ∧ DataW.trod enc P w base spare held n f0.type ((cs.drop f0.offset).take (P.cellsOf f0.type)) = some y0 ∧
      DataW.trod enc P w base spare held n f1.type ((cs.drop f1.offset).take (P.cellsOf f1.type)) = some y1 ∧ DataW.trod enc P w base spare held n f2.type ((cs.drop f2.offset).take (P.cellsOf f2.type)) = some y2 ∧
      DataW.trod enc P w base spare held n f3.type ((cs.drop f3.offset).take (P.cellsOf f3.type)) = some y3 ∧ DataW.trod enc P w base spare held n f4.type ((cs.drop f4.offset).take (P.cellsOf f4.type)) = some y4 := by
  obtain ⟨xs, n, _, rfl, hl, hlen, hf⟩ := DataW.trod_struct ht h
  match xs, hlen with
  | [y0, y1, y2, y3, y4], _ => exact ⟨y0, y1, y2, y3, y4, n, hl, by simpa using hf 0 f0 rfl, by simpa using hf 1 f1 rfl, by simpa using hf 2 f2 rfl, by simpa using hf 3 f3 rfl, by simpa using hf 4 f4 rfl⟩
theorem array7J {α : Type} {cs : Array α} (h : cs.size = 7) : ∃ c0 c1 c2 c3 c4 c5 c6, cs = #[c0, c1, c2, c3, c4, c5, c6] := by
  obtain ⟨l⟩ := cs
  match l, h with
  | [c0, c1, c2, c3, c4, c5, c6], _ => exact ⟨c0, c1, c2, c3, c4, c5, c6, rfl⟩
set_option maxRecDepth 100000 in
theorem dskC_of {n : Nat} {c0 c1 c2 : Value} {y : DataW H × List MemPlace} (h : DataW.trod enc Try.prog W 0 (fun _ => true) true n 25 [c0, c1, c2] = some y) :
    ∃ P Hh B, RdT W c0 P ∧ RdT W c1 Hh ∧ RdZ W c2 B := by
  obtain ⟨y0, y1, y2, m, _, hl, g0, g1, g2⟩ := Go.Deep.trod_struct3 Try.underlying25 h
  have k1 : Try.prog.cellsOf 22 = 1 := by kernel_rfl
  have k2 : Try.prog.cellsOf 23 = 1 := by kernel_rfl
  simp only [k1, k2, List.drop_zero, List.drop_succ_cons, List.take_succ_cons, List.take_zero] at g0 g1 g2
  obtain ⟨P, hP⟩ := rdT_of g0
  obtain ⟨Hh, hH⟩ := rdT_of g1
  obtain ⟨B, hB⟩ := rdZ_of g2
  exact ⟨P, Hh, B, hP, hH, hB⟩
set_option maxRecDepth 100000 in
theorem jrn_of {r : Reach} {b0 : Nat} {v : Value} {d : DataW H} {p : List MemPlace} (hv : Value.okWide Try.prog W r b0 38 v) (h : DataW.Trod enc Try.prog W 0 (fun _ => true) true 38 v d p) :
    ∃ (vp vh vb va vc : Value) (e ph : Int) (P Hh : List ByteArray) (B : List Bool) (ak cm : List Int), v = .agg (jrC vp vh vb e ph va vc) ∧ RdJ W vp vh vb va vc P Hh B ak cm := by
  obtain ⟨cs, rfl, hsz⟩ := okWide_struct Try.underlying38 hv
  obtain ⟨c0, c1, c2, c3, c4, c5, c6, rfl⟩ := array7J (hsz.trans (by kernel_rfl))
  obtain ⟨fuel, hf⟩ := h
  obtain ⟨y0, y1, y2, y3, y4, n, _, g0, g1, g2, g3, g4⟩ := trod_struct5J Try.underlying38 hf
  have k1 : Try.prog.cellsOf 3 = 1 := by kernel_rfl
  have k2 : Try.prog.cellsOf 27 = 1 := by kernel_rfl
  have k3 : Try.prog.cellsOf 25 = 3 := by kernel_rfl
  simp only [Value.cells, k1, k2, k3, List.drop_zero, List.drop_succ_cons, List.take_succ_cons, List.take_zero] at g0 g1 g2 g3 g4
  obtain ⟨P, Hh, B, hP, hH, hB⟩ := dskC_of g0
  obtain ⟨e, e1, _⟩ := DataW.trod_int Try.underlying3 g1
  obtain ⟨ph, e2, _⟩ := DataW.trod_int Try.underlying3 g2
  obtain ⟨ak, ha⟩ := rd_of g3
  obtain ⟨cm, hc⟩ := rd_of g4
  obtain rfl : c3 = .int .i64 e := by simpa using e1
  obtain rfl : c4 = .int .i64 ph := by simpa using e2
  exact ⟨c0, c1, c2, c5, c6, e, ph, P, Hh, B, ak, cm, rfl, hP, hH, hB, ha, hc⟩
end
end Go.Proofs.Ytpgmocogffolaaa.Frame

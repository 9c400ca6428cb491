/-
  New journals: what one holds, and the program's NewJournal. Each contract says what it asks. A step of a disk: the program's StepDisk, call by call. The contract says what it asks.
-/
import Derived.Test.YtpgmocogffolaaaGoodJournalB20
import Derived.Deep.DeepCutAuto
namespace Go.Proofs.Ytpgmocogffolaaa
open Go.RowKit
set_option linter.unusedVariables false
set_option linter.unusedSimpArgs false

/-- A journal's lists of the call's own, in blocks from lo up to hi: the disk's in a part of these, the states outside that part, and apart. -/
structure JrnV (w : World) (lo hi : Nat) (p h b a c : Value) (P H : List ByteArray) (B : List Bool) (ak cm : List Int) : Prop where
  disk : ∃ l u, (lo ≤ l ∧ u ≤ hi) ∧ DskV w l u p h b P H B ∧ (∀ k, a.ownBlock = some k → k < l ∨ u ≤ k) ∧ ∀ k, c.ownBlock = some k → k < l ∨ u ≤ k
  acked : Own w lo a ak
  coming : Own w lo c cm
  ta : ∀ k, a.ownBlock = some k → k < hi
  tc : ∀ k, c.ownBlock = some k → k < hi
  ac : a.ownBlock = none ∨ a.ownBlock ≠ c.ownBlock
theorem JrnV.chg {w w' : World} {lo hi x y : Nat} {p h b a c : Value} {P H : List ByteArray} {B : List Bool} {ak cm : List Int} (d : JrnV w lo hi p h b a c P H B ak cm) (hc : Chg x y w w') (hd : hi ≤ x ∨ y ≤ lo) : JrnV w' lo hi p h b a c P H B ak cm := by
  obtain ⟨l, u, h1, h2, h3, h4⟩ := d.disk
  exact ⟨⟨l, u, h1, h2.chg hc (by omega), h3, h4⟩, ownsRow_chg d.acked d.ta hc hd, ownsRow_chg d.coming d.tc hc hd, d.ta, d.tc, d.ac⟩
theorem JrnV.below {w w' : World} {lo hi : Nat} {p h b a c : Value} {P H : List ByteArray} {B : List Bool} {ak cm : List Int} (d : JrnV w lo hi p h b a c P H B ak cm) (hb : Below w.heap.size w w') : JrnV w' lo hi p h b a c P H B ak cm := by
  obtain ⟨l, u, h1, h2, h3, h4⟩ := d.disk
  exact ⟨⟨l, u, h1, h2.below hb, h3, h4⟩, ownsRow_below d.acked hb, ownsRow_below d.coming hb, d.ta, d.tc, d.ac⟩
theorem JrnV.wider {w : World} {lo hi lo' hi' : Nat} {p h b a c : Value} {P H : List ByteArray} {B : List Bool} {ak cm : List Int} (d : JrnV w lo hi p h b a c P H B ak cm) (h1 : lo' ≤ lo) (h2 : hi ≤ hi') : JrnV w lo' hi' p h b a c P H B ak cm := by
  obtain ⟨l, u, h3, h4, h5, h6⟩ := d.disk
  exact ⟨⟨l, u, by omega, h4, h5, h6⟩, ownsRow_mono d.acked h1, ownsRow_mono d.coming h1, fun k hk => Nat.lt_of_lt_of_le (d.ta k hk) h2, fun k hk => Nat.lt_of_lt_of_le (d.tc k hk) h2, d.ac⟩
theorem JrnV.sl {w : World} {lo hi : Nat} {p h b a c : Value} {P H : List ByteArray} {B : List Bool} {ak cm : List Int} (d : JrnV w lo hi p h b a c P H B ak cm) :
    ∃ ap cp ah ch ab cb aa ca ac cc, p = .slice ap P.length cp ∧ h = .slice ah H.length ch ∧ b = .slice ab B.length cb ∧ a = .slice aa ak.length ca ∧ c = .slice ac cm.length cc := by
  obtain ⟨l, u, h1, h2, h3, h4⟩ := d.disk
  obtain ⟨ap, cp, ah, ch, ab, cb, e1, e2, e3⟩ := h2.sl
  obtain ⟨aa, ca, e4⟩ := row_slice d.acked
  obtain ⟨ac, cc, e5⟩ := row_slice d.coming
  exact ⟨ap, cp, ah, ch, ab, cb, aa, ca, ac, cc, e1, e2, e3, e4, e5⟩
theorem JrnV.rp {w : World} {lo hi : Nat} {p h b a c : Value} {P H : List ByteArray} {B : List Bool} {ak cm : List Int} (d : JrnV w lo hi p h b a c P H B ak cm) : RdT w p P := by
  obtain ⟨l, u, h1, h2, h3, h4⟩ := d.disk
  exact h2.rp
theorem JrnV.rh {w : World} {lo hi : Nat} {p h b a c : Value} {P H : List ByteArray} {B : List Bool} {ak cm : List Int} (d : JrnV w lo hi p h b a c P H B ak cm) : RdT w h H := by
  obtain ⟨l, u, h1, h2, h3, h4⟩ := d.disk
  exact h2.rh
theorem JrnV.rb {w : World} {lo hi : Nat} {p h b a c : Value} {P H : List ByteArray} {B : List Bool} {ak cm : List Int} (d : JrnV w lo hi p h b a c P H B ak cm) : RdZ w b B := by
  obtain ⟨l, u, h1, h2, h3, h4⟩ := d.disk
  exact h2.rb
/-- The empty journal. -/
theorem JrnV.nil (w : World) (lo hi : Nat) (h : lo ≤ hi) : JrnV w lo hi (.slice none 0 0) (.slice none 0 0) (.slice none 0 0) (.slice none 0 0) (.slice none 0 0) [] [] [] [] [] :=
  ⟨⟨lo, lo, ⟨Nat.le_refl _, h⟩, ⟨World.ownsRow_nil _ _ _ _, World.ownsRow_nil _ _ _ _, World.ownsRow_nil _ _ _ _, fun k hk => by simp [Value.ownBlock] at hk, fun k hk => by simp [Value.ownBlock] at hk, fun k hk => by simp [Value.ownBlock] at hk, .inl rfl, by simp, by simp⟩, fun k hk => by simp [Value.ownBlock] at hk, fun k hk => by simp [Value.ownBlock] at hk⟩,
    World.ownsRow_nil _ _ _ _, World.ownsRow_nil _ _ _ _, fun k hk => by simp [Value.ownBlock] at hk, fun k hk => by simp [Value.ownBlock] at hk, .inl rfl⟩
theorem jrnInfo : (Try.prog.info? 42).map (·.size) = some 7 := by kernel_rfl
theorem res_jr {fn : Func} {x : Tmp} (hf : fn.results = #[.cell x 42]) (tmps : Array Value) (w : World) (g : Nat) (p h b : Value) (e ph : Int) (a c : Value) (fr : Nat × Nat) (hp : tmps.getD x undef = .pointer (some ⟨g, 0, none⟩))
    (hg : w.heap[g]? = some (.cells (jrC p h b e ph a c) 42 fr)) : (results fn tmps).run Try.prog w = .ok (.agg (jrC p h b e ph a c)) w :=
  results_cell_row hf tmps w g _ _ fr _ hp hg Try.underlying42 rfl jrnInfo
/-- All of a journal's block stored. -/
theorem BoxAt.store7 {w : World} {g : Nat} {a b c d e f i : Value} {T : TypeId} (h : BoxAt w g #[a, b, c, d, e, f, i] T) (v0 v1 v2 v3 v4 v5 v6 : Value) :
    BoxAt (((((((w.setCell ⟨g, 0, none⟩ v0).setCell ⟨g, 1, none⟩ v1).setCell ⟨g, 2, none⟩ v2).setCell ⟨g, 3, none⟩ v3).setCell ⟨g, 4, none⟩ v4).setCell ⟨g, 5, none⟩ v5).setCell ⟨g, 6, none⟩ v6) g #[v0, v1, v2, v3, v4, v5, v6] T := by
  simpa using ((((((h.set 0 v0).set 1 v1).set 2 v2).set 3 v3).set 4 v4).set 5 v5).set 6 v6
theorem Chg.store7 {lo hi : Nat} (w : World) (g : Nat) (v0 v1 v2 v3 v4 v5 v6 : Value) (h1 : lo ≤ g) (h2 : g < hi) :
    Chg lo hi w (((((((w.setCell ⟨g, 0, none⟩ v0).setCell ⟨g, 1, none⟩ v1).setCell ⟨g, 2, none⟩ v2).setCell ⟨g, 3, none⟩ v3).setCell ⟨g, 4, none⟩ v4).setCell ⟨g, 5, none⟩ v5).setCell ⟨g, 6, none⟩ v6) :=
  (((Chg.store4 _ _ _ _ _ _ h1 h2).trans (Chg.ofSetCell _ _ _ _ h1 h2)).trans (Chg.ofSetCell _ _ _ _ h1 h2)).trans (Chg.ofSetCell _ _ _ _ h1 h2)
theorem BoxAt.lay7 {w : World} {g : Nat} {a b c d e f i : Value} {T : TypeId} (h : BoxAt w g #[a, b, c, d, e, f, i] T) (v0 v1 v2 : Value) :
    BoxAt (((w.setCell ⟨g, 0, none⟩ v0).setCell ⟨g, 1, none⟩ v1).setCell ⟨g, 2, none⟩ v2) g #[v0, v1, v2, d, e, f, i] T := by
  simpa using ((h.set 0 v0).set 1 v1).set 2 v2
abbrev jr0 : Array Value := jrC (.slice none 0 0) (.slice none 0 0) (.slice none 0 0) 0 0 (.slice none 0 0) (.slice none 0 0)
/-- What a new journal's disk holds. -/
def zst6 : List Int := List.replicate 6 0
theorem zst6_ok : jsP zst6 := ⟨fun i hi => by
  have : zst6.getD i 0 = 0 := by
    unfold zst6
    rw [List.getD_eq_getElem?_getD, List.getElem?_replicate]
    split <;> rfl
  rw [this]
  omega, rfl⟩
def newHJ : List ByteArray := hrt (hhv (ndT 5) 0 zst6) 0
def newPJ : List ByteArray := crP (ndT 5) newHJ (hpl newHJ 5)
theorem nd5 : (ndT 5).length = 5 ∧ (ndZ 5).length = 5 ∧ ∀ i, (ndZ 5).getD i false = false := by
  refine ⟨rfl, rfl, fun i => ?_⟩
  show (List.replicate 5 false).getD i false = false
  rw [List.getD_eq_getElem?_getD, List.getElem?_replicate]
  split <;> rfl
theorem hhv_len (H : List ByteArray) (e : Int) (vs : List Int) : (hhv H e vs).length = H.length := hhk_len _ _ _ _
theorem hrt_len (H : List ByteArray) (e : Int) : (hrt H e).length = H.length := by unfold hrt; rw [List.length_set]

set_option maxRecDepth 100000 in
set_option maxHeartbeats 3200000 in
theorem newJournal_calls (w : World) :
    Calls Try.prog 30 #[] w fun e w' => ∃ p h b a, e = .returned (.agg (jrC p h b 0 0 a (.slice none 0 0))) ∧ JrnV w' w.heap.size w'.heap.size p h b a (.slice none 0 0) newPJ (crH newHJ) (ndZ 5) zst6 [] ∧ Below w.heap.size w w' := by
  obtain ⟨nP, nB, nz⟩ := nd5
  have NP := hide nP
  have NB := hide nB
  have NZ := hide nz
  have ND := hide (fun W => newDisk_calls 5 W)
  have HZ : Hid (newHJ.length = 5) := by show _ = _; unfold newHJ; rw [hrt_len, hhv_len]; exact nP
  have EH : Hid (hrt (hhv (ndT 5) 0 zst6) 0 = newHJ) := rfl
  have EP : Hid (crP (ndT 5) newHJ (hpl newHJ 5) = newPJ) := rfl
  have LV : Hid ((hhv (ndT 5) 0 zst6).length = 5) := by show _ = _; rw [hhv_len]; exact nP
  have ZL : Hid (zst6.length = 6) := rfl
  have ZE : Hid (List.replicate 6 0 = zst6) := rfl
  have ZO := hide zst6_ok
  clear nP nB nz
  have b0 := below_box w (.cells jr0 42)
  have x0 := BoxAt.new w jr0 42
  go_enter Try.func30, Try.ntmps30
  go_wp2_with (at_make; refine wpList_make_ints rfl _ _ rfl (w.heap.size + 1) _ _ 6 rfl rfl (by omega) (by omega) (by omega) (by simp) ?_)
  intro w1 o1 g1
  have B1 := hide (b0.trans ((grown_none g1).mono b0.size))
  have x1 := x0.below (grown_none g1)
  have o1' : w1.ownsRow (w.heap.size + 1) 3 1 (.slice (some ⟨w.heap.size + 1, 0, none⟩) 6 6) 6 (zst6.map fun i => .int .i64 i) := by rw [← ZE.out]; simpa [Own] using o1
  have b2 := below_box w1 (.cells (jrC (.slice none 0 0) (.slice none 0 0) (.slice none 0 0) 0 0 (.slice (some ⟨w.heap.size + 1, 0, none⟩) 6 6) (.slice none 0 0)) 42)
  have X2 := hide (BoxAt.new w1 (jrC (.slice none 0 0) (.slice none 0 0) (.slice none 0 0) 0 0 (.slice (some ⟨w.heap.size + 1, 0, none⟩) 6 6) (.slice none 0 0)) 42)
  have R2 := hide (x1.below b2)
  have O2 := hide (ownsRow_below o1' b2)
  have B2 := hide (B1.out.trans (b2.mono B1.out.size))
  have S1 : w.heap.size + 1 < w1.heap.size := (World.ownsRow.lt o1' (w.heap.size + 1) rfl).2
  clear b0 x0 o1 g1 x1 o1' b2 B1
  go_upto_region 2 with fail
  obtain ⟨w2, hw2⟩ : ∃ u, u = w1.alloc (.cells (jrC (.slice none 0 0) (.slice none 0 0) (.slice none 0 0) 0 0 (.slice (some ⟨w.heap.size + 1, 0, none⟩) 6 6) (.slice none 0 0)) 42) := ⟨_, rfl⟩
  have s2 : w2.heap.size = w1.heap.size + 1 := by rw [hw2]; simp
  rw [← hw2] at X2 R2 O2 B2 ⊢
  clear hw2
  go_wp2_with fail
  refine (ND.out _).mono ?_
  rintro e w3 ⟨p, h, b, rfl, d3, b3⟩
  obtain ⟨ap, cp, ah, ch, ab, cb, rfl, rfl, rfl⟩ := d3.sl
  have X3 := X2.out.below b3
  obtain ⟨x0, x1, x2, x3, x4, x5, x6⟩ := X3.c7
  have f0 := X3.frozen 0
  have f1 := X3.frozen 1
  have f2 := X3.frozen 2
  have c4 := Chg.store3 (lo := w1.heap.size) (hi := w1.heap.size + 1) w3 w1.heap.size (.slice ap (ndT 5).length cp) (.slice ah (ndT 5).length ch) (.slice ab (ndZ 5).length cb) (Nat.le_refl _) (by omega)
  have X4 := hide (X3.lay7 (.slice ap (ndT 5).length cp) (.slice ah (ndT 5).length ch) (.slice ab (ndZ 5).length cb))
  have D4 := hide (d3.chg c4 (.inr (by omega)))
  have R4 := hide ((R2.out.below b3).chg c4 (.inl (by omega)))
  have O4 := hide (ownsRow_chg (ownsRow_below O2.out b3) (hi := w1.heap.size) (fun k hk => by
    have e : w.heap.size + 1 = k := by simpa [Value.ownBlock] using hk
    omega) c4 (.inl (Nat.le_refl _)))
  have B4 := hide ((B2.out.trans (b3.mono B2.out.size)).trans (c4.below (B := w.heap.size) (by omega) (by have := B2.out.size; have := b3.size; omega)))
  have S4 : Hid (w3.heap.size ≤ (((w3.setCell ⟨w1.heap.size, 0, none⟩ (.slice ap (ndT 5).length cp)).setCell ⟨w1.heap.size, 1, none⟩ (.slice ah (ndT 5).length ch)).setCell ⟨w1.heap.size, 2, none⟩ (.slice ab (ndZ 5).length cb)).heap.size) := c4.size
  have S3 : w2.heap.size ≤ w3.heap.size := b3.size
  go_upto_region 3 with fail
  clear x0 x1 x2 x3 x4 x5 x6 f0 f1 f2 c4 X3 d3 b3 X2 R2 O2 B2
  obtain ⟨w4, hw4⟩ : ∃ u, u = ((w3.setCell ⟨w1.heap.size, 0, none⟩ (.slice ap (ndT 5).length cp)).setCell ⟨w1.heap.size, 1, none⟩ (.slice ah (ndT 5).length ch)).setCell ⟨w1.heap.size, 2, none⟩ (.slice ab (ndZ 5).length cb) := ⟨_, rfl⟩
  rw [← hw4] at X4 D4 R4 O4 B4 S4 ⊢
  clear hw4
  have OR : Hid (∀ W, W.ownsRow (w.heap.size + 1) 3 1 (.slice (some ⟨w.heap.size + 1, 0, none⟩) 6 6) 6 (zst6.map fun i => .int .i64 i) → Rd W (.slice (some ⟨w.heap.size + 1, 0, none⟩) 6 6) zst6) := fun W o => Own.rd o
  obtain ⟨x0, x1, x2, x3, x4, x5, x6⟩ := X4.out.c7
  go_wp2_with fail
  refine (holdHalf_calls w1.heap.size _ _ _ _ _ _ 0 0 0 _ _ _ zst6 w2.heap.size w3.heap.size true w4 X4.out (.inl (by omega)) D4.out S4.out NP.out NP.out NB.out NZ.out (OR.out _ O4.out) ⟨fun _ => ⟨⟨by omega, by omega⟩, ZO.out⟩, fun _ => rfl⟩).mono ?_
  rintro e w5 ⟨rfl, d5, c5⟩
  have D5 := hide (d5 rfl)
  have X5 := hide (X4.out.chg c5 (.inl (by omega)))
  have R5 := hide (R4.out.chg c5 (.inl (by omega)))
  have O5 := hide (ownsRow_chg O4.out (hi := w1.heap.size) (fun k hk => by
    have e : w.heap.size + 1 = k := by simpa [Value.ownBlock] using hk
    omega) c5 (.inl (by omega)))
  have B5 := hide (B4.out.trans (c5.below (B := w.heap.size) (by omega) B4.out.size))
  have S5 : Hid (w3.heap.size ≤ w5.heap.size) := Nat.le_trans S4.out c5.size
  clear d5 c5 D4 X4 R4 O4 B4 S4 x0 x1 x2 x3 x4 x5 x6
  obtain ⟨x0, x1, x2, x3, x4, x5, x6⟩ := X5.out.c7
  have el : (ndT 5).length = (hhv (ndT 5) 0 zst6).length := NP.out.trans LV.out.symm
  have EL := hide el
  clear el
  go_wp2_with fail
  refine (holdRoot_calls w1.heap.size (.slice ap (ndT 5).length cp) (.slice ah (ndT 5).length ch) (.slice ab (ndZ 5).length cb) (.slice (some ⟨w.heap.size + 1, 0, none⟩) 6 6) (.slice none 0 0) 0 0 0 (ndT 5) (hhv (ndT 5) 0 zst6) (ndZ 5) w2.heap.size w3.heap.size true w5 X5.out D5.out S5.out NP.out LV.out NB.out NZ.out ⟨fun _ => ⟨by omega, by omega⟩, fun _ => rfl⟩).mono ?_
  rintro e w6 ⟨rfl, d6, c6⟩
  have d6' := d6 rfl
  rw [EH.out] at d6'
  have D6 := hide d6'
  have X6 := hide (X5.out.chg c6 (.inl (by omega)))
  have R6 := hide (R5.out.chg c6 (.inl (by omega)))
  have O6 := hide (ownsRow_chg O5.out (hi := w1.heap.size) (fun k hk => by
    have e : w.heap.size + 1 = k := by simpa [Value.ownBlock] using hk
    omega) c6 (.inl (by omega)))
  have B6 := hide (B5.out.trans (c6.below (B := w.heap.size) (by omega) B5.out.size))
  have S6 : Hid (w3.heap.size ≤ w6.heap.size) := Nat.le_trans S5.out c6.size
  clear d6 d6' c6 D5 X5 R5 O5 B5 S5 x0 x1 x2 x3 x4 x5 x6
  obtain ⟨x0, x1, x2, x3, x4, x5, x6⟩ := X6.out.c7
  go_wp2_with fail
  refine (syncDisk_calls (.slice ap (ndT 5).length cp) (.slice ah (ndT 5).length ch) (.slice ab (ndZ 5).length cb) (ndT 5) newHJ (ndZ 5) w2.heap.size w3.heap.size 5 w6 D6.out S6.out NP.out HZ.out NB.out ⟨by omega, by omega⟩).mono ?_
  rintro e w7 ⟨rfl, d7, c7⟩
  rw [EP.out] at d7
  have D7 := hide d7
  have X7 := hide (X6.out.chg c7 (.inl (by omega)))
  have R7 := hide (R6.out.chg c7 (.inl (by omega)))
  have O7 := hide (ownsRow_chg O6.out (hi := w1.heap.size) (fun k hk => by
    have e : w.heap.size + 1 = k := by simpa [Value.ownBlock] using hk
    omega) c7 (.inl (by omega)))
  have B7 := hide (B6.out.trans (c7.below (B := w.heap.size) (by omega) B6.out.size))
  have S7 : Hid (w3.heap.size ≤ w7.heap.size) := Nat.le_trans S6.out c7.size
  clear d7 c7 D6 X6 R6 O6 B6 S6 x0 x1 x2 x3 x4 x5 x6
  obtain ⟨x0, x1, x2, x3, x4, x5, x6⟩ := X7.out.c7
  have f0 := R7.out.frozen 0
  have f1 := R7.out.frozen 1
  have f2 := R7.out.frozen 2
  have f3 := R7.out.frozen 3
  have f4 := R7.out.frozen 4
  have f5 := R7.out.frozen 5
  have f6 := R7.out.frozen 6
  obtain ⟨r0, r1, r2, r3, r4, r5, r6⟩ := R7.out.c7
  have c8 := Chg.store7 (lo := w.heap.size) (hi := w.heap.size + 1) w7 w.heap.size (.slice ap (ndT 5).length cp) (.slice ah (ndT 5).length ch) (.slice ab (ndZ 5).length cb) (.int .i64 0) (.int .i64 0) (.slice (some ⟨w.heap.size + 1, 0, none⟩) 6 6) (.slice none 0 0) (Nat.le_refl _) (by omega)
  have X8 := hide (R7.out.store7 (.slice ap (ndT 5).length cp) (.slice ah (ndT 5).length ch) (.slice ab (ndZ 5).length cb) (.int .i64 0) (.int .i64 0) (.slice (some ⟨w.heap.size + 1, 0, none⟩) 6 6) (.slice none 0 0))
  have D8 := hide (D7.out.chg c8 (.inr (by omega)))
  have O8 := hide (ownsRow_chg O7.out (hi := w1.heap.size) (fun k hk => by
    have e : w.heap.size + 1 = k := by simpa [Value.ownBlock] using hk
    omega) c8 (.inr (by omega)))
  have B8 := hide (B7.out.trans (c8.below (B := w.heap.size) (Nat.le_refl _) B7.out.size))
  have S8 : Hid (w3.heap.size ≤ _) := Nat.le_trans S7.out c8.size
  clear c8
  go_wp2
  refine bodyPost_ret (res_jr rfl _ _ w.heap.size _ _ _ _ _ _ _ (0, 0) rfl X8.out) rfl ⟨_, _, _, _, rfl, ⟨⟨w2.heap.size, w3.heap.size, ⟨by omega, S8.out⟩, D8.out, fun k hk => .inl (by
      have e : w.heap.size + 1 = k := by simpa [Value.ownBlock] using hk
      omega), fun k hk => by simp [Value.ownBlock] at hk⟩, ownsRow_mono O8.out (by omega), World.ownsRow_nil _ _ _ _, fun k hk => (World.ownsRow.lt O8.out k hk).2, fun k hk => by simp [Value.ownBlock] at hk, .inr (by simp [Value.ownBlock])⟩, B8.out⟩
end Go.Proofs.Ytpgmocogffolaaa

namespace Go.Proofs.Ytpgmocogffolaaa
open Go.RowKit
set_option linter.unusedVariables false

theorem Hand.three (w : World) (c1 c2 c3 : Array Value) (T1 T2 T3 : TypeId) : Hand w (((w.alloc (.cells c1 T1)).alloc (.cells c2 T2)).alloc (.cells c3 T3)) [TBox (w.heap.size + 1 + 1) c3 T3, TBox (w.heap.size + 1) c2 T2, TBox w.heap.size c1 T1] := by
  have h := (((Hand.start w).box c1 T1).box c2 T2).box c3 T3
  simpa only [World.size_alloc] using h
/-- What StepDisk answers. -/
def sdP (ok : Bool) (P H : List ByteArray) (K A : Int) (T : ByteArray) (ks : List Int) : List ByteArray := if ok = true then stP P H P.length K A T ks else []
def sdH (ok : Bool) (H : List ByteArray) (K A : Int) (T : ByteArray) : List ByteArray := if ok = true then stH H K A T else []
def sdB (ok : Bool) (B : List Bool) (K A : Int) : List Bool := if ok = true then stB B K A else []
theorem stP_len (P H : List ByteArray) (n : Nat) (K A : Int) (T : ByteArray) (ks : List Int) : (stP P H n K A T ks).length = P.length := by
  unfold stP
  split
  · exact crP_len _ _ _
  split
  · exact crP_len _ _ _
  split
  · exact List.length_set
  split
  · exact List.length_set
  · rfl
theorem stH_len (H : List ByteArray) (K A : Int) (T : ByteArray) : (stH H K A T).length = H.length := by
  unfold stH
  split
  · exact List.length_set
  split
  · simp [crH]
  split
  · simp [crH]
  split
  · exact List.length_set
  · rfl
theorem stB_len (B : List Bool) (K A : Int) : (stB B K A).length = B.length := by
  unfold stB
  split
  · exact List.length_set
  split
  · exact List.length_set
  · rfl
theorem sd_bool (P H : List ByteArray) (B : List Bool) (K A : Int) (T : ByteArray) (ks : List Int) : ∃ ok : Bool, ok = true ↔ (gkP P H B ∧ stOk P H B P.length K A T ks) := by
  by_cases hh : gkP P H B ∧ stOk P H B P.length K A T ks
  · exact ⟨true, fun _ => hh, fun _ => rfl⟩
  · exact ⟨false, fun h => by simp at h, fun h => absurd h hh⟩
theorem sd_len {P H : List ByteArray} {B : List Bool} {K A : Int} {T : ByteArray} {ks : List Int} {ok : Bool} (h : ok = true ↔ (gkP P H B ∧ stOk P H B P.length K A T ks)) : SzD (sdP ok P H K A T ks) (sdH ok H K A T) (sdB ok B K A) := by
  cases ok with
  | false => simp [SzD, sdP, sdH, sdB]
  | true =>
    obtain ⟨⟨h1, h2⟩, h3, h4, _⟩ := (h.1 rfl).1
    simp only [SzD, sdP, sdH, sdB, if_true, stP_len, stH_len, stB_len]
    omega

end Go.Proofs.Ytpgmocogffolaaa

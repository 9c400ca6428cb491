/-
  A disk handed over: a copy of the call's own, call by call. Each contract says what it asks.
-/
import Derived.Test.YtpgmocogffolaaaDsm
namespace Go.Proofs.Ytpgmocogffolaaa
open Go.RowKit
set_option linter.unusedVariables false

abbrev nil3 : Array Value := #[.slice none 0 0, .slice none 0 0, .slice none 0 0]

set_option maxRecDepth 100000 in
set_option maxHeartbeats 800000 in
theorem toDisk_calls (p h b : Value) (P H : List ByteArray) (B : List Bool) (w : World) (hp : RdT w p P) (hh : RdT w h H) (hb : RdZ w b B) (hz : SzD P H B) :
    Calls Try.prog 17 #[.agg #[p, h, b]] w fun e w' => ∃ p' h' b', e = .returned (.agg #[p', h', b']) ∧ DskV w' w.heap.size w'.heap.size p' h' b' P H B ∧ Below w.heap.size w w' := by
  obtain ⟨zp, zh, zb⟩ := hz
  obtain ⟨wa, ea⟩ : ∃ wa, wa = w.alloc (.cells #[p, h, b] 25) := ⟨_, rfl⟩
  obtain ⟨wb, eb⟩ : ∃ wb, wb = wa.alloc (.cells nil3 30) := ⟨_, rfl⟩
  obtain ⟨wc, ec⟩ : ∃ wc, wc = wb.alloc (.cells nil3 30) := ⟨_, rfl⟩
  have sa : wa.heap.size = w.heap.size + 1 := by rw [ea]; simp
  have sb : wb.heap.size = w.heap.size + 1 + 1 := by rw [eb, World.size_alloc, sa]
  have sc : wc.heap.size = w.heap.size + 1 + 1 + 1 := by rw [ec, World.size_alloc, sb]
  have ba : Below w.heap.size w wa := by rw [ea]; exact below_box _ _
  have bb : Below wa.heap.size wa wb := by rw [eb]; exact below_box _ _
  have bc : Below wb.heap.size wb wc := by rw [ec]; exact below_box _ _
  have bz : Below w.heap.size w wc := (ba.trans (bb.mono (by omega))).trans (bc.mono (by omega))
  have xa : BoxAt wa w.heap.size #[p, h, b] 25 := by rw [ea]; exact BoxAt.new _ _ _
  have xb : BoxAt wb (w.heap.size + 1) nil3 30 := by rw [eb, ← sa]; exact BoxAt.new _ _ _
  have xc : BoxAt wc (w.heap.size + 1 + 1) nil3 30 := by rw [ec, ← sb]; exact BoxAt.new _ _ _
  have XA := hide ((xa.below bb).below bc)
  have XB := hide (xb.below bc)
  have XC := hide xc
  have SC := hide sc
  have EC : Hid (((w.alloc (.cells #[p, h, b] 25)).alloc (.cells nil3 30)).alloc (.cells nil3 30) = wc) := by show _ = _; rw [ec, eb, ea]
  have BZ := hide bz
  have RP := hide hp
  have RH := hide hh
  have RB := hide hb
  have SP := hide hp.small
  have SH := hide hh.small
  have y0 : w.heap.size ≤ w.heap.size + 1 + 1 := by omega
  have y1 : ¬ w.heap.size = w.heap.size + 1 + 1 := by omega
  have y2 : ¬ w.heap.size + 1 = w.heap.size + 1 + 1 := by omega
  have y3 : ¬ w.heap.size + 1 + 1 = w.heap.size + 1 := by omega
  clear hp hh hb xa xb xc ba bb bc bz sa sb sc ea eb ec
  go_enter Try.func17, Try.ntmps17
  go_wp2_with fail
  rw [EC.out]
  refine (toStringS_calls _ P _ (RP.out.below BZ.out) zp).mono ?_
  rintro e w1 ⟨p', rfl, o1, b1⟩
  have l1 : w.heap.size + 1 + 1 < w1.heap.size := by have := b1.size; have := SC.out; omega
  obtain ⟨a1, k1, rfl⟩ := row_slice o1
  have K1 := hide (Chg.ofSetCell (lo := w.heap.size + 1 + 1) (hi := w.heap.size + 1 + 1 + 1) w1 (w.heap.size + 1 + 1) 0 (.slice a1 P.length k1) (Nat.le_refl _) (by omega))
  have XA1 := hide (XA.out.below b1)
  have XB1 := hide (XB.out.below b1)
  have XC1 := hide (XC.out.below b1)
  have T1 := hide (row_top o1)
  have O1 := hide (ownsRow_chg o1 (row_top o1) K1.out (.inr (by have := SC.out; omega)))
  have D1 := hide ((BZ.out.trans (b1.mono BZ.out.size)).setCell (p := ⟨w.heap.size + 1 + 1, 0, none⟩) (by exact y0) (.slice a1 P.length k1))
  clear o1 b1 XA XB XC
  have f0 := XC1.out.frozen 0
  have c0 := XC1.out.cell 0
  have c1 := XA1.out.cell 1
  simp only [List.getElem?_toArray, List.getElem?_cons_zero, List.getElem?_cons_succ] at c0 c1
  go_wp2_with fail
  clear f0 c0 c1
  have XA2 := hide (XA1.out.chg K1.out (.inl (by omega)))
  have XB2 := hide (XB1.out.chg K1.out (.inl (by omega)))
  have XC2 := hide (XC1.out.set 0 (.slice a1 P.length k1))
  have s1 := K1.out.size
  have s1' : (w1.setCell ⟨w.heap.size + 1 + 1, 0, none⟩ (.slice a1 P.length k1)).heap.size = w1.heap.size := by simp
  clear K1 XA1 XB1 XC1
  generalize w1.setCell ⟨w.heap.size + 1 + 1, 0, none⟩ (.slice a1 P.length k1) = w2 at *
  refine (toStringS_calls _ H _ (RH.out.below D1.out) zh).mono ?_
  rintro e w3 ⟨h', rfl, o2, b2⟩
  have l2 : w.heap.size + 1 + 1 < w3.heap.size := by have := b2.size; omega
  obtain ⟨a2, k2, rfl⟩ := row_slice o2
  have K1 := hide (Chg.ofSetCell (lo := w.heap.size + 1 + 1) (hi := w.heap.size + 1 + 1 + 1) w3 (w.heap.size + 1 + 1) 1 (.slice a2 H.length k2) (Nat.le_refl _) (by omega))
  have XA1 := hide (XA2.out.below b2)
  have XB1 := hide (XB2.out.below b2)
  have XC1 := hide (XC2.out.below b2)
  have T2 := hide (row_top o2)
  have L2 := hide (row_low o2)
  have O2 := hide (ownsRow_chg o2 (row_top o2) K1.out (.inr (by omega)))
  have O1' := hide (ownsRow_chg (ownsRow_below O1.out b2) T1.out K1.out (.inr (by have := SC.out; omega)))
  have D2 := hide ((D1.out.trans (b2.mono D1.out.size)).setCell (p := ⟨w.heap.size + 1 + 1, 1, none⟩) (by exact y0) (.slice a2 H.length k2))
  have s2 := b2.size
  clear o2 b2 XA2 XB2 XC2 O1 D1
  have f0 := XC1.out.frozen 1
  have c0 := XC1.out.cell 1
  have c1 := XA1.out.cell 2
  simp only [List.getElem?_toArray, List.getElem?_cons_zero, List.getElem?_cons_succ] at c0 c1
  have c0' : w3.cell? ⟨w.heap.size + 1 + 1, 1, none⟩ = some (.slice none 0 0) := c0
  clear c0
  go_wp2_with fail
  clear f0 c0' c1
  have XA2 := hide (XA1.out.chg K1.out (.inl (by omega)))
  have XB2 := hide (XB1.out.chg K1.out (.inl (by omega)))
  have XC2 := hide (XC1.out.set 1 (.slice a2 H.length k2))
  have s3' : (w3.setCell ⟨w.heap.size + 1 + 1, 1, none⟩ (.slice a2 H.length k2)).heap.size = w3.heap.size := by simp
  clear K1 XA1 XB1 XC1
  generalize w3.setCell ⟨w.heap.size + 1 + 1, 1, none⟩ (.slice a2 H.length k2) = w4 at *
  refine (toBoolS_calls _ B _ (RB.out.below D2.out) zb).mono ?_
  rintro e w5 ⟨b', rfl, o3, b3⟩
  have l3 : w.heap.size + 1 + 1 < w5.heap.size := by have := b3.size; omega
  obtain ⟨a3, k3, rfl⟩ := row_slice o3
  have K1 := hide (Chg.ofSetCell (lo := w.heap.size + 1 + 1) (hi := w.heap.size + 1 + 1 + 1) w5 (w.heap.size + 1 + 1) 2 (.slice a3 B.length k3) (Nat.le_refl _) (by omega))
  have XB1 := hide (XB2.out.below b3)
  have XC1 := hide (XC2.out.below b3)
  have T3 := hide (row_top o3)
  have O3 := hide (ownsRow_chg o3 (row_top o3) K1.out (.inr (by omega)))
  have O2' := hide (ownsRow_chg (ownsRow_below O2.out b3) T2.out K1.out (.inr (by omega)))
  have O1 := hide (ownsRow_chg (ownsRow_below O1'.out b3) T1.out K1.out (.inr (by have := SC.out; omega)))
  have D3 := hide ((D2.out.trans (b3.mono D2.out.size)).setCell (p := ⟨w.heap.size + 1 + 1, 2, none⟩) (by exact y0) (.slice a3 B.length k3))
  clear XA2 XB2 XC2 D2 O1' O2
  have f0 := XC1.out.frozen 2
  have c0 : w5.cell? ⟨w.heap.size + 1 + 1, 0, none⟩ = some (.slice a1 P.length k1) := XC1.out.cell 0
  have c1 : w5.cell? ⟨w.heap.size + 1 + 1, 1, none⟩ = some (.slice a2 H.length k2) := XC1.out.cell 1
  have c2 : w5.cell? ⟨w.heap.size + 1 + 1, 2, none⟩ = some (.slice none 0 0) := XC1.out.cell 2
  have g0 := XB1.out.frozen 0
  have g1 := XB1.out.frozen 1
  have g2 := XB1.out.frozen 2
  obtain ⟨d0, d1, d2⟩ := XB1.out.c3
  have F := hide ((XB1.out.chg K1.out (.inl (by omega))))
  have s5 := b3.size
  clear o3 b3 XB1 XC1
  go_wp2
  have s6 : (w5.setCell ⟨w.heap.size + 1 + 1, 2, none⟩ (.slice a3 B.length k3)).heap.size = w5.heap.size := by simp
  generalize w5.setCell ⟨w.heap.size + 1 + 1, 2, none⟩ (.slice a3 B.length k3) = w6 at *
  have C6 := Chg.store3 (lo := w.heap.size + 1) (hi := w.heap.size + 1 + 1) w6 (w.heap.size + 1) (.slice a1 P.length k1) (.slice a2 H.length k2) (.slice a3 B.length k3) (Nat.le_refl _) (by omega)
  have s7 := C6.size
  refine bodyPost_ret (res_dsk rfl _ _ (w.heap.size + 1) _ _ _ (0, 0) rfl (F.out.store3 _ _ _)) rfl ⟨_, _, _, rfl, ?_, D3.out.trans (C6.below (by omega) (by omega))⟩
  have d6 : DskV w6 (w.heap.size + 1 + 1 + 1) w6.heap.size (.slice a1 P.length k1) (.slice a2 H.length k2) (.slice a3 B.length k3) P H B :=
    ⟨ownsRow_mono O1.out (by have := SC.out; omega), ownsRow_mono O2'.out (by omega), ownsRow_mono O3.out (by omega), fun k hk => by have := T1.out k hk; omega, fun k hk => by have := T2.out k hk; omega, fun k hk => by have := T3.out k hk; omega,
      by
        cases hu : (Value.slice a1 P.length k1).ownBlock with
        | none => exact .inl rfl
        | some x =>
          right
          intro e
          have := T1.out x hu
          have := L2.out x e.symm
          omega, SP.out, SH.out⟩
  exact (d6.chg C6 (.inr (by omega))).wider (by omega) (by omega)
end Go.Proofs.Ytpgmocogffolaaa

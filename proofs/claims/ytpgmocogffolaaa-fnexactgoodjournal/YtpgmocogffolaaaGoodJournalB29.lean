/-
  The law that holds the program's GoodJournal against its model's: at every journal the call returns true, and nothing that was there is written. No condition.
-/
import Derived.Test.YtpgmocogffolaaaGoodJournalB28
namespace Go.Proofs.Ytpgmocogffolaaa
open Go.RowKit
set_option linter.unusedVariables false
set_option linter.unusedSimpArgs false

set_option maxRecDepth 100000 in
set_option maxHeartbeats 3200000 in
theorem fnExactGoodJournal_walk (p h b a c : Value) (e ph : Int) (P H : List ByteArray) (B : List Bool) (ak cm : List Int) (w : World) (d : RdJ w p h b a c P H B ak cm) :
    Calls Try.prog 4 #[.agg (jrC p h b e ph a c)] w fun x w' => x = .returned (.bool true) ∧ Below w.heap.size w w' := by
  have D := hide d
  obtain ⟨t, ht⟩ := bol_exJ (jgP P H B e ph ak cm)
  have HT := hide ht
  have A0 := hide ((Hand.start w).box (jrC p h b e ph a c) 38)
  clear d ht
  go_enter Try.func4, Try.ntmps4
  obtain ⟨x0, x1, x2, x3, x4, x5, x6⟩ := (A0.out.atBox 0 rfl).c7
  go_wp2_with fail
  refine (szJournal_calls p h b a c e ph P H B ak cm _ (D.out.below A0.out.below)).mono ?_
  rintro x w1 ⟨⟨r, rfl, hr⟩, q⟩
  have A1 := hide (A0.out.step q)
  clear q A0 x0 x1 x2 x3 x4 x5 x6
  by_cases r0 : r < 0
  · go_wp2
    go_ret
    exact ⟨rfl, A1.out.below⟩
  have SZ := hide (hr.resolve_left r0).2.2
  have r1 := (hr.resolve_left r0).2.1
  clear hr
  obtain ⟨x0, x1, x2, x3, x4, x5, x6⟩ := (A1.out.atBox 0 rfl).c7
  go_wp2_with fail
  refine (toJournal_calls p h b a c e ph P H B ak cm _ (D.out.below A1.out.below) SZ.out).mono ?_
  rintro x w2 ⟨p1, h1, b1, a1, c1, rfl, d1, q⟩
  have A2 := hide (A1.out.add q (TJrn.st _ _ _ _ _ _ _ _ _ _) d1)
  clear q A1 x0 x1 x2 x3 x4 x5 x6
  have D1 := hide d1.rd
  clear d1
  go_wp2_with fail
  refine (sGoodJournal_calls p1 h1 b1 a1 c1 e ph P H B ak cm t _ D1.out SZ.out.1.2.2 HT.out).mono ?_
  rintro x w3 ⟨rfl, q⟩
  have A3 := hide (A2.out.step q)
  clear q A2 D1
  obtain ⟨x0, x1, x2, x3, x4, x5, x6⟩ := (A3.out.atBox 1 rfl).c7
  go_wp2_with fail
  refine (toJournal_calls p h b a c e ph P H B ak cm _ (D.out.below A3.out.below) SZ.out).mono ?_
  rintro x w4 ⟨p2, h2, b2, a2, c2, rfl, d1, q⟩
  obtain ⟨ap, cp, ah, ch, ab, cb, aa, ca, ac, cc, rfl, rfl, rfl, rfl, rfl⟩ := d1.sl
  have bb := below_box w4 (.cells (jrC (.slice ap P.length cp) (.slice ah H.length ch) (.slice ab B.length cb) e ph (.slice aa ak.length ca) (.slice ac cm.length cc)) 42)
  have D4 := hide (d1.rd.below bb)
  have A4 := hide ((A3.out.add q (TJrn.st _ _ _ _ _ _ _ _ _ _) d1).box (jrC (.slice ap P.length cp) (.slice ah H.length ch) (.slice ab B.length cb) e ph (.slice aa ak.length ca) (.slice ac cm.length cc)) 42)
  clear q A3 d1 bb x0 x1 x2 x3 x4 x5 x6
  obtain ⟨x0, x1, x2, x3, x4, x5, x6⟩ := (A4.out.atBox 0 rfl).c7
  go_wp2_with fail
  refine (goodJournal_calls _ _ _ _ _ e ph P H B ak cm t _ D4.out SZ.out.1.2.2 HT.out).mono ?_
  rintro x w5 ⟨rfl, q⟩
  have A5 := hide (A4.out.step q)
  have D5 := hide (D4.out.below q)
  clear q A4 D4 x0 x1 x2 x3 x4 x5 x6
  have tt : (t != t) = false := by simp
  go_wp2
  have F : Hid (∀ w', Below w5.heap.size w5 w' → ((w'.cell? ⟨w.heap.size, 0, none⟩ = some (p) ∧ w'.cell? ⟨w.heap.size, 1, none⟩ = some (h) ∧ w'.cell? ⟨w.heap.size, 2, none⟩ = some (b) ∧ w'.cell? ⟨w.heap.size, 3, none⟩ = some (.int .i64 e) ∧ w'.cell? ⟨w.heap.size, 4, none⟩ = some (.int .i64 ph) ∧ w'.cell? ⟨w.heap.size, 5, none⟩ = some (a) ∧ w'.cell? ⟨w.heap.size, 6, none⟩ = some (c)) ∧ (w'.cell? ⟨w4.heap.size, 0, none⟩ = some (.slice ap P.length cp) ∧ w'.cell? ⟨w4.heap.size, 1, none⟩ = some (.slice ah H.length ch) ∧ w'.cell? ⟨w4.heap.size, 2, none⟩ = some (.slice ab B.length cb) ∧ w'.cell? ⟨w4.heap.size, 3, none⟩ = some (.int .i64 e) ∧ w'.cell? ⟨w4.heap.size, 4, none⟩ = some (.int .i64 ph) ∧ w'.cell? ⟨w4.heap.size, 5, none⟩ = some (.slice aa ak.length ca) ∧ w'.cell? ⟨w4.heap.size, 6, none⟩ = some (.slice ac cm.length cc)))) :=
    fun w' hb => ⟨((A5.out.step hb).atBox 3 rfl).c7, ((A5.out.step hb).atBox 0 rfl).c7⟩
  go_region_held3 (fun w' => ((w'.cell? ⟨w.heap.size, 0, none⟩ = some (p) ∧ w'.cell? ⟨w.heap.size, 1, none⟩ = some (h) ∧ w'.cell? ⟨w.heap.size, 2, none⟩ = some (b) ∧ w'.cell? ⟨w.heap.size, 3, none⟩ = some (.int .i64 e) ∧ w'.cell? ⟨w.heap.size, 4, none⟩ = some (.int .i64 ph) ∧ w'.cell? ⟨w.heap.size, 5, none⟩ = some (a) ∧ w'.cell? ⟨w.heap.size, 6, none⟩ = some (c)) ∧ (w'.cell? ⟨w4.heap.size, 0, none⟩ = some (.slice ap P.length cp) ∧ w'.cell? ⟨w4.heap.size, 1, none⟩ = some (.slice ah H.length ch) ∧ w'.cell? ⟨w4.heap.size, 2, none⟩ = some (.slice ab B.length cb) ∧ w'.cell? ⟨w4.heap.size, 3, none⟩ = some (.int .i64 e) ∧ w'.cell? ⟨w4.heap.size, 4, none⟩ = some (.int .i64 ph) ∧ w'.cell? ⟨w4.heap.size, 5, none⟩ = some (.slice aa ak.length ca) ∧ w'.cell? ⟨w4.heap.size, 6, none⟩ = some (.slice ac cm.length cc)))) (first | exact F.out _ (Below.refl _ _).drew | exact F.out _ B2.out | exact F.out _ B1.out)
    ((first | (go_at_call 28; refine (eqJournal_same _ _ _ _ _ _ _ _ _ _ e ph P H B ak cm _ (D5.out.below B1.out) D6.out).mono ?_; rintro x' w7 ⟨rfl, b7⟩; have B2 := hide (B1.out.trans (b7.mono B1.out.size)); clear b7) | (go_at_call 26; refine (toJournal_calls p h b a c e ph P H B ak cm _ (D.out.below (A5.out.step (Below.refl _ _).drew).below) SZ.out).mono ?_; rintro x' w6 ⟨p3, h3, b3, a3, c3, rfl, d6, b6⟩; have D6 := hide d6.rd; have B1 := hide ((Below.refl w5.heap.size w5).drew.trans b6); clear b6 d6)))
  go_wp2
  go_ret
  exact ⟨rfl, (A5.out.step B2.out).below⟩
end Go.Proofs.Ytpgmocogffolaaa

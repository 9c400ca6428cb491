/-
  The law that holds the program's GoodScrub against its model's: at every scrub the call returns true, and nothing that was there is written. No condition.
-/
import Derived.Test.YtpgmocogffolaaaGoodScrubB17
import Derived.Deep.RegionHeld3
namespace Go.Proofs.Ytpgmocogffolaaa
open Go.RowKit
set_option linter.unusedVariables false
set_option linter.unusedSimpArgs false

set_option maxRecDepth 100000 in
set_option maxHeartbeats 3200000 in
theorem fnExactGoodScrub_walk (p h b e : Value) (cu me : Int) (P H : List ByteArray) (B : List Bool) (es : List Int) (w : World) (d : RdSc w p h b e P H B es) :
    Calls Try.prog 7 #[.agg (scC p h b e cu me)] w fun x w' => x = .returned (.bool true) ∧ Below w.heap.size w w' := by
  have D := hide d
  clear d
  obtain ⟨t, ht⟩ := bol_exS (scOk P H B es cu me)
  have C1 := hide (fun W p h b e q => sGoodScrub_calls p h b e cu me P H B es t W q ht)
  have C2 := hide (fun W p h b e q => goodScrub_calls p h b e cu me P H B es t W q ht)
  clear ht
  have A0 := hide ((Hand.start w).box (scC p h b e cu me) 53)
  go_enter Try.func7, Try.ntmps7
  obtain ⟨caS0, caS1, caS2, caS3, caS4, caS5⟩ := (A0.out.atBox 0 rfl).c6
  go_wp2_with fail
  refine (szScrub_calls p h b e cu me P H B es _ (D.out.below A0.out.below)).mono ?_
  rintro e w1 ⟨⟨r, rfl, hr⟩, q⟩
  have A1 := hide (A0.out.step q)
  clear A0 caS0 caS1 caS2 caS3 caS4 caS5 q
  by_cases r0 : r < 0
  · go_wp2
    go_ret
    exact ⟨rfl, A1.out.below⟩
  have SZ := hide (hr.resolve_left r0).2.2
  have r1 := (hr.resolve_left r0).2.1
  clear hr
  obtain ⟨caS0, caS1, caS2, caS3, caS4, caS5⟩ := (A1.out.atBox 0 rfl).c6
  go_wp2_with fail
  refine (toScrub_calls p h b e cu me P H B es _ (D.out.below A1.out.below) SZ.out).mono ?_
  rintro e w2 ⟨ps, hs, bs, es, rfl, d, q⟩
  obtain ⟨aps, cps, ahs, chs, abs, cbs, aes, ces, rfl, rfl, rfl, rfl⟩ := d.sl
  have A2 := hide (A1.out.add q (TSrb.st _ _ _ _ _ _ _ _) d)
  clear A1 caS0 caS1 caS2 caS3 caS4 caS5 q d
  obtain ⟨los, his, ds⟩ := A2.out.get 0 rfl
  have Ds : Hid (SrbV _ los his _ _ _ _ P H B es) := ds
  clear ds
  go_wp2_with fail
  refine (C1.out _ _ _ _ _ Ds.out.rd).mono ?_
  rintro e w3 ⟨rfl, q⟩
  have A3 := hide (A2.out.step q)
  clear A2 Ds los his q
  obtain ⟨caS0, caS1, caS2, caS3, caS4, caS5⟩ := (A3.out.atBox 1 rfl).c6
  go_wp2_with fail
  refine (toScrub_calls p h b e cu me P H B es _ (D.out.below A3.out.below) SZ.out).mono ?_
  rintro e w4 ⟨px, hx, bx, ex, rfl, d, q⟩
  obtain ⟨apx, cpx, ahx, chx, abx, cbx, aex, cex, rfl, rfl, rfl, rfl⟩ := d.sl
  have A4 := hide ((A3.out.add q (TSrb.st _ _ _ _ _ _ _ _) d).box (scC (.slice apx P.length cpx) (.slice ahx H.length chx) (.slice abx B.length cbx) (.slice aex es.length cex) cu me) 57)
  clear A3 caS0 caS1 caS2 caS3 caS4 caS5 q d
  obtain ⟨cbx0, cbx1, cbx2, cbx3, cbx4, cbx5⟩ := (A4.out.atBox 0 rfl).c6
  obtain ⟨lox, hix, dx⟩ := A4.out.get 1 rfl
  have Dx : Hid (SrbV _ lox hix _ _ _ _ P H B es) := dx
  clear dx
  go_wp2_with fail
  refine (C2.out _ _ _ _ _ Dx.out.rd).mono ?_
  rintro e w5 ⟨rfl, q⟩
  have A5 := hide (A4.out.step q)
  clear A4 cbx0 cbx1 cbx2 cbx3 cbx4 cbx5 Dx lox hix q
  have tt : (t != t) = false := by simp
  go_wp2
  obtain ⟨lo5, hi5, dd⟩ := A5.out.get 1 rfl
  have D5 : Hid (SrbV _ lo5 hi5 _ _ _ _ P H B es) := dd
  clear dd
  have F : Hid (∀ w', Below w5.heap.size w5 w' → (w'.cell? ⟨w.heap.size, 0, none⟩ = some p ∧ w'.cell? ⟨w.heap.size, 1, none⟩ = some h ∧ w'.cell? ⟨w.heap.size, 2, none⟩ = some b ∧ w'.cell? ⟨w.heap.size, 3, none⟩ = some e ∧ w'.cell? ⟨w.heap.size, 4, none⟩ = some (.int .i64 cu) ∧ w'.cell? ⟨w.heap.size, 5, none⟩ = some (.int .i64 me)) ∧ (w'.cell? ⟨w4.heap.size, 0, none⟩ = some (.slice apx P.length cpx) ∧ w'.cell? ⟨w4.heap.size, 1, none⟩ = some (.slice ahx H.length chx) ∧ w'.cell? ⟨w4.heap.size, 2, none⟩ = some (.slice abx B.length cbx) ∧ w'.cell? ⟨w4.heap.size, 3, none⟩ = some (.slice aex es.length cex) ∧ w'.cell? ⟨w4.heap.size, 4, none⟩ = some (.int .i64 cu) ∧ w'.cell? ⟨w4.heap.size, 5, none⟩ = some (.int .i64 me))) :=
    fun w' hb => ⟨((A5.out.step hb).atBox 3 rfl).c6, ((A5.out.step hb).atBox 0 rfl).c6⟩
  go_region_held3 (fun w' => (w'.cell? ⟨w.heap.size, 0, none⟩ = some p ∧ w'.cell? ⟨w.heap.size, 1, none⟩ = some h ∧ w'.cell? ⟨w.heap.size, 2, none⟩ = some b ∧ w'.cell? ⟨w.heap.size, 3, none⟩ = some e ∧ w'.cell? ⟨w.heap.size, 4, none⟩ = some (.int .i64 cu) ∧ w'.cell? ⟨w.heap.size, 5, none⟩ = some (.int .i64 me)) ∧ (w'.cell? ⟨w4.heap.size, 0, none⟩ = some (.slice apx P.length cpx) ∧ w'.cell? ⟨w4.heap.size, 1, none⟩ = some (.slice ahx H.length chx) ∧ w'.cell? ⟨w4.heap.size, 2, none⟩ = some (.slice abx B.length cbx) ∧ w'.cell? ⟨w4.heap.size, 3, none⟩ = some (.slice aex es.length cex) ∧ w'.cell? ⟨w4.heap.size, 4, none⟩ = some (.int .i64 cu) ∧ w'.cell? ⟨w4.heap.size, 5, none⟩ = some (.int .i64 me))) (first | exact F.out _ (Below.refl _ _).drew | exact F.out _ B2.out | exact F.out _ B1.out)
    ((first | (go_at_call 39; refine (eqScrub_same _ _ _ _ _ _ _ _ cu me P H B es _ (D5.out.below B1.out).rd D6.out.rd).mono ?_; rintro e' wr7 ⟨rfl, b7⟩; have B2 := hide (B1.out.trans (b7.mono B1.out.size)); clear b7) | (go_at_call 37; refine (toScrub_calls p h b e cu me P H B es _ (D.out.below (A5.out.step (Below.refl _ _).drew).below) SZ.out).mono ?_; rintro e' wr6 ⟨p3, h3, b3, e3, rfl, d6, b6⟩; have D6 := hide d6; have B1 := hide ((Below.refl w5.heap.size w5).drew.trans b6); clear b6 d6)))
  have A6 := hide (A5.out.step B2.out)
  clear A5 F B1 B2 D5 D6 lo5 hi5
  go_wp2
  go_ret
  exact ⟨rfl, A6.out.below⟩
end Go.Proofs.Ytpgmocogffolaaa

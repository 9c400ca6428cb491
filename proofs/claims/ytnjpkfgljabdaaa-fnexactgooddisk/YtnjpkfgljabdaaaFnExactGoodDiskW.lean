/-
  The law that holds the program's GoodDisk against its model's: at every disk the call returns true, and nothing that was there is written. No condition.
-/
import Derived.Test.YtnjpkfgljabdaaaDge
namespace Go.Proofs.Ytnjpkfgljabdaaa
open Go.RowKit
set_option linter.unusedVariables false

theorem gk_bool (P H : List ByteArray) (B : List Bool) : ∃ g : Bool, g = true ↔ gkP P H B := by
  by_cases hh : gkP P H B
  · exact ⟨true, fun _ => hh, fun _ => rfl⟩
  · exact ⟨false, fun h => by simp at h, fun h => absurd h hh⟩

set_option maxRecDepth 100000 in
set_option maxHeartbeats 1600000 in
theorem fnExactGoodDisk_walk (p h b : Value) (P H : List ByteArray) (B : List Bool) (w : World) (hp : RdT w p P) (hh : RdT w h H) (hb : RdZ w b B) :
    Calls Try.prog 4 #[.agg #[p, h, b]] w fun e w' => e = .returned (.bool true) ∧ Below w.heap.size w w' := by
  have RP := hide hp
  have RH := hide hh
  have RB := hide hb
  obtain ⟨g, hg⟩ := gk_bool P H B
  have HG := hide hg
  clear hp hh hb hg
  have A0 := hide ((Hand.start w).box #[p, h, b] 31)
  go_enter Try.func4, Try.ntmps4
  go_wp2_with fail
  refine (szDisk_calls p h b P H B _ (RP.out.below A0.out.below) (RH.out.below A0.out.below) (RB.out.below A0.out.below)).mono ?_
  rintro e w1 ⟨⟨r, rfl, hr⟩, b1⟩
  have A1 := hide (A0.out.step b1)
  clear b1 A0
  by_cases r0 : r < 0
  · go_wp2
    go_ret
    exact ⟨rfl, A1.out.below⟩
  have SZ := hide (hr.resolve_left r0).2.2
  have r1 := (hr.resolve_left r0).2.1
  clear hr
  obtain ⟨c0, c1, c2⟩ := (A1.out.atBox 0 rfl).c3
  go_wp2_with fail
  refine (toDisk_calls p h b P H B _ (RP.out.below A1.out.below) (RH.out.below A1.out.below) (RB.out.below A1.out.below) SZ.out).mono ?_
  rintro e w2 ⟨p1, h1, b1', rfl, d1, b1⟩
  have A2 := hide (A1.out.add b1 (TDsk.st _ _ _ _ _ _) d1)
  clear b1 A1 d1 c0 c1 c2
  obtain ⟨lo, hi, d1⟩ := A2.out.get 0 rfl
  have D1 : Hid (DskV w2 lo hi p1 h1 b1' P H B) := d1
  clear d1
  go_wp2_with fail
  refine (sGoodDisk_calls p1 h1 b1' P H B g _ HG.out D1.out.rp D1.out.rh D1.out.rb).mono ?_
  rintro e w3 ⟨rfl, b1⟩
  have A3 := hide (A2.out.step b1)
  clear b1 A2 D1
  obtain ⟨c0, c1, c2⟩ := (A3.out.atBox 1 rfl).c3
  go_wp2_with fail
  refine (toDisk_calls p h b P H B _ (RP.out.below A3.out.below) (RH.out.below A3.out.below) (RB.out.below A3.out.below) SZ.out).mono ?_
  rintro e w4 ⟨p2, h2, b2', rfl, d1, b1⟩
  obtain ⟨ap2, cp2, ah2, ch2, ab2, cb2, hp2, hh2, hb2⟩ := d1.sl
  have A4 := hide ((A3.out.add b1 (TDsk.st _ _ _ _ _ _) d1).box #[p2, h2, b2'] 25)
  clear b1 A3 d1 c0 c1 c2
  subst hp2 hh2 hb2
  obtain ⟨lo2, hi2, d2⟩ := A4.out.get 1 rfl
  have D2 : Hid (DskV _ lo2 hi2 _ _ _ P H B) := d2
  clear d2
  go_wp2_with fail
  refine (goodDisk_calls _ _ _ P H B g _ HG.out D2.out.rp D2.out.rh D2.out.rb).mono ?_
  rintro e w5 ⟨rfl, b1⟩
  have A5 := hide (A4.out.step b1)
  have D5 := hide (D2.out.below b1)
  clear b1 A4 D2
  go_wp2
  have F : Hid (∀ w', Below w5.heap.size w5 w' → (w'.cell? ⟨w.heap.size, 0, none⟩ = some p ∧ w'.cell? ⟨w.heap.size, 1, none⟩ = some h ∧ w'.cell? ⟨w.heap.size, 2, none⟩ = some b) ∧ (w'.cell? ⟨w4.heap.size, 0, none⟩ = some (.slice ap2 P.length cp2) ∧ w'.cell? ⟨w4.heap.size, 1, none⟩ = some (.slice ah2 H.length ch2) ∧ w'.cell? ⟨w4.heap.size, 2, none⟩ = some (.slice ab2 B.length cb2))) :=
    fun w' hb => ⟨((A5.out.step hb).atBox 3 rfl).c3, ((A5.out.step hb).atBox 0 rfl).c3⟩
  go_region_held3 (fun w' => (w'.cell? ⟨w.heap.size, 0, none⟩ = some p ∧ w'.cell? ⟨w.heap.size, 1, none⟩ = some h ∧ w'.cell? ⟨w.heap.size, 2, none⟩ = some b) ∧ (w'.cell? ⟨w4.heap.size, 0, none⟩ = some (.slice ap2 P.length cp2) ∧ w'.cell? ⟨w4.heap.size, 1, none⟩ = some (.slice ah2 H.length ch2) ∧ w'.cell? ⟨w4.heap.size, 2, none⟩ = some (.slice ab2 B.length cb2))) (first | exact F.out _ (Below.refl _ _).drew | exact F.out _ B2.out | exact F.out _ B1.out)
    ((first | (go_at_call 12; refine (eqDisk_same _ _ _ _ _ _ P H B _ (D5.out.below B1.out).rp (D5.out.below B1.out).rh (D5.out.below B1.out).rb D6.out.rp D6.out.rh D6.out.rb).mono ?_; rintro e' w7 ⟨rfl, b7⟩; have B2 := hide (B1.out.trans (b7.mono B1.out.size)); clear b7) | (go_at_call 17; refine (toDisk_calls p h b P H B _ (RP.out.below (A5.out.step (Below.refl _ _).drew).below) (RH.out.below (A5.out.step (Below.refl _ _).drew).below) (RB.out.below (A5.out.step (Below.refl _ _).drew).below) SZ.out).mono ?_; rintro e' w6 ⟨p3, h3, b3, rfl, d6, b6⟩; have D6 := hide d6; have B1 := hide ((Below.refl w5.heap.size w5).drew.trans b6); clear b6 d6)))
  go_wp2
  go_ret
  exact ⟨rfl, (A5.out.step B2.out).below⟩
end Go.Proofs.Ytnjpkfgljabdaaa

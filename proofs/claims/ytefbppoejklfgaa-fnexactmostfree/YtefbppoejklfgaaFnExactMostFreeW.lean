/-
  The law that holds the program's MostFree against its model's: at any rooms the call returns true, and nothing that was there is written. No condition.
-/
import Derived.Test.YtefbppoejklfgaaRmu
namespace Go.Proofs.Ytefbppoejklfgaa
open Go.RowKit
set_option linter.unusedVariables false

set_option maxRecDepth 100000 in
set_option maxHeartbeats 3200000 in
theorem fnExactMostFree_walk (f h : Value) (m : List (List Int)) (hs : List Hl) (w : World) (hf : RdM w f m) (hh : RdH w h hs) :
    Calls Try.prog 11 #[.agg #[f, h]] w fun e w' => e = .returned (.bool true) ∧ Below w.heap.size w w' := by
  have RF := hide hf
  have RH := hide hh
  clear hf hh
  obtain ⟨ok, hok⟩ := bol_exR (RoomsOk m hs)
  obtain ⟨ans, hans⟩ : ∃ x, x = bif ok then mfS m 6 else 0 := ⟨_, rfl⟩
  have C1 : Hid (∀ (z : m.length + tot m ≤ 1048576 ∧ hs.length ≤ 1048576) V p q (h1 : RdM V p m) (h2 : RdH V q hs), Calls Try.prog 37 #[.agg #[p, q]] V fun e w' => e = .returned (.tuple #[.int .i64 ans, .bool ok]) ∧ Below V.heap.size V w') := fun z V p q h1 h2 => by rw [hans]; exact sMostFree_calls p q m hs ok V h1 h2 z.1 z.2 hok
  have C2 : Hid (∀ (z : m.length + tot m ≤ 1048576 ∧ hs.length ≤ 1048576) V p q (h1 : RdM V p m) (h2 : RdH V q hs), Calls Try.prog 38 #[.agg #[p, q]] V fun e w' => e = .returned (.tuple #[.int .i64 ans, .bool ok]) ∧ Below V.heap.size V w') := fun z V p q h1 h2 => by rw [hans]; exact mostFree_calls p q m hs ok V h1 h2 z.1 z.2 hok
  clear hok hans
  have A0 := hide ((Hand.start w).box #[f, h] 32)
  go_enter Try.func11, Try.ntmps11
  go_wp2_with fail
  refine (szRooms_calls f h m hs _ (RF.out.below A0.out.below) (RH.out.below A0.out.below)).mono ?_
  rintro e w1 ⟨⟨r1, rfl, hr⟩, q⟩
  have A1 := hide (A0.out.step q)
  clear A0 q
  by_cases r0 : r1 < 0
  · go_wp2
    go_ret
    exact ⟨rfl, A1.out.below⟩
  have SZ := hide (hr.resolve_left r0).2
  clear hr
  have C1 := hide (C1.out SZ.out)
  have C2 := hide (C2.out SZ.out)
  obtain ⟨caT0, caT1⟩ := (A1.out.atBox 0 rfl).c2
  go_wp2_with fail
  refine (toRooms_calls f h m hs _ (RF.out.below A1.out.below) (RH.out.below A1.out.below) SZ.out.1 SZ.out.2).mono ?_
  rintro e w2 ⟨lX, rX, rfl, d, q⟩
  obtain ⟨alX, clX, arX, crX, rfl, rfl⟩ := d.sl
  have ltX := q.size
  (try simp only [World.size_alloc] at ltX)
  have A2 := hide (A1.out.add q (TRom.st _ _ _ _) d)
  clear A1 caT0 caT1 q d
  obtain ⟨loX, hiX, dX⟩ := A2.out.get 0 rfl
  have DX : Hid (RomV _ loX hiX _ _ m hs) := dX
  clear dX
  go_wp2_with fail
  refine (C1.out _ _ _ DX.out.rf DX.out.rh).mono ?_
  rintro e w3 ⟨rfl, q⟩
  have A3 := hide (A2.out.step q)
  clear A2 DX loX hiX q
  obtain ⟨caT0, caT1⟩ := (A3.out.atBox 1 rfl).c2
  go_wp2_with fail
  refine (toRooms_calls f h m hs _ (RF.out.below A3.out.below) (RH.out.below A3.out.below) SZ.out.1 SZ.out.2).mono ?_
  rintro e w4 ⟨lx, rx, rfl, d, q⟩
  obtain ⟨alx, clx, arx, crx, rfl, rfl⟩ := d.sl
  have ltx := q.size
  (try simp only [World.size_alloc] at ltx)
  have A4 := hide ((A3.out.add q (TRom.st _ _ _ _) d).box #[.slice alx m.length clx, .slice arx hs.length crx] 25)
  clear A3 caT0 caT1 q d
  obtain ⟨cbx0, cbx1⟩ := (A4.out.atBox 0 rfl).c2
  obtain ⟨lox, hix, dx⟩ := A4.out.get 1 rfl
  have Dx : Hid (RomV _ lox hix _ _ m hs) := dx
  clear dx
  go_wp2_with fail
  refine (C2.out _ _ _ Dx.out.rf Dx.out.rh).mono ?_
  rintro e w5 ⟨rfl, q⟩
  have A5 := hide (A4.out.step q)
  clear A4 cbx0 cbx1 Dx lox hix q
  go_wp2
  obtain ⟨lo, hi, dd⟩ := A5.out.get 1 rfl
  have D5 : Hid (RomV _ lo hi _ _ m hs) := dd
  clear dd
  have F : Hid (∀ w', Below w5.heap.size w5 w' → (w'.cell? ⟨w.heap.size, 0, none⟩ = some f ∧ w'.cell? ⟨w.heap.size, 1, none⟩ = some h) ∧ (w'.cell? ⟨w4.heap.size, 0, none⟩ = some (.slice alx m.length clx) ∧ w'.cell? ⟨w4.heap.size, 1, none⟩ = some (.slice arx hs.length crx))) :=
    fun w' hb => ⟨((A5.out.step hb).atBox 3 rfl).c2, ((A5.out.step hb).atBox 0 rfl).c2⟩
  go_region_held3 (fun w' => (w'.cell? ⟨w.heap.size, 0, none⟩ = some f ∧ w'.cell? ⟨w.heap.size, 1, none⟩ = some h) ∧ (w'.cell? ⟨w4.heap.size, 0, none⟩ = some (.slice alx m.length clx) ∧ w'.cell? ⟨w4.heap.size, 1, none⟩ = some (.slice arx hs.length crx))) (first | exact F.out _ (Below.refl _ _).drew | exact F.out _ B2.out | exact F.out _ B1.out)
    ((first | (go_at_call 14; refine (eqRooms_same _ _ _ _ m hs _ (D5.out.below B1.out).rf (D5.out.below B1.out).rh D6.out.rf D6.out.rh).mono ?_; rintro e' wr7 ⟨rfl, b7⟩; have B2 := hide (B1.out.trans (b7.mono B1.out.size)); clear b7) | (go_at_call 19; refine (toRooms_calls f h m hs _ (RF.out.below (A5.out.step (Below.refl _ _).drew).below) (RH.out.below (A5.out.step (Below.refl _ _).drew).below) SZ.out.1 SZ.out.2).mono ?_; rintro e' wr6 ⟨p3, h3, rfl, d6, b6⟩; have D6 := hide d6; have B1 := hide ((Below.refl w5.heap.size w5).drew.trans b6); clear b6 d6)))
  have A6 := hide (A5.out.step B2.out)
  clear A5 F B1 B2 D5 D6 lo hi
  go_wp2
  go_ret
  exact ⟨rfl, A6.out.below⟩
end Go.Proofs.Ytefbppoejklfgaa

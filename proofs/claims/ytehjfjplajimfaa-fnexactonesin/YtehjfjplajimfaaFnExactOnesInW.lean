/-
  The law that holds the program's OnesIn against its model's: at every filter the call returns true, and nothing that was there is written. No condition.
-/
import Derived.Test.YtehjfjplajimfaaFlf
import Derived.Test.YtehjfjplajimfaaFlj
namespace Go.Proofs.Ytehjfjplajimfaa
open Go.RowKit
set_option linter.unusedVariables false

set_option maxRecDepth 100000 in
set_option maxHeartbeats 3200000 in
theorem fnExactOnesIn_walk (f : Value) (fs : List Bool) (w : World) (hf : RdZ w f fs) :
    Calls Try.prog 13 #[.agg #[f]] w fun e w' => e = .returned (.bool true) ∧ Below w.heap.size w w' := by
  have RF := hide hf
  clear hf
  obtain ⟨ok, hok⟩ := bol_ex (fs.length = 64)
  obtain ⟨n, hn⟩ : ∃ n, n = ((gX ok (selF 0 fs)).length : Int) := ⟨_, rfl⟩
  have C1 := hide (fun V p h => sOnesIn_calls p fs ok n V h hok hn)
  have C2 := hide (fun V p h => onesIn_calls p fs ok n V h hok hn)
  clear hok hn
  have A0 := hide ((Hand.start w).box #[f] 51)
  go_enter Try.func13, Try.ntmps13
  go_wp2_with fail
  refine (szFilter_calls f fs 1048576 _ (RF.out.below A0.out.below) (by omega) (by omega)).mono ?_
  rintro e w1 ⟨⟨r1, rfl, hr⟩, q⟩
  have A1 := hide (A0.out.step q)
  clear A0 q
  by_cases r0 : r1 < 0
  · go_wp2
    go_ret
    exact ⟨rfl, A1.out.below⟩
  have SZ := hide (hr.resolve_left r0).2.2
  clear hr
  have caF0 := (A1.out.atBox 0 rfl).c1
  go_wp2_with fail
  refine (toFilter_calls f fs _ (RF.out.below A1.out.below) SZ.out).mono ?_
  rintro e w2 ⟨vX0, rfl, o, q⟩
  obtain ⟨aX0, cX0, rfl⟩ := row_slice o
  have ltX0 := q.size
  (try simp only [World.size_alloc] at ltX0)
  have A2 := hide (A1.out.add q (TBols.st _ _) ⟨o, row_top o⟩)
  clear A1 caF0 q o
  obtain ⟨loX0, hiX0, dX0⟩ := A2.out.get 0 rfl
  have DX0 := hide (OwnZ.rd dX0.1)
  clear dX0
  go_wp2_with fail
  refine (C1.out _ _ DX0.out).mono ?_
  rintro e w3 ⟨rfl, q⟩
  have A3 := hide (A2.out.step q)
  clear A2 DX0 loX0 hiX0 q
  have caF0 := (A3.out.atBox 1 rfl).c1
  go_wp2_with fail
  refine (toFilter_calls f fs _ (RF.out.below A3.out.below) SZ.out).mono ?_
  rintro e w4 ⟨vx, rfl, o, q⟩
  obtain ⟨ax, cx, rfl⟩ := row_slice o
  have ltx := q.size
  (try simp only [World.size_alloc] at ltx)
  have A4 := hide ((A3.out.add q (TBols.st _ _) ⟨o, row_top o⟩).box #[.slice ax fs.length cx] 46)
  clear A3 caF0 q o
  have cbx0 := (A4.out.atBox 0 rfl).c1
  obtain ⟨lox, hix, dx⟩ := A4.out.get 1 rfl
  have Dx := hide (OwnZ.rd dx.1)
  clear dx
  go_wp2_with fail
  refine (C2.out _ _ Dx.out).mono ?_
  rintro e w5 ⟨rfl, q⟩
  have A5 := hide (A4.out.step q)
  clear A4 cbx0 Dx lox hix q
  go_wp2
  obtain ⟨lo, hi, dd⟩ := A5.out.get 1 rfl
  have D5 := hide (OwnZ.rd dd.1)
  clear dd
  have F : Hid (∀ w', Below w5.heap.size w5 w' → w'.cell? ⟨w.heap.size, 0, none⟩ = some f ∧ w'.cell? ⟨w4.heap.size, 0, none⟩ = some (.slice ax fs.length cx)) :=
    fun w' hb => ⟨((A5.out.step hb).atBox 3 rfl).c1, ((A5.out.step hb).atBox 0 rfl).c1⟩
  go_region_held3 (fun w' => w'.cell? ⟨w.heap.size, 0, none⟩ = some f ∧ w'.cell? ⟨w4.heap.size, 0, none⟩ = some (.slice ax fs.length cx)) (first | exact F.out _ (Below.refl _ _).drew | exact F.out _ B2.out | exact F.out _ B1.out)
    ((first | (go_at_call 31; refine (eqFilter_same _ _ fs _ (D5.out.below B1.out) D6.out).mono ?_; rintro e' wr7 ⟨rfl, b7⟩; have B2 := hide (B1.out.trans (b7.mono B1.out.size)); clear b7) | (go_at_call 36; refine (toFilter_calls f fs _ (RF.out.below (A5.out.step (Below.refl _ _).drew).below) SZ.out).mono ?_; rintro e' wr6 ⟨p3, rfl, d6, b6⟩; have D6 := hide (OwnZ.rd d6); have B1 := hide ((Below.refl w5.heap.size w5).drew.trans b6); clear b6 d6)))
  have A6 := hide (A5.out.step B2.out)
  clear A5 F B1 B2 D5 D6 lo hi
  go_wp2
  go_ret
  exact ⟨rfl, A6.out.below⟩
end Go.Proofs.Ytehjfjplajimfaa

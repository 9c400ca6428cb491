/-
  The law that holds the program's PutFilter against its model's: at every filter and key the call returns true, and nothing that was there is written. No condition.
-/
import Derived.Test.YtehjfjplajimfaaFlf
import Derived.Test.YtehjfjplajimfaaFlg
namespace Go.Proofs.Ytehjfjplajimfaa
open Go.RowKit
set_option linter.unusedVariables false

set_option maxRecDepth 100000 in
set_option maxHeartbeats 3200000 in
theorem fnExactPutFilter_walk (f : Value) (fs : List Bool) (k : Int) (w : World) (hf : RdZ w f fs) :
    Calls Try.prog 8 #[.agg #[f], .int .i64 k] w fun e w' => e = .returned (.bool true) ∧ Below w.heap.size w w' := by
  have RF := hide hf
  clear hf
  obtain ⟨ok, hok⟩ := bol_ex (fs.length = 64 ∧ kOk k)
  obtain ⟨X, hX⟩ : ∃ X, X = gX ok (rchN fs (bK k)) := ⟨_, rfl⟩
  have C1 := hide (fun V p h => sPutFilter_calls p fs k ok V h hok)
  have C2 := hide (fun V p h => putFilter_calls p fs k ok V h hok)
  rw [← hX] at C1 C2
  have XL : X.length ≤ 1048576 := by
    rw [hX]
    cases ok with
    | false => rw [gX_false]; exact Nat.zero_le _
    | true => rw [gX_true]; rw [rchN_len]; have := (hok.1 rfl).1; omega
  clear hX hok
  have A0 := hide ((Hand.start w).box #[f] 51)
  go_enter Try.func8, Try.ntmps8
  go_wp2_with fail
  refine (szFilter_calls f fs 1048576 _ (RF.out.below A0.out.below) (by omega) (by omega)).mono ?_
  rintro e w1 ⟨⟨r1, rfl, hr⟩, q⟩
  have A1 := hide (A0.out.step q)
  clear A0 q
  by_cases r0 : r1 < 0
  · go_wp2
    go_ret
    exact ⟨rfl, A1.out.below⟩
  have SZ := hide (hr.resolve_left r0).2.2
  clear hr
  have caF0 := (A1.out.atBox 0 rfl).c1
  go_wp2_with fail
  refine (toFilter_calls f fs _ (RF.out.below A1.out.below) SZ.out).mono ?_
  rintro e w2 ⟨vX0, rfl, o, q⟩
  obtain ⟨aX0, cX0, rfl⟩ := row_slice o
  have ltX0 := q.size
  (try simp only [World.size_alloc] at ltX0)
  have A2 := hide (A1.out.add q (TBols.st _ _) ⟨o, row_top o⟩)
  clear A1 caF0 q o
  obtain ⟨loX0, hiX0, dX0⟩ := A2.out.get 0 rfl
  have DX0 := hide (OwnZ.rd dX0.1)
  clear dX0
  go_wp2_with fail
  refine (C1.out _ _ DX0.out).mono ?_
  rintro e w3 ⟨vW, rfl, o, q⟩
  obtain ⟨aW, cW, rfl⟩ := row_slice o
  have ltW := q.size
  (try simp only [World.size_alloc] at ltW)
  have A3 := hide ((A2.out.add q (TBols.st _ _) ⟨o, row_top o⟩).box #[.slice aW X.length cW] 46)
  clear A2 DX0 loX0 hiX0 q o
  have caF0 := (A3.out.atBox 3 rfl).c1
  go_wp2_with fail
  refine (toFilter_calls f fs _ (RF.out.below A3.out.below) SZ.out).mono ?_
  rintro e w4 ⟨vx, rfl, o, q⟩
  obtain ⟨ax, cx, rfl⟩ := row_slice o
  have ltx := q.size
  (try simp only [World.size_alloc] at ltx)
  have A4 := hide ((A3.out.add q (TBols.st _ _) ⟨o, row_top o⟩).box #[.slice ax fs.length cx] 46)
  clear A3 caF0 q o
  have cbx0 := (A4.out.atBox 0 rfl).c1
  obtain ⟨lox, hix, dx⟩ := A4.out.get 1 rfl
  have Dx := hide (OwnZ.rd dx.1)
  clear dx
  go_wp2_with fail
  refine (C2.out _ _ Dx.out).mono ?_
  rintro e w5 ⟨vg, rfl, o, q⟩
  obtain ⟨ag, cg, rfl⟩ := row_slice o
  have ltg := q.size
  (try simp only [World.size_alloc] at ltg)
  have A5 := hide ((A4.out.add q (TBols.st _ _) ⟨o, row_top o⟩).box #[.slice ag X.length cg] 46)
  clear A4 cbx0 Dx lox hix q o
  have cbg0 := (A5.out.atBox 0 rfl).c1
  have cbW0 := (A5.out.atBox 4 rfl).c1
  obtain ⟨log, hig, dg⟩ := A5.out.get 1 rfl
  have Dg := hide (OwnZ.rd dg.1)
  clear dg
  obtain ⟨loW, hiW, dW⟩ := A5.out.get 5 rfl
  have DW := hide (OwnZ.rd dW.1)
  clear dW
  go_wp2_with fail
  refine (eqFilter_same _ _ X _ Dg.out DW.out).mono ?_
  rintro e w6 ⟨rfl, q⟩
  have A6 := hide (A5.out.step q)
  clear A5 cbg0 cbW0 Dg log hig DW loW hiW q
  go_wp2
  obtain ⟨lo, hi, dd⟩ := A6.out.get 3 rfl
  have D5 := hide (OwnZ.rd dd.1)
  clear dd
  have F : Hid (∀ w', Below w6.heap.size w6 w' → w'.cell? ⟨w.heap.size, 0, none⟩ = some f ∧ w'.cell? ⟨w4.heap.size, 0, none⟩ = some (.slice ax fs.length cx)) :=
    fun w' hb => ⟨((A6.out.step hb).atBox 7 rfl).c1, ((A6.out.step hb).atBox 2 rfl).c1⟩
  go_region_held3 (fun w' => w'.cell? ⟨w.heap.size, 0, none⟩ = some f ∧ w'.cell? ⟨w4.heap.size, 0, none⟩ = some (.slice ax fs.length cx)) (first | exact F.out _ (Below.refl _ _).drew | exact F.out _ B2.out | exact F.out _ B1.out)
    ((first | (go_at_call 31; refine (eqFilter_same _ _ fs _ (D5.out.below B1.out) D6.out).mono ?_; rintro e' wr7 ⟨rfl, b7⟩; have B2 := hide (B1.out.trans (b7.mono B1.out.size)); clear b7) | (go_at_call 36; refine (toFilter_calls f fs _ (RF.out.below (A6.out.step (Below.refl _ _).drew).below) SZ.out).mono ?_; rintro e' wr6 ⟨p3, rfl, d6, b6⟩; have D6 := hide (OwnZ.rd d6); have B1 := hide ((Below.refl w6.heap.size w6).drew.trans b6); clear b6 d6)))
  have A7 := hide (A6.out.step B2.out)
  clear A6 F B1 B2 D5 D6 lo hi
  have cbx0 := (A7.out.atBox 2 rfl).c1
  obtain ⟨lox, hix, dx, lw, hw, put⟩ := A7.out.open 3 rfl
  have PUT := hide put
  have HW := hide hw
  have Dx := hide dx.1
  have TDx := hide dx.2
  clear put lw hw dx
  go_wp2_with fail
  refine (markFilter_calls _ fs 1 _ _ _ Dx.out TDx.out HW.out (by omega) (by omega) SZ.out).mono ?_
  rintro e w8 ⟨rfl, o4, g4⟩
  have A8 := hide (PUT.out _ (TBols _ _) (TBols.st _ _) ⟨o4, TDx.out⟩ g4)
  clear A7 cbx0 lox hix PUT HW Dx TDx o4 g4
  have kn : ¬ ((1 : Int) + (fs.length : Int) < 0) := by omega
  have cbg0 := (A8.out.atBox 0 rfl).c1
  have cbW0 := (A8.out.atBox 4 rfl).c1
  obtain ⟨log, hig, dg⟩ := A8.out.get 1 rfl
  have Dg := hide (OwnZ.rd dg.1)
  clear dg
  obtain ⟨loW, hiW, dW⟩ := A8.out.get 5 rfl
  have DW := hide (OwnZ.rd dW.1)
  clear dW
  go_wp2_with fail
  refine (eqFilter_same _ _ X _ Dg.out DW.out).mono ?_
  rintro e w9 ⟨rfl, q⟩
  have A9 := hide (A8.out.step q)
  clear A8 cbg0 cbW0 Dg log hig DW loW hiW q
  have cbg0 := (A9.out.atBox 0 rfl).c1
  obtain ⟨log, hig, dg, lw, hw, put⟩ := A9.out.open 1 rfl
  have PUT := hide put
  have HW := hide hw
  have Dg := hide dg.1
  have TDg := hide dg.2
  clear put lw hw dg
  go_wp2_with fail
  refine (markFilter_calls _ X 1 _ _ _ Dg.out TDg.out HW.out (by omega) (by omega) XL).mono ?_
  rintro e w10 ⟨rfl, o4, g4⟩
  have A10 := hide (PUT.out _ (TBols _ _) (TBols.st _ _) ⟨o4, TDg.out⟩ g4)
  clear A9 cbg0 log hig PUT HW Dg TDg o4 g4
  have xn : ¬ ((1 : Int) + (X.length : Int) < 0) := by omega
  have cbg0 := (A10.out.atBox 0 rfl).c1
  obtain ⟨log, hig, dg⟩ := A10.out.get 1 rfl
  have Dg := hide (OwnZ.rd dg.1)
  clear dg
  go_wp2_with fail
  refine (heldFilter_calls _ X.length 1 _ Dg.out (by omega) (by omega) XL).mono ?_
  rintro e w11 ⟨rfl, q⟩
  have A11 := hide (A10.out.step q)
  clear A10 cbg0 Dg log hig q
  have caF0 := (A11.out.atBox 7 rfl).c1
  go_wp2_with fail
  refine (toFilter_calls f fs _ (RF.out.below A11.out.below) SZ.out).mono ?_
  rintro e w12 ⟨vz, rfl, o, q⟩
  obtain ⟨az, cz, rfl⟩ := row_slice o
  have ltz := q.size
  (try simp only [World.size_alloc] at ltz)
  have A12 := hide (A11.out.add q (TBols.st _ _) ⟨o, row_top o⟩)
  clear A11 caF0 q o
  obtain ⟨loz, hiz, dz⟩ := A12.out.get 0 rfl
  have Dz := hide (OwnZ.rd dz.1)
  clear dz
  go_wp2_with fail
  refine (C2.out _ _ Dz.out).mono ?_
  rintro e w13 ⟨vh, rfl, o, q⟩
  obtain ⟨ah, ch, rfl⟩ := row_slice o
  have lth := q.size
  (try simp only [World.size_alloc] at lth)
  have A13 := hide ((A12.out.add q (TBols.st _ _) ⟨o, row_top o⟩).box #[.slice ah X.length ch] 46)
  clear A12 Dz loz hiz q o
  have cbh0 := (A13.out.atBox 0 rfl).c1
  have cbW0 := (A13.out.atBox 7 rfl).c1
  obtain ⟨loh, hih, dh⟩ := A13.out.get 1 rfl
  have Dh := hide (OwnZ.rd dh.1)
  clear dh
  obtain ⟨loW, hiW, dW⟩ := A13.out.get 8 rfl
  have DW := hide (OwnZ.rd dW.1)
  clear dW
  go_wp2_with fail
  refine (eqFilter_same _ _ X _ Dh.out DW.out).mono ?_
  rintro e w14 ⟨rfl, q⟩
  have A14 := hide (A13.out.step q)
  clear A13 cbh0 cbW0 Dh loh hih DW loW hiW q
  have cbg0 := (A14.out.atBox 3 rfl).c1
  obtain ⟨log, hig, dg⟩ := A14.out.get 4 rfl
  have Dg := hide (OwnZ.rd dg.1)
  clear dg
  go_wp2_with fail
  refine (heldFilter_calls _ X.length 1 _ Dg.out (by omega) (by omega) XL).mono ?_
  rintro e w15 ⟨rfl, q⟩
  have A15 := hide (A14.out.step q)
  clear A14 cbg0 Dg log hig q
  go_wp2
  go_ret
  exact ⟨rfl, A15.out.below⟩
end Go.Proofs.Ytehjfjplajimfaa

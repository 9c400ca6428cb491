/-
  The law that holds the program's FilterOf against its model's: at every list of numbers the call returns true, and nothing that was there is written. No condition.
-/
import Derived.Test.YtehjfjplajimfaaFlf
import Derived.Test.YtehjfjplajimfaaFlj
namespace Go.Proofs.Ytehjfjplajimfaa
open Go.RowKit
set_option linter.unusedVariables false

set_option maxRecDepth 100000 in
set_option maxHeartbeats 3200000 in
theorem fnExactFilterOf_walk (l : Value) (ls : List Int) (w : World) (hl : Rd w l ls) :
    Calls Try.prog 12 #[l] w fun e w' => e = .returned (.bool true) ∧ Below w.heap.size w w' := by
  have RL := hide hl
  obtain ⟨a, cap, rfl, hcap, hcm, _⟩ := hl
  have hm := hcm.1
  unfold maxLen at hm
  clear hcm
  obtain ⟨ok, hok⟩ := bol_ex (ls.length ≤ 80 ∧ ∀ i, i < ls.length → kOk (ls.getD i 0))
  obtain ⟨X, hX⟩ : ∃ X, X = gX ok (kysB no64 ls) := ⟨_, rfl⟩
  have C1 := hide (fun V p h => sFilterOf_calls p ls ok V h hok)
  have C2 := hide (fun V p h => filterOf_calls p ls ok V h hok)
  rw [← hX] at C1 C2
  have XL : X.length ≤ 1048576 := by
    rw [hX]
    cases ok with
    | false => rw [gX_false]; exact Nat.zero_le _
    | true => rw [gX_true]; rw [kysB_len, no64_len]; omega
  clear hX hok
  by_cases hz : ls.length ≤ 1048576
  case neg =>
    have hz' : (1048576 : Int) < (ls.length : Int) := by omega
    go_enter Try.func12, Try.ntmps12
    go_wp2
    go_ret
    exact ⟨rfl, Below.refl _ _⟩
  have hz' : ¬ (1048576 : Int) < (ls.length : Int) := by omega
  have A0 := hide (Hand.start w)
  go_enter Try.func12, Try.ntmps12
  go_wp2_with fail
  refine (toIntS_calls _ ls _ (RL.out.below A0.out.below) hz).mono ?_
  rintro e w1 ⟨vX0, rfl, o, q⟩
  obtain ⟨aX0, cX0, rfl⟩ := row_slice o
  have A1 := hide (A0.out.add q (TInts.st _ _) ⟨o, row_top o⟩)
  clear A0 q o
  obtain ⟨loX0, hiX0, dX0⟩ := A1.out.get 0 rfl
  have DX0 := hide (Own.rd dX0.1)
  clear dX0
  go_wp2_with fail
  refine (C1.out _ _ DX0.out).mono ?_
  rintro e w2 ⟨vW, rfl, o, q⟩
  obtain ⟨aW, cW, rfl⟩ := row_slice o
  have ltW := q.size
  (try simp only [World.size_alloc] at ltW)
  have A2 := hide ((A1.out.add q (TBols.st _ _) ⟨o, row_top o⟩).box #[.slice aW X.length cW] 46)
  clear A1 DX0 loX0 hiX0 q o
  go_wp2_with fail
  refine (toIntS_calls _ ls _ (RL.out.below A2.out.below) hz).mono ?_
  rintro e w3 ⟨vx, rfl, o, q⟩
  obtain ⟨ax, cx, rfl⟩ := row_slice o
  have A3 := hide (A2.out.add q (TInts.st _ _) ⟨o, row_top o⟩)
  clear A2 q o
  obtain ⟨lox, hix, dx⟩ := A3.out.get 0 rfl
  have Dx := hide (Own.rd dx.1)
  clear dx
  go_wp2_with fail
  refine (C2.out _ _ Dx.out).mono ?_
  rintro e w4 ⟨vg, rfl, o, q⟩
  obtain ⟨ag, cg, rfl⟩ := row_slice o
  have ltg := q.size
  (try simp only [World.size_alloc] at ltg)
  have A4 := hide ((A3.out.add q (TBols.st _ _) ⟨o, row_top o⟩).box #[.slice ag X.length cg] 46)
  clear A3 Dx lox hix q o
  have cbg0 := (A4.out.atBox 0 rfl).c1
  have cbW0 := (A4.out.atBox 3 rfl).c1
  obtain ⟨log, hig, dg⟩ := A4.out.get 1 rfl
  have Dg := hide (OwnZ.rd dg.1)
  clear dg
  obtain ⟨loW, hiW, dW⟩ := A4.out.get 4 rfl
  have DW := hide (OwnZ.rd dW.1)
  clear dW
  go_wp2_with fail
  refine (eqFilter_same _ _ X _ Dg.out DW.out).mono ?_
  rintro e w5 ⟨rfl, q⟩
  have A5 := hide (A4.out.step q)
  clear A4 cbg0 cbW0 Dg log hig DW loW hiW q
  go_wp2_with fail
  refine (toIntS_calls _ ls _ (RL.out.below A5.out.below) hz).mono ?_
  rintro e w6 ⟨vy, rfl, o, q⟩
  obtain ⟨ay, cy, rfl⟩ := row_slice o
  have A6 := hide (A5.out.add q (TInts.st _ _) ⟨o, row_top o⟩)
  clear A5 q o
  obtain ⟨lox, hix, dx⟩ := A6.out.get 3 rfl
  have Dx := hide (Own.rd dx.1)
  clear dx
  obtain ⟨loy, hiy, dy⟩ := A6.out.get 0 rfl
  have Dy := hide (Own.rd dy.1)
  clear dy
  go_wp2_with fail
  refine (eqIntS_same _ _ ls _ Dx.out Dy.out).mono ?_
  rintro e w7 ⟨rfl, q⟩
  have A7 := hide (A6.out.step q)
  clear A6 Dx lox hix Dy loy hiy q
  obtain ⟨lox, hix, dx, lw, hw, put⟩ := A7.out.open 3 rfl
  have PUT := hide put
  have HW := hide hw
  have Dx := hide dx.1
  have TDx := hide dx.2
  clear put lw hw dx
  go_wp2_with fail
  refine (markIntS_calls _ ls 1 _ _ Dx.out (by omega) (by omega) (by omega)).mono ?_
  rintro e w8 ⟨rfl, o4, g4⟩
  have A8 := hide (PUT.out _ (TInts _ _) (TInts.st _ _) ⟨o4, TDx.out⟩ (Chg.ofGrown g4 (fun j hj => ⟨row_low Dx.out j hj, TDx.out j hj⟩)))
  clear A7 lox hix PUT HW Dx TDx o4 g4
  have kn : ¬ ((1 : Int) + (ls.length : Int) < 0) := by omega
  have cbg0 := (A8.out.atBox 1 rfl).c1
  have cbW0 := (A8.out.atBox 4 rfl).c1
  obtain ⟨log, hig, dg⟩ := A8.out.get 2 rfl
  have Dg := hide (OwnZ.rd dg.1)
  clear dg
  obtain ⟨loW, hiW, dW⟩ := A8.out.get 5 rfl
  have DW := hide (OwnZ.rd dW.1)
  clear dW
  go_wp2_with fail
  refine (eqFilter_same _ _ X _ Dg.out DW.out).mono ?_
  rintro e w9 ⟨rfl, q⟩
  have A9 := hide (A8.out.step q)
  clear A8 cbg0 cbW0 Dg log hig DW loW hiW q
  have cbg0 := (A9.out.atBox 1 rfl).c1
  obtain ⟨log, hig, dg, lw, hw, put⟩ := A9.out.open 2 rfl
  have PUT := hide put
  have HW := hide hw
  have Dg := hide dg.1
  have TDg := hide dg.2
  clear put lw hw dg
  go_wp2_with fail
  refine (markFilter_calls _ X 1 _ _ _ Dg.out TDg.out HW.out (by omega) (by omega) XL).mono ?_
  rintro e w10 ⟨rfl, o4, g4⟩
  have A10 := hide (PUT.out _ (TBols _ _) (TBols.st _ _) ⟨o4, TDg.out⟩ g4)
  clear A9 cbg0 log hig PUT HW Dg TDg o4 g4
  have xn : ¬ ((1 : Int) + (X.length : Int) < 0) := by omega
  have cbg0 := (A10.out.atBox 1 rfl).c1
  obtain ⟨log, hig, dg⟩ := A10.out.get 2 rfl
  have Dg := hide (OwnZ.rd dg.1)
  clear dg
  go_wp2_with fail
  refine (heldFilter_calls _ X.length 1 _ Dg.out (by omega) (by omega) XL).mono ?_
  rintro e w11 ⟨rfl, q⟩
  have A11 := hide (A10.out.step q)
  clear A10 cbg0 Dg log hig q
  go_wp2_with fail
  refine (toIntS_calls _ ls _ (RL.out.below A11.out.below) hz).mono ?_
  rintro e w12 ⟨vz, rfl, o, q⟩
  obtain ⟨az, cz, rfl⟩ := row_slice o
  have A12 := hide (A11.out.add q (TInts.st _ _) ⟨o, row_top o⟩)
  clear A11 q o
  obtain ⟨loz, hiz, dz⟩ := A12.out.get 0 rfl
  have Dz := hide (Own.rd dz.1)
  clear dz
  go_wp2_with fail
  refine (C2.out _ _ Dz.out).mono ?_
  rintro e w13 ⟨vh, rfl, o, q⟩
  obtain ⟨ah, ch, rfl⟩ := row_slice o
  have lth := q.size
  (try simp only [World.size_alloc] at lth)
  have A13 := hide ((A12.out.add q (TBols.st _ _) ⟨o, row_top o⟩).box #[.slice ah X.length ch] 46)
  clear A12 Dz loz hiz q o
  have cbh0 := (A13.out.atBox 0 rfl).c1
  have cbW0 := (A13.out.atBox 7 rfl).c1
  obtain ⟨loh, hih, dh⟩ := A13.out.get 1 rfl
  have Dh := hide (OwnZ.rd dh.1)
  clear dh
  obtain ⟨loW, hiW, dW⟩ := A13.out.get 8 rfl
  have DW := hide (OwnZ.rd dW.1)
  clear dW
  go_wp2_with fail
  refine (eqFilter_same _ _ X _ Dh.out DW.out).mono ?_
  rintro e w14 ⟨rfl, q⟩
  have A14 := hide (A13.out.step q)
  clear A13 cbh0 cbW0 Dh loh hih DW loW hiW q
  have cbg0 := (A14.out.atBox 4 rfl).c1
  obtain ⟨log, hig, dg⟩ := A14.out.get 5 rfl
  have Dg := hide (OwnZ.rd dg.1)
  clear dg
  go_wp2_with fail
  refine (heldFilter_calls _ X.length 1 _ Dg.out (by omega) (by omega) XL).mono ?_
  rintro e w15 ⟨rfl, q⟩
  have A15 := hide (A14.out.step q)
  clear A14 cbg0 Dg log hig q
  go_wp2
  go_ret
  exact ⟨rfl, A15.out.below⟩
end Go.Proofs.Ytehjfjplajimfaa

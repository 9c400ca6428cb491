/-
  The law that holds the program's NewPool against its model's: the call returns true, and nothing that was there is written. No condition.
-/
import Derived.Test.YthmijjcddjlebaaPle
namespace Go.Proofs.Ythmijjcddjlebaa
open Go.RowKit
set_option linter.unusedVariables false

set_option maxRecDepth 100000 in
set_option maxHeartbeats 3200000 in
theorem fnExactNewPool_walk (w : World) :
    Calls Try.prog 4 #[] w fun e w' => e = .returned (.bool true) ∧ Below w.heap.size w w' := by
  have C1 := hide (fun V => sNewPool_calls V)
  have C2 := hide (fun V => newPool_calls V)
  obtain ⟨X, hX⟩ : ∃ X : List Nd, X = [] := ⟨_, rfl⟩
  obtain ⟨Y, hY⟩ : ∃ Y : List Int, Y = [-1] := ⟨_, rfl⟩
  rw [← hX, ← hY] at C1 C2
  have SX : Hid (SzP X Y) := by rw [hX, hY]; exact ⟨by simp [totN], by simp⟩
  clear hX hY
  have A0 := hide (Hand.start w)
  go_enter Try.func4, Try.ntmps4
  go_wp2_with fail
  refine (C1.out _).mono ?_
  rintro e w1 ⟨pW, rW, rfl, d, q⟩
  obtain ⟨apW, cpW, arW, crW, rfl, rfl⟩ := d.sls
  have ltW := q.size
  (try simp only [World.size_alloc] at ltW)
  have A1 := hide ((A0.out.add q (TPol.st _ _ _ _) d).box #[.slice apW X.length cpW, .slice arW Y.length crW] 43)
  clear A0 q d
  go_wp2_with fail
  refine (C2.out _).mono ?_
  rintro e w2 ⟨pg, rg, rfl, d, q⟩
  obtain ⟨apg, cpg, arg, crg, rfl, rfl⟩ := d.sls
  have ltg := q.size
  (try simp only [World.size_alloc] at ltg)
  have A2 := hide ((A1.out.add q (TPol.st _ _ _ _) d).box #[.slice apg X.length cpg, .slice arg Y.length crg] 43)
  clear A1 q d
  obtain ⟨cbg0, cbg1⟩ := (A2.out.atBox 0 rfl).c2
  obtain ⟨cbW0, cbW1⟩ := (A2.out.atBox 2 rfl).c2
  obtain ⟨log, hig, dg⟩ := A2.out.get 1 rfl
  have Dg := hide (TPol.rd dg)
  clear dg
  obtain ⟨loW, hiW, dW⟩ := A2.out.get 3 rfl
  have DW := hide (TPol.rd dW)
  clear dW
  go_wp2_with fail
  refine (eqPool_same _ _ _ _ X Y _ Dg.out DW.out).mono ?_
  rintro e w3 ⟨rfl, q⟩
  have A3 := hide (A2.out.step q)
  clear A2 cbg0 cbg1 cbW0 cbW1 Dg log hig DW loW hiW q
  obtain ⟨cbg0, cbg1⟩ := (A3.out.atBox 0 rfl).c2
  obtain ⟨log, hig, dg, lw, hw, put⟩ := A3.out.open 1 rfl
  have PUT := hide put
  have HW := hide hw
  clear put lw hw
  have Dg := hide dg
  clear dg
  go_wp2_with fail
  refine (markPool_calls _ _ X Y _ _ _ Dg.out HW.out SX.out).mono ?_
  rintro e w4 ⟨rfl, d4, q⟩
  have A4 := hide (PUT.out _ (TPol _ _ _ _) (TPol.st _ _ _ _) d4 q)
  clear A3 cbg0 cbg1 log hig PUT HW Dg q d4
  obtain ⟨mm, hmm⟩ : ∃ mm, mm = enP X Y := ⟨_, rfl⟩
  rw [← hmm]
  have MM := hide hmm
  clear hmm
  have mn : ¬ ((mm : Int) < 0) := by omega
  obtain ⟨cbg0, cbg1⟩ := (A4.out.atBox 0 rfl).c2
  obtain ⟨log, hig, dg⟩ := A4.out.get 1 rfl
  have Dg := hide (TPol.rd dg)
  clear dg
  go_wp2_with fail
  refine (heldPool_calls _ _ X Y _ Dg.out SX.out).mono ?_
  rintro e w5 ⟨rfl, q⟩
  have A5 := hide (A4.out.step q)
  clear A4 cbg0 cbg1 Dg log hig q
  rw [← MM.out]
  go_wp2_with fail
  refine (C2.out _).mono ?_
  rintro e w6 ⟨ph, rh, rfl, d, q⟩
  obtain ⟨aph, cph, arh, crh, rfl, rfl⟩ := d.sls
  have lth := q.size
  (try simp only [World.size_alloc] at lth)
  have A6 := hide ((A5.out.add q (TPol.st _ _ _ _) d).box #[.slice aph X.length cph, .slice arh Y.length crh] 43)
  clear A5 q d
  obtain ⟨cbh0, cbh1⟩ := (A6.out.atBox 0 rfl).c2
  obtain ⟨cbW0, cbW1⟩ := (A6.out.atBox 4 rfl).c2
  obtain ⟨loh, hih, dh⟩ := A6.out.get 1 rfl
  have Dh := hide (TPol.rd dh)
  clear dh
  obtain ⟨loW, hiW, dW⟩ := A6.out.get 5 rfl
  have DW := hide (TPol.rd dW)
  clear dW
  go_wp2_with fail
  refine (eqPool_same _ _ _ _ X Y _ Dh.out DW.out).mono ?_
  rintro e w7 ⟨rfl, q⟩
  have A7 := hide (A6.out.step q)
  clear A6 cbh0 cbh1 cbW0 cbW1 Dh loh hih DW loW hiW q
  obtain ⟨cbg0, cbg1⟩ := (A7.out.atBox 2 rfl).c2
  obtain ⟨log, hig, dg⟩ := A7.out.get 3 rfl
  have Dg := hide (TPol.rd dg)
  clear dg
  go_wp2_with fail
  refine (heldPool_calls _ _ X Y _ Dg.out SX.out).mono ?_
  rintro e w8 ⟨rfl, q⟩
  have A8 := hide (A7.out.step q)
  clear A7 cbg0 cbg1 Dg log hig q
  rw [← MM.out]
  go_wp2
  go_ret
  exact ⟨rfl, A8.out.below⟩
end Go.Proofs.Ythmijjcddjlebaa

/-
  The law that holds the program's NewTable against its model's: at every seed the call returns true, and nothing that was there is written. No condition.
-/
import Derived.Test.YtnhonnaglmkjaaaTbp
namespace Go.Proofs.Ytnhonnaglmkjaaa
open Go.RowKit
set_option linter.unusedVariables false

set_option maxRecDepth 100000 in
set_option maxHeartbeats 3200000 in
theorem fnExactNewTable_walk (s : Int) (w : World) :
    Calls Try.prog 3 #[.int .i64 s] w fun e w' => e = .returned (.bool true) ∧ Below w.heap.size w w' := by
  obtain ⟨ok, hok⟩ := bol_ex (sdOk s)
  have C1 := hide (fun V => sNewTable_calls s ok V hok)
  have C2 := hide (fun V => newTable_calls s ok V hok)
  have SX : Hid ((rowX ok).length ≤ 1048576 ∧ (rowX ok).length ≤ 1048576) := by cases ok <;> exact ⟨by simp [rowX], by simp [rowX]⟩
  generalize rowX ok = X at C1 C2 SX
  generalize intX ok s = sX at C1 C2
  clear hok
  have A0 := hide (Hand.start w)
  go_enter Try.func3, Try.ntmps3
  go_wp2_with fail
  refine (C1.out _).mono ?_
  rintro e w1 ⟨lW, rW, rfl, d, q⟩
  obtain ⟨alW, clW, arW, crW, rfl, rfl⟩ := d.sl
  have ltW := q.size
  (try simp only [World.size_alloc] at ltW)
  have A1 := hide ((A0.out.add q (TTab.st _ _ _ _) d).box #[.int .i64 sX, .slice alW X.length clW, .slice arW X.length crW, .int .i64 0] 24)
  clear A0 q d
  go_wp2_with fail
  refine (C2.out _).mono ?_
  rintro e w2 ⟨lg, rg, rfl, d, q⟩
  obtain ⟨alg, clg, arg, crg, rfl, rfl⟩ := d.sl
  have ltg := q.size
  (try simp only [World.size_alloc] at ltg)
  have A2 := hide ((A1.out.add q (TTab.st _ _ _ _) d).box #[.int .i64 sX, .slice alg X.length clg, .slice arg X.length crg, .int .i64 0] 24)
  clear A1 q d
  obtain ⟨cbg0, cbg1, cbg2, cbg3⟩ := (A2.out.atBox 0 rfl).c4
  obtain ⟨cbW0, cbW1, cbW2, cbW3⟩ := (A2.out.atBox 2 rfl).c4
  obtain ⟨log, hig, dg⟩ := A2.out.get 1 rfl
  have Dg : Hid (TabV _ log hig _ _ X X) := dg
  clear dg
  obtain ⟨loW, hiW, dW⟩ := A2.out.get 3 rfl
  have DW : Hid (TabV _ loW hiW _ _ X X) := dW
  clear dW
  go_wp2_with fail
  refine (eqTable_same sX 0 _ _ _ _ X X _ Dg.out.rl Dg.out.rr DW.out.rl DW.out.rr).mono ?_
  rintro e w3 ⟨rfl, q⟩
  have A3 := hide (A2.out.step q)
  clear A2 cbg0 cbg1 cbg2 cbg3 cbW0 cbW1 cbW2 cbW3 Dg log hig DW loW hiW q
  obtain ⟨cbg0, cbg1, cbg2, cbg3⟩ := (A3.out.atBox 0 rfl).c4
  obtain ⟨log, hig, dg, lw, hw, put⟩ := A3.out.open 1 rfl
  have PUT := hide put
  have HW := hide hw
  clear put lw hw
  have Dg : Hid (TabV _ log hig _ _ X X) := dg
  clear dg
  go_wp2_with fail
  refine (markTable_calls sX 0 _ _ X X _ _ _ Dg.out HW.out SX.out.1 SX.out.2).mono ?_
  rintro e w4 ⟨rfl, d4, q⟩
  have A4 := hide (PUT.out _ (TTab _ _ _ _) (TTab.st _ _ _ _) d4 q)
  clear A3 cbg0 cbg1 cbg2 cbg3 log hig PUT HW Dg q d4
  obtain ⟨mm, hmm⟩ : ∃ mm, mm = enT X X := ⟨_, rfl⟩
  rw [← hmm]
  have MM := hide hmm
  have mmn : ¬ (mm < 0) := by rw [hmm]; unfold enT; omega
  clear hmm
  obtain ⟨cbg0, cbg1, cbg2, cbg3⟩ := (A4.out.atBox 0 rfl).c4
  obtain ⟨log, hig, dg⟩ := A4.out.get 1 rfl
  have Dg : Hid (TabV _ log hig _ _ (mkS 1 X.length) (mkS (1 + 3 * (X.length : Int)) X.length)) := dg
  clear dg
  go_wp2_with fail
  refine (heldTable_calls sX 0 _ _ X X _ Dg.out.rl Dg.out.rr SX.out.1 SX.out.2).mono ?_
  rintro e w5 ⟨rfl, q⟩
  have A5 := hide (A4.out.step q)
  clear A4 cbg0 cbg1 cbg2 cbg3 Dg log hig q
  rw [← MM.out]
  go_wp2_with fail
  refine (C2.out _).mono ?_
  rintro e w6 ⟨lh, rh, rfl, d, q⟩
  obtain ⟨alh, clh, arh, crh, rfl, rfl⟩ := d.sl
  have lth := q.size
  (try simp only [World.size_alloc] at lth)
  have A6 := hide ((A5.out.add q (TTab.st _ _ _ _) d).box #[.int .i64 sX, .slice alh X.length clh, .slice arh X.length crh, .int .i64 0] 24)
  clear A5 q d
  obtain ⟨cbh0, cbh1, cbh2, cbh3⟩ := (A6.out.atBox 0 rfl).c4
  obtain ⟨cbW0, cbW1, cbW2, cbW3⟩ := (A6.out.atBox 4 rfl).c4
  obtain ⟨loh, hih, dh⟩ := A6.out.get 1 rfl
  have Dh : Hid (TabV _ loh hih _ _ X X) := dh
  clear dh
  obtain ⟨loW, hiW, dW⟩ := A6.out.get 5 rfl
  have DW : Hid (TabV _ loW hiW _ _ X X) := dW
  clear dW
  go_wp2_with fail
  refine (eqTable_same sX 0 _ _ _ _ X X _ Dh.out.rl Dh.out.rr DW.out.rl DW.out.rr).mono ?_
  rintro e w7 ⟨rfl, q⟩
  have A7 := hide (A6.out.step q)
  clear A6 cbh0 cbh1 cbh2 cbh3 cbW0 cbW1 cbW2 cbW3 Dh loh hih DW loW hiW q
  obtain ⟨cbg0, cbg1, cbg2, cbg3⟩ := (A7.out.atBox 2 rfl).c4
  obtain ⟨log, hig, dg⟩ := A7.out.get 3 rfl
  have Dg : Hid (TabV _ log hig _ _ (mkS 1 X.length) (mkS (1 + 3 * (X.length : Int)) X.length)) := dg
  clear dg
  go_wp2_with fail
  refine (heldTable_calls sX 0 _ _ X X _ Dg.out.rl Dg.out.rr SX.out.1 SX.out.2).mono ?_
  rintro e w8 ⟨rfl, q⟩
  have A8 := hide (A7.out.step q)
  clear A7 cbg0 cbg1 cbg2 cbg3 Dg log hig q
  rw [← MM.out]
  go_wp2
  go_ret
  exact ⟨rfl, A8.out.below⟩
end Go.Proofs.Ytnhonnaglmkjaaa

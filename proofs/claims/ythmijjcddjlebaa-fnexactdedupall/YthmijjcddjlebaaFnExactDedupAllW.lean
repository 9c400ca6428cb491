/-
  The law that holds the program's DedupAll against its model's: at all texts the call returns true, and nothing that was there is written. No condition.
-/
import Derived.Test.YthmijjcddjlebaaDem
import Derived.Deep.DeepCutAuto
namespace Go.Proofs.Ythmijjcddjlebaa
open Go.RowKit
set_option linter.unusedVariables false

set_option maxRecDepth 100000 in
set_option maxHeartbeats 3200000 in
theorem fnExactDedupAll_walk (v : Value) (xs : List ByteArray) (w : World) (h : RdT w v xs) :
    Calls Try.prog 12 #[v] w fun e w' => e = .returned (.bool true) ∧ Below w.heap.size w w' := by
  have R := hide h
  have SZX : Hid (∀ s ∈ xs, s.size ≤ maxLen) := by obtain ⟨_, _, _, _, _, h4, _⟩ := h; exact h4
  obtain ⟨av, cv, rfl⟩ := h.sl9
  have C1 := hide (fun V v h => sDedupAll_calls v xs V h)
  have C2 := hide (fun V v h => dedupAll_calls v xs V h)
  obtain ⟨szc, CL, ul⟩ := ded_small xs
  have SZC := hide szc
  have UL := ul
  generalize (dedR xs).1 = C at C1 C2 SZC CL szc
  generalize (dedR xs).2.1 = U at C1 C2 UL ul
  generalize (dedR xs).2.2 = z at C1 C2
  clear h szc ul
  go_enter Try.func12, Try.ntmps12
  go_wp2_with fail
  refine (szStringS9_any _ xs 1048576 _ R.out (by decide) (by decide)).mono ?_
  rintro e w0 ⟨⟨r1, rfl, hr⟩, rfl⟩
  by_cases r0 : r1 < 0
  · go_wp2
    go_ret
    exact ⟨rfl, Below.refl _ _⟩
  have hn : xs.length ≤ 1048576 := (hr.resolve_left r0).2.2
  clear hr
  go_wp2_with fail
  refine (toStringS_calls _ xs _ R.out hn).mono ?_
  rintro e w1 ⟨v1, rfl, o1, b1⟩
  obtain ⟨a1, c1, rfl⟩ := row_slice9 o1
  have D1 := hide (OwnT.rd o1 SZX.out)
  have B1 := hide b1
  clear o1 b1
  go_wp2_with fail
  refine (C1.out _ _ D1.out).mono ?_
  rintro e w2 ⟨vc0, vu0, rfl, rc, ru, b2⟩
  obtain ⟨ac0, cc0, rfl⟩ := rc.sl9
  obtain ⟨au0, cu0, rfl⟩ := ru.sl9
  obtain ⟨w3, hw3⟩ : ∃ u, u = w2.alloc (.cells #[.slice ac0 C.length cc0, .slice au0 U.length cu0] 27) := ⟨_, rfl⟩
  have b3 : Below w2.heap.size w2 w3 := by rw [hw3]; exact below_box _ _
  obtain ⟨g4, hg4⟩ : ∃ u, u = w2.heap.size := ⟨_, rfl⟩
  have x4 : BoxAt w3 g4 #[.slice ac0 C.length cc0, .slice au0 U.length cu0] 27 := by rw [hw3, hg4]; exact BoxAt.new _ _ _
  have W3 : Hid (w2.alloc (.cells #[.slice ac0 C.length cc0, .slice au0 U.length cu0] 27) = w3) := hw3.symm
  have G4 := hide hg4.symm
  have X4 := hide x4
  have RC0 := hide (rc.below b3)
  have RU0 := hide (ru.below b3)
  have BW := hide (B1.out.trans ((b2.trans (b3.mono b2.size)).mono B1.out.size))
  have RA := hide (R.out.below BW.out)
  have A3 := hide (Hand.start w3)
  clear rc ru b2 b3 hw3 hg4 x4 D1 B1 R
  go_upto_region 6 with fail
  rw [W3.out, G4.out]
  go_wp2_with fail
  refine (toStringS_calls _ xs _ (RA.out.below A3.out.below) hn).mono ?_
  rintro e w4 ⟨vx, rfl, o, q⟩
  obtain ⟨ax, cx, rfl⟩ := row_slice9 o
  have A4 := hide (A3.out.add q (TTx.st _ _) ⟨o, fun k hk => (World.ownsRow.lt o k hk).2⟩)
  clear A3 q o
  obtain ⟨lox, hix, dx⟩ := A4.out.get 0 rfl
  have Dx := hide (OwnT.rd dx.1 SZX.out)
  clear dx
  go_wp2_with fail
  refine (C2.out _ _ Dx.out).mono ?_
  rintro e w5 ⟨vcg, vug, rfl, _, _, q, d⟩
  obtain ⟨acg, ccg, aug, cug, rfl, rfl⟩ := d.sls
  have A5 := hide ((A4.out.add q (TRc.st _ _ _ _) d).box #[.slice acg C.length ccg, .slice aug U.length cug] 27)
  clear A4 Dx lox hix q d
  obtain ⟨cbg0, cbg1⟩ := (A5.out.atBox 0 rfl).c2
  obtain ⟨m0, m1⟩ := (X4.out.below A5.out.below).c2
  obtain ⟨log, hig, dg⟩ := A5.out.get 1 rfl
  have Dg := hide (OwnT.rd dg.1.1 SZC.out)
  have Eg := hide (Mat.rd dg.2)
  clear dg
  go_wp2_with fail
  refine (eqRecipe_same _ _ _ _ C U _ Dg.out Eg.out (RC0.out.below A5.out.below) (RU0.out.below A5.out.below)).mono ?_
  rintro e w6 ⟨rfl, q⟩
  have A6 := hide (A5.out.step q)
  clear A5 cbg0 cbg1 m0 m1 Dg Eg log hig q
  go_wp2_with fail
  refine (toStringS_calls _ xs _ (RA.out.below A6.out.below) hn).mono ?_
  rintro e w7 ⟨vj, rfl, o, q⟩
  obtain ⟨aj, cj, rfl⟩ := row_slice9 o
  have A7 := hide (A6.out.add q (TTx.st _ _) ⟨o, fun k hk => (World.ownsRow.lt o k hk).2⟩)
  clear A6 q o
  obtain ⟨lox, hix, dx⟩ := A7.out.get 3 rfl
  have Dx := hide (OwnT.rd dx.1 SZX.out)
  clear dx
  obtain ⟨loj, hij, dj⟩ := A7.out.get 0 rfl
  have Dj := hide (OwnT.rd dj.1 SZX.out)
  clear dj
  go_wp2_with fail
  refine (eqStringS_same _ _ xs _ Dx.out Dj.out).mono ?_
  rintro e w8 ⟨rfl, q⟩
  have A8 := hide (A7.out.step q)
  clear A7 Dx lox hix Dj loj hij q
  obtain ⟨lox, hix, dx, lw, hw, put⟩ := A8.out.open 3 rfl
  have PUT := hide put
  have HW := hide hw
  clear put lw hw
  have Dx := hide dx.1
  have Tx := hide dx.2
  clear dx
  go_wp2_with fail
  refine (markStringS_calls _ xs 1 _ _ Dx.out (by decide) (by decide) hn).mono ?_
  rintro e w9 ⟨rfl, o4, g4c⟩
  have o5 : OwnT w9 lox (.slice ax xs.length cx) (marksT 1 xs.length) := o4
  have A9 := hide (PUT.out _ (TTx _ (marksT 1 xs.length)) (TTx.st _ _) ⟨o5, Tx.out⟩ (Chg.ofGrown g4c (fun j hj => ⟨(World.ownsRow.lt Dx.out j hj).1, Tx.out j hj⟩)))
  clear A8 lox hix PUT HW Dx Tx o4 o5 g4c
  obtain ⟨kk, hkk⟩ : ∃ kk : Nat, kk = 1 + xs.length := ⟨_, rfl⟩
  rw [← hkk]
  clear hkk
  have kn : ¬ ((kk : Int) < 0) := by omega
  obtain ⟨cbg0, cbg1⟩ := (A9.out.atBox 1 rfl).c2
  obtain ⟨m0, m1⟩ := (X4.out.below A9.out.below).c2
  obtain ⟨log, hig, dg⟩ := A9.out.get 2 rfl
  have Dg := hide (OwnT.rd dg.1.1 SZC.out)
  have Eg := hide (Mat.rd dg.2)
  clear dg
  go_wp2_with fail
  refine (eqRecipe_same _ _ _ _ C U _ Dg.out Eg.out (RC0.out.below A9.out.below) (RU0.out.below A9.out.below)).mono ?_
  rintro e w10 ⟨rfl, q⟩
  have A10 := hide (A9.out.step q)
  clear A9 cbg0 cbg1 m0 m1 Dg Eg log hig q
  obtain ⟨cbg0, cbg1⟩ := (A10.out.atBox 1 rfl).c2
  obtain ⟨log, hig, dg, lw, hw, put⟩ := A10.out.open 2 rfl
  have PUT := hide put
  have HW := hide hw
  clear put lw hw
  have Dg := hide dg
  clear dg
  go_wp2_with fail
  refine (markRecipe_calls _ _ C U _ _ _ Dg.out HW.out CL UL).mono ?_
  rintro e w11 ⟨rfl, d4, q⟩
  have A11 := hide (PUT.out _ (TRc _ _ _ _) (TRc.st _ _ _ _) d4 q)
  clear A10 cbg0 cbg1 log hig PUT HW Dg q d4
  obtain ⟨mm, hmm⟩ : ∃ mm : Nat, mm = 1 + C.length + tot U := ⟨_, rfl⟩
  rw [← hmm]
  have MM := hide hmm
  clear hmm
  have mn : ¬ ((mm : Int) < 0) := by omega
  have MZC : Hid (∀ s ∈ marksT 1 C.length, s.size ≤ maxLen) := marksT_small 1 C.length (by omega)
  obtain ⟨cbg0, cbg1⟩ := (A11.out.atBox 1 rfl).c2
  obtain ⟨log, hig, dg⟩ := A11.out.get 2 rfl
  have Dg := hide (OwnT.rd dg.1.1 MZC.out)
  have Eg := hide (Mat.rd dg.2)
  clear dg
  go_wp2_with fail
  refine (heldRecipe_calls _ _ C.length U _ Dg.out Eg.out CL UL).mono ?_
  rintro e w12 ⟨rfl, q⟩
  have A12 := hide (A11.out.step q)
  clear A11 cbg0 cbg1 Dg Eg log hig q
  rw [← MM.out]
  go_wp2_with fail
  refine (toStringS_calls _ xs _ (RA.out.below A12.out.below) hn).mono ?_
  rintro e w13 ⟨vy, rfl, o, q⟩
  obtain ⟨ay, cy, rfl⟩ := row_slice9 o
  have A13 := hide (A12.out.add q (TTx.st _ _) ⟨o, fun k hk => (World.ownsRow.lt o k hk).2⟩)
  clear A12 q o
  obtain ⟨loy, hiy, dy⟩ := A13.out.get 0 rfl
  have Dy := hide (OwnT.rd dy.1 SZX.out)
  clear dy
  go_wp2_with fail
  refine (C2.out _ _ Dy.out).mono ?_
  rintro e w14 ⟨vch, vuh, rfl, _, _, q, d⟩
  obtain ⟨ach, cch, auh, cuh, rfl, rfl⟩ := d.sls
  have A14 := hide ((A13.out.add q (TRc.st _ _ _ _) d).box #[.slice ach C.length cch, .slice auh U.length cuh] 27)
  clear A13 Dy loy hiy q d
  obtain ⟨cbh0, cbh1⟩ := (A14.out.atBox 0 rfl).c2
  obtain ⟨m0, m1⟩ := (X4.out.below A14.out.below).c2
  obtain ⟨loh, hih, dh⟩ := A14.out.get 1 rfl
  have Dh := hide (OwnT.rd dh.1.1 SZC.out)
  have Eh := hide (Mat.rd dh.2)
  clear dh
  go_wp2_with fail
  refine (eqRecipe_same _ _ _ _ C U _ Dh.out Eh.out (RC0.out.below A14.out.below) (RU0.out.below A14.out.below)).mono ?_
  rintro e w15 ⟨rfl, q⟩
  have A15 := hide (A14.out.step q)
  clear A14 cbh0 cbh1 m0 m1 Dh Eh loh hih q
  obtain ⟨cbg0, cbg1⟩ := (A15.out.atBox 4 rfl).c2
  obtain ⟨log, hig, dg⟩ := A15.out.get 5 rfl
  have Dg := hide (OwnT.rd dg.1.1 MZC.out)
  have Eg := hide (Mat.rd dg.2)
  clear dg
  go_wp2_with fail
  refine (heldRecipe_calls _ _ C.length U _ Dg.out Eg.out CL UL).mono ?_
  rintro e w16 ⟨rfl, q⟩
  have A16 := hide (A15.out.step q)
  clear A15 cbg0 cbg1 Dg Eg log hig q
  rw [← MM.out]
  go_wp2
  go_ret
  exact ⟨rfl, BW.out.trans (A16.out.below.mono BW.out.size)⟩
end Go.Proofs.Ythmijjcddjlebaa

/-
  Graphs measured, held against others, marked and looked through for the marks: call by call. Each contract says what it asks.
-/
import Derived.Test.YtakhggnbhjoojaaNde
namespace Go.Proofs.Ytakhggnbhjoojaa
open Go.RowKit
set_option linter.unusedVariables false

theorem szIntS_anyN (v : Value) (xs : List Int) (l : Int) (w : World) (h : Rd w v xs) (h0 : 0 ≤ l) (hl : l ≤ 1048576) :
    Calls Try.prog 76 #[v, .int .i64 l] w fun e w' => (∃ r : Int, e = .returned (.int .i64 r) ∧ (r < 0 ∨ (0 ≤ r ∧ r ≤ 1048576 ∧ xs.length ≤ 1048576))) ∧ w = w' := by
  refine (szIntS_is v xs l w h h0 hl).mono ?_
  rintro e w' ⟨rfl, rfl⟩
  refine ⟨⟨_, rfl, ?_⟩, rfl⟩
  split <;> omega

set_option maxRecDepth 100000 in
set_option maxHeartbeats 1600000 in
theorem szGraph_calls (p r c : Value) (xs : List Nd) (rs cs : List Int) (w : World) (h : RdG w p r c xs rs cs) :
    Calls Try.prog 26 #[.agg #[p, r, c], .int .i64 1048576] w fun e w' => (∃ r : Int, e = .returned (.int .i64 r) ∧ (r < 0 ∨ (0 ≤ r ∧ SzG xs rs cs))) ∧ Below w.heap.size w w' := by
  have b0 := below_box w (.cells #[p, r, c] 40)
  have R := hide (h.below b0)
  have X : Hid (BoxAt _ _ _ _) := hide (BoxAt.new w #[p, r, c] 40)
  have B0 := hide b0
  clear b0 h
  go_enter Try.func26, Try.ntmps26
  go_wp2_with fail
  refine (szNodeS_calls _ xs _ R.out.1).mono ?_
  rintro e w1 ⟨⟨r1, rfl, hr⟩, b1⟩
  have B1 := hide (B0.out.trans (b1.mono B0.out.size))
  have R1 := hide (R.out.below b1)
  obtain ⟨c0, c1, c2⟩ := (X.out.below b1).c3
  clear b1 B0 R X
  by_cases r0 : r1 < 0
  · go_wp2
    go_ret
    exact ⟨⟨-1, rfl, .inl (by decide)⟩, B1.out⟩
  have H1 := hide (hr.resolve_left r0)
  have q1 := H1.out.2.1
  clear hr
  go_wp2_with fail
  refine (szIntS_anyN _ rs _ _ R1.out.2.1 (by omega) (by omega)).mono ?_
  rintro e w2 ⟨⟨r2, rfl, hr⟩, rfl⟩
  clear r0 q1
  by_cases r0 : r2 < 0
  · go_wp2
    go_ret
    exact ⟨⟨-1, rfl, .inl (by decide)⟩, B1.out⟩
  have H2 := hide (hr.resolve_left r0)
  have q1 := H2.out.2.1
  clear hr
  go_wp2_with fail
  refine (szIntS_anyN _ cs _ _ R1.out.2.2 (by omega) (by omega)).mono ?_
  rintro e w2 ⟨⟨r3, rfl, hr⟩, rfl⟩
  clear r0 q1
  by_cases r0 : r3 < 0
  · go_wp2
    go_ret
    exact ⟨⟨-1, rfl, .inl (by decide)⟩, B1.out⟩
  have H3 := hide (hr.resolve_left r0)
  clear hr
  go_wp2
  go_ret
  exact ⟨⟨r3, rfl, .inr ⟨H3.out.1, H1.out.2.2, H2.out.2.2, H3.out.2.2⟩⟩, B1.out⟩

set_option maxRecDepth 100000 in
set_option maxHeartbeats 1600000 in
theorem eqGraph_same (p r c p' r' c' : Value) (xs : List Nd) (rs cs : List Int) (w : World) (h : RdG w p r c xs rs cs) (h' : RdG w p' r' c' xs rs cs) :
    Calls Try.prog 19 #[.agg #[p, r, c], .agg #[p', r', c']] w fun e w' => e = .returned (.bool true) ∧ Below w.heap.size w w' := by
  have b0 := (below_box w (.cells #[p, r, c] 27)).trans ((below_box (w.alloc (.cells #[p, r, c] 27)) (.cells #[p', r', c'] 27)).mono (by simp))
  have R1 := hide (h.below b0)
  have R2 := hide (h'.below b0)
  have B0 := hide b0
  have X1 : Hid (BoxAt ((w.alloc (.cells #[p, r, c] 27)).alloc (.cells #[p', r', c'] 27)) w.heap.size #[p, r, c] 27) := BoxAt.below (BoxAt.new w _ _) (below_box _ _)
  have X2 : Hid (BoxAt ((w.alloc (.cells #[p, r, c] 27)).alloc (.cells #[p', r', c'] 27)) (w.heap.size + 1) #[p', r', c'] 27) := by
    have := BoxAt.new (w.alloc (.cells #[p, r, c] 27)) #[p', r', c'] 27
    rwa [World.size_alloc] at this
  clear h h' b0
  go_enter Try.func19, Try.ntmps19
  go_wp2_with fail
  refine (eqNodeS_same _ _ xs _ R1.out.1 R2.out.1).mono ?_
  rintro e w1 ⟨rfl, b1⟩
  have Y1 := hide (X1.out.below b1)
  have Y2 := hide (X2.out.below b1)
  have S1 := hide (R1.out.below b1)
  have S2 := hide (R2.out.below b1)
  obtain ⟨c0, c1, c2⟩ := Y1.out.c3
  obtain ⟨d0, d1, d2⟩ := Y2.out.c3
  have B1 := hide (B0.out.trans (b1.mono B0.out.size))
  clear b1 B0 X1 X2 R1 R2
  go_wp2_with fail
  refine (eqIntS_same _ _ rs _ S1.out.2.1 S2.out.2.1).mono ?_
  rintro e w2 ⟨rfl, b2⟩
  clear c0 c1 c2 d0 d1 d2
  obtain ⟨c0, c1, c2⟩ := (Y1.out.below b2).c3
  obtain ⟨d0, d1, d2⟩ := (Y2.out.below b2).c3
  have T1 := hide (S1.out.below b2)
  have T2 := hide (S2.out.below b2)
  have B2 := hide (B1.out.trans (b2.mono B1.out.size))
  clear b2 B1 S1 S2 Y1 Y2
  go_wp2_with fail
  refine (eqIntS_same _ _ cs _ T1.out.2.2 T2.out.2.2).mono ?_
  rintro e w3 ⟨rfl, b3⟩
  have B3 := hide (B2.out.trans (b3.mono B2.out.size))
  clear b3 B2
  go_wp2
  go_ret
  exact ⟨rfl, B3.out⟩

/-- The marks behind a graph's nodes, roots and counts. -/
def mkR (xs : List Nd) (rs : List Int) : List Int := marks (enN 1 xs : Nat) rs.length
def mkC (xs : List Nd) (rs cs : List Int) : List Int := marks ((enN 1 xs + rs.length : Nat) : Int) cs.length
def enG (xs : List Nd) (rs cs : List Int) : Nat := enN 1 xs + rs.length + cs.length

set_option maxRecDepth 100000 in
set_option maxHeartbeats 1600000 in
theorem markGraph_calls (p r c : Value) (xs : List Nd) (rs cs : List Int) (lo hi : Nat) (w : World) (h : TGrf p r c xs rs cs lo hi w) (hh : hi ≤ w.heap.size) (hz : SzG xs rs cs) :
    Calls Try.prog 24 #[.agg #[p, r, c], .int .i64 1] w fun e w' => e = .returned (.int .i64 (enG xs rs cs : Nat)) ∧ TGrf p r c (mkN 1 xs) (mkR xs rs) (mkC xs rs cs) lo hi w' ∧ Chg lo hi w w' := by
  obtain ⟨us, h⟩ := h
  have b0 := below_box w (.cells #[p, r, c] 27)
  have H0 := hide (h.below b0)
  have C0 : Hid (Chg lo hi w (w.alloc (.cells #[p, r, c] 27))) := Chg.ofAlloc w _
  have X0 : Hid (BoxAt _ _ _ _) := hide (BoxAt.new w #[p, r, c] 27)
  have Z := hide hz
  have hz1 := hz.1
  have hz2 := hz.2.1
  have hz3 := hz.2.2
  have eb : enN 1 xs ≤ 1048577 := by unfold enN; omega
  obtain ⟨ap, cp, rfl⟩ := h.slice
  obtain ⟨ar, cr, hr⟩ := row_slice (h.rowE 0 (by simp))
  obtain ⟨ac, cc, hc⟩ := row_slice (h.rowE 1 (by simp))
  simp only [List.getD_cons_zero, List.getD_cons_succ] at hr hc
  subst hr hc
  clear b0 h hz
  go_enter Try.func24, Try.ntmps24
  go_wp2_with fail
  refine (markNodeS_calls _ 1 xs _ us _ lo hi _ H0.out Z.out.1 (by decide)).mono ?_
  rintro e w1 ⟨rfl, h1, c1⟩
  have X1 := hide (X0.out.chg c1 (.inr hh))
  have H1 := hide h1
  have C1 := hide (C0.out.trans c1)
  obtain ⟨x0, x1, x2⟩ := X1.out.c3
  clear h1 c1 H0 C0 X0
  generalize hk : enN 1 xs = k at *
  go_wp2_with fail
  refine (markIntS_calls _ rs _ lo _ (H1.out.rowE 0 (by simp)) (by omega) (by omega) (by omega)).mono ?_
  rintro e w2 ⟨rfl, o2, g2⟩
  have H2 := hide (H1.out.writeE 0 (by simp) o2 g2)
  have c2 := H1.out.writeEChg 0 (by simp) g2
  have X2 := hide (X1.out.chg c2 (.inr hh))
  have C2 := hide (C1.out.trans c2)
  clear x0 x1 x2
  obtain ⟨x0, x1, x2⟩ := X2.out.c3
  clear o2 g2 c2 H1 C1 X1
  go_wp2_with fail
  refine (markIntS_calls _ cs _ lo _ (H2.out.rowE 1 (by simp)) (by omega) (by omega) (by omega)).mono ?_
  rintro e w3 ⟨rfl, o3, g3⟩
  have H3 := hide (H2.out.writeE 1 (by simp) o3 g3)
  have C3 := hide (C2.out.trans (H2.out.writeEChg 1 (by simp) g3))
  clear o3 g3 H2 C2
  go_wp2
  go_ret
  refine ⟨by unfold enG; rw [hk]; simp, ⟨us, ?_⟩, C3.out⟩
  have := H3.out
  simpa [mkR, mkC, hk] using this

set_option maxRecDepth 100000 in
set_option maxHeartbeats 1600000 in
theorem heldGraph_calls (p r c : Value) (xs : List Nd) (rs cs : List Int) (w : World) (h : RdG w p r c (mkN 1 xs) (mkR xs rs) (mkC xs rs cs)) (hz : SzG xs rs cs) :
    Calls Try.prog 25 #[.agg #[p, r, c], .int .i64 1] w fun e w' => e = .returned (.int .i64 (enG xs rs cs : Nat)) ∧ Below w.heap.size w w' := by
  have b0 := below_box w (.cells #[p, r, c] 27)
  have R := hide (h.below b0)
  have B0 := hide b0
  have Z := hide hz
  have hz1 := hz.1
  have hz2 := hz.2.1
  have hz3 := hz.2.2
  have eb : enN 1 xs ≤ 1048577 := by unfold enN; omega
  clear b0 h hz
  go_enter Try.func25, Try.ntmps25
  go_wp2_with fail
  refine (heldNodeS_calls _ 1 xs _ R.out.1 Z.out.1 (by decide)).mono ?_
  rintro e w1 ⟨rfl, rfl⟩
  have R2 := R.out.2.1
  have R3 := R.out.2.2
  unfold mkR at R2
  unfold mkC at R3
  have EG : Hid (enG xs rs cs = enN 1 xs + rs.length + cs.length) := rfl
  generalize hk : enN 1 xs = k at *
  have Q2 := hide R2
  have Q3 := hide R3
  have e1 : ¬ ((k : Int) < 0) := by omega
  have e2 : ¬ ((k : Int) + (rs.length : Int) < 0) := by omega
  have e3 : ¬ ((k : Int) + (rs.length : Int) + (cs.length : Int) < 0) := by omega
  clear R2 R3 hk
  go_wp2_with fail
  refine (heldIntS_calls _ rs.length _ _ Q2.out (by omega) (by omega) (by omega)).mono ?_
  rintro e w1 ⟨rfl, rfl⟩
  go_wp2_with fail
  have q4 := Q3.out
  rw [show ((k + rs.length : Nat) : Int) = (k : Int) + (rs.length : Int) from by simp] at q4
  have Q4 := hide q4
  clear q4
  refine (heldIntS_calls _ cs.length _ _ Q4.out (by omega) (by omega) (by omega)).mono ?_
  rintro e w1 ⟨rfl, rfl⟩
  go_wp2
  go_ret
  exact ⟨by rw [EG.out]; simp, B0.out⟩
end Go.Proofs.Ytakhggnbhjoojaa

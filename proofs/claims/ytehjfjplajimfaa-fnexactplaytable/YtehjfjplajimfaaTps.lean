/-
  Numbers played on a new table: PlayTable of the model. The contract says what it asks.
-/
import Derived.Test.YtehjfjplajimfaaTpp
import Derived.Deep.AppendLies
namespace Go.Proofs.Ytehjfjplajimfaa
open Go.RowKit
set_option linter.unusedVariables false
set_option linter.unusedSimpArgs false

theorem BoxAt.c1v {w : World} {g : Nat} {a : Value} {T : TypeId} (h : BoxAt w g #[a] T) : w.cell? ⟨g, 0, none⟩ = some a := h.cell 0
theorem TabV.keptZ {w w' : World} {lo hi base n : Nat} {l r v : Value} {L R : List Sl} {xs : List Value} (d : TabV w lo hi l r L R) (o : w.ownsRow base 4 1 v n xs) (g : w.grownBy w' v.ownBlock) : TabV w' lo hi l r L R :=
  ⟨World.ownsRow.kept d.left g (own_unlike d.left o (by decide)), World.ownsRow.kept d.right g (own_unlike d.right o (by decide)), d.tl, d.tr, d.ap⟩
set_option maxRecDepth 100000 in
theorem putStep_calls (s m n i : Int) (gl cl gr cr : Nat) (L R X Y : List Sl) (mX : Int) (ok : Bool) (lo hi : Nat) (w : World) (d : TabV w lo hi (.slice (some ⟨gl, 0, none⟩) 11 cl) (.slice (some ⟨gr, 0, none⟩) 11 cr) L R) (hh : hi ≤ w.heap.size) (o : okT s L R m) (h0 : 0 ≤ n) (hn : n ≤ 9999) (hi' : kOk i) (h : PlTo s n i L R m X Y mX ok) :
    Calls Try.prog 59 #[.agg #[.int .i64 s, (.slice (some ⟨gl, 0, none⟩) 11 cl), (.slice (some ⟨gr, 0, none⟩) 11 cr), .int .i64 m], .int .i64 n, .int .i64 i] w fun e w' => ∃ X' Y' m' c, e = .returned (.tuple #[.agg #[.int .i64 s, (.slice (some ⟨gl, 0, none⟩) 11 cl), (.slice (some ⟨gr, 0, none⟩) 11 cr), .int .i64 m'], .int .i64 c, .bool ok]) ∧ TabV w' lo hi (.slice (some ⟨gl, 0, none⟩) 11 cl) (.slice (some ⟨gr, 0, none⟩) 11 cr) X' Y' ∧ (ok = true → X' = X ∧ Y' = Y ∧ m' = mX) ∧ Chg lo hi w w' := by
  rcases h with ⟨_, ⟨rfl, c, a, h, rfl⟩ | ⟨rfl, h, rfl, rfl, rfl⟩⟩ | ⟨h1, _⟩
  · refine (sl12Put_calls s m n i gl cl gr cr L R X Y (m + a) c true lo hi w d hh o.1 ⟨h0, hn⟩ hi' o.2.1 o.2.2.1 o.many (.inl ⟨rfl, a, h, rfl⟩)).mono ?_
    rintro e w' ⟨rfl, ⟨X', Y', d', hE⟩, ch⟩
    exact ⟨X', Y', m + a, c, rfl, d', fun _ => ⟨(hE rfl).1, (hE rfl).2, rfl⟩, ch⟩
  · refine (sl12Put_calls s mX n i gl cl gr cr X Y [] [] (mX + 1) 0 false lo hi w d hh o.1 ⟨h0, hn⟩ hi' o.2.1 o.2.2.1 o.many (.inr ⟨rfl, h, rfl, rfl⟩)).mono ?_
    rintro e w' ⟨rfl, ⟨X', Y', d', hE⟩, ch⟩
    exact ⟨X', Y', mX + 1, 0, rfl, d', fun e => by simp at e, ch⟩
  · omega
set_option maxRecDepth 100000 in
theorem dropStep_calls (s m n i : Int) (l r : Value) (L R X Y : List Sl) (mX : Int) (ok : Bool) (lo hi : Nat) (w : World) (d : TabV w lo hi l r L R) (hh : hi ≤ w.heap.size) (o : okT s L R m) (h0 : n < 0) (hn : -10000 ≤ n) (h : PlTo s n i L R m X Y mX ok) :
    Calls Try.prog 70 #[.agg #[.int .i64 s, l, r, .int .i64 m], .int .i64 (-1 - n)] w fun e w' => ∃ X' Y' m', e = .returned (.tuple #[.agg #[.int .i64 s, l, r, .int .i64 m'], .bool ok]) ∧ TabV w' lo hi l r X' Y' ∧ (ok = true → X' = X ∧ Y' = Y ∧ m' = mX) ∧ Chg lo hi w w' := by
  have hk : kOk (-1 - n) := ⟨by omega, by omega⟩
  rcases h with ⟨h1, _⟩ | ⟨_, ⟨rfl, h, rfl⟩ | ⟨rfl, h, rfl, rfl, rfl⟩⟩
  · omega
  · rcases h with ⟨h1, e1, e2⟩ | ⟨h1, h2, e1, e2⟩
    · have e2' := e2.symm
      subst e1 e2'
      clear e2
      obtain ⟨u, hu⟩ := bol_ex (isR s R (-1 - n))
      refine (sl12Drop_calls s m (-1 - n) l r L R true u _ _ (m - 1) lo hi w d hh o.1 hk o.2.1.1 o.2.2.1.1 o.many (bT h1) hu (fun _ => ⟨rfl, rfl, rfl⟩) (fun e => by simp at e) (fun e => by simp at e)).mono ?_
      rintro e w' ⟨rfl, d', ch⟩
      exact ⟨_, _, m - 1, by simp, d', fun _ => ⟨rfl, rfl, rfl⟩, ch⟩
    · have e1' := e1.symm
      subst e1' e2
      clear e1
      refine (sl12Drop_calls s m (-1 - n) l r L R false true _ _ (m - 1) lo hi w d hh o.1 hk o.2.1.1 o.2.2.1.1 o.many (bF h1) (bT h2) (fun e => by simp at e) (fun _ _ => ⟨rfl, rfl, rfl⟩) (fun _ e => by simp at e)).mono ?_
      rintro e w' ⟨rfl, d', ch⟩
      exact ⟨_, _, m - 1, by simp, d', fun _ => ⟨rfl, rfl, rfl⟩, ch⟩
  · refine (sl12Drop_calls s mX (-1 - n) l r X Y false false _ _ mX lo hi w d hh o.1 hk o.2.1.1 o.2.2.1.1 o.many (bF h.1) (bF h.2) (fun e => by simp at e) (fun _ e => by simp at e) (fun _ _ => ⟨rfl, rfl, rfl⟩)).mono ?_
    rintro e w' ⟨rfl, d', ch⟩
    exact ⟨_, _, mX, by simp, d', fun e => by simp at e, ch⟩
/-- One Boolean behind a row of the call's own, and where it lies then. -/
theorem wpList_append_bolP {w : World} {ops : Array Oper} {rest : List Oper} {o : Oper} {a : Act} {Q : Exit → Act → World → Prop} (hgd : o.guard = none) (s x : Operand)
    (ho : o.op = .call { callee := .builtin .append, args := #[s, x], argTypes := #[36, 36] })
    (base : Nat) (v : Value) (n : Nat) (xs : List Bool) (z : Bool) (hs : a.eval s = v) (hown : w.ownsRow base 4 1 v n (xs.map Value.bool)) (gx : Nat) (hx : a.eval x = .slice (some ⟨gx, 0, none⟩) 1 1) (hc : w.cell? ⟨gx, 0, none⟩ = some (.bool z))
    (hm : n ≤ 1000) (hbase : base ≤ w.heap.size)
    (h : ∀ g cap w', w'.ownsRow base 4 1 (.slice (some ⟨g, 0, none⟩) (n + 1) cap) (n + 1) ((xs ++ [z]).map Value.bool) → w.grownBy w' v.ownBlock → wpList Try.prog ops Q rest (a.put o.dst (.slice (some ⟨g, 0, none⟩) (n + 1) cap)) w') : wpList Try.prog ops Q (o :: rest) a w := by
  obtain ⟨i0, hi, hz0, hz1, hz2⟩ := info_parts infoBol
  refine wpList_append_lies (w := w) hgd s x _ ho base _ i0 (.bool false) 1 1 Try.underlying36 hi hz0 hz1 hz2 rfl (by decide) v n _ hs hown ⟨gx, 0, none⟩ 1 1 ([z].map Value.bool) hx (by simp) ?_ (bols_oneCell _) (by decide) (by unfold maxLen; omega) (by omega) hbase _ rfl ?_
  · intro j u hu
    have : j = 0 := by
      have := (List.getElem?_eq_some_iff.1 hu).1
      simpa using this
    subst this
    simp at hu
    subst hu
    simpa [Addr.add] using hc
  · intro g cap w' h1 h2 h3 h4
    rw [← List.map_append] at h1
    exact h g cap w' h1 h2
set_option maxRecDepth 100000 in
set_option maxHeartbeats 6400000 in
theorem sPlayTable_calls (sd : Int) (v : Value) (ns : List Int) (X Y : List Sl) (sX mX : Int) (bs : List Bool) (ok : Bool) (w : World) (h : Rd w v ns) (hf : PlAt sd ns X Y sX mX bs ok) :
    Calls Try.prog 21 #[.int .i64 sd, v] w fun e w' => ∃ l' r' v', e = .returned (.tuple #[.agg #[.int .i64 sX, l', r', .int .i64 mX], v', .bool ok]) ∧ TabV w' w.heap.size w'.heap.size l' r' X Y ∧ OwnZ w' w.heap.size v' bs ∧ Below w.heap.size w w' := by
  have R := hide h
  obtain ⟨a, cap, rfl, mh, hcm, _⟩ := h
  have hm := hcm.1
  unfold maxLen at hm
  clear hcm
  have A0 := hide ((Hand.start w).box nilT 28)
  obtain ⟨sb, hsb⟩ := bol_ex (sdOk sd)
  have SY := hide (fun W => sl12Seed_calls sd sb W hsb)
  have HF := hide hf
  clear hf
  cases sb with
  | false =>
    obtain ⟨rfl, rfl, rfl, rfl, rfl, rfl⟩ : X = [] ∧ Y = [] ∧ sX = 0 ∧ mX = 0 ∧ bs = [] ∧ ok = false := by
      rcases HF.out with h | h
      · exact absurd h.1.1 (nf hsb)
      · exact h.2
    clear HF hsb
    go_enter Try.func21, Try.ntmps21
    go_wp2_with (go_at_call 55; refine (SY.out _).mono ?_; rintro e w' ⟨rfl, rfl⟩)
    exact bodyPost_ret (res_tbz rfl _ _ w.heap.size _ _ _ _ (0, 0) rfl (A0.out.atBox 0 rfl)) rfl ⟨_, _, _, rfl, TabV.nil _ _ _, World.ownsRow_nil _ _ _ _, A0.out.below⟩
  | true =>
    have SD := hide (hsb.1 rfl)
    clear hsb
    by_cases hl80 : ns.length ≤ 80
    case neg =>
      have hl' : (80 : Int) < (ns.length : Int) := by omega
      obtain ⟨rfl, rfl, rfl, rfl, rfl, rfl⟩ : X = [] ∧ Y = [] ∧ sX = 0 ∧ mX = 0 ∧ bs = [] ∧ ok = false := by
        rcases HF.out with h | h
        · exact absurd h.1.2.1 hl80
        · exact h.2
      clear HF
      go_enter Try.func21, Try.ntmps21
      go_wp2_with (go_at_call 55; refine (SY.out _).mono ?_; rintro e w' ⟨rfl, rfl⟩)
      exact bodyPost_ret (res_tbz rfl _ _ w.heap.size _ _ _ _ (0, 0) rfl (A0.out.atBox 0 rfl)) rfl ⟨_, _, _, rfl, TabV.nil _ _ _, World.ownsRow_nil _ _ _ _, A0.out.below⟩
    have hl' : ¬ (80 : Int) < (ns.length : Int) := by omega
    obtain ⟨XX, YY, MM, BB, hp, hfin, hbad⟩ : ∃ XX YY MM BB, Ply sd ns XX YY MM BB ∧ ((∀ i, i < ns.length → stOk (ns.getD i 0)) → X = XX ns.length ∧ Y = YY ns.length ∧ mX = MM ns.length ∧ bs = didB BB ns.length ∧ sX = sd ∧ ok = true) ∧ (¬ (∀ i, i < ns.length → stOk (ns.getD i 0)) → X = [] ∧ Y = [] ∧ sX = 0 ∧ mX = 0 ∧ bs = [] ∧ ok = false) := by
      rcases HF.out with ⟨h, XX, YY, MM, BB, hp, h2⟩ | ⟨h, h2⟩
      · exact ⟨XX, YY, MM, BB, hp, fun _ => h2, fun hn => absurd h.2.2 hn⟩
      · obtain ⟨XX, YY, MM, BB, hp⟩ := ply_ex sd ns
        exact ⟨XX, YY, MM, BB, hp, fun hn => absurd ⟨SD.out, hl80, hn⟩ h, fun _ => h2⟩
    have HP := hide hp
    have HFIN := hide hfin
    have HBAD := hide hbad
    have OKS : Hid (∀ i, i ≤ ns.length → (∀ j, j < i → stOk (ns.getD j 0)) → okT sd (XX i) (YY i) (MM i)) := fun i hi hj => hp.good SD.out hl80 i hi hj
    clear HF hp hfin hbad
    go_enter Try.func21, Try.ntmps21
    go_wp2_with (first | (go_at_call 55; refine (SY.out _).mono ?_; rintro e w' ⟨rfl, rfl⟩))
    refine (sl12New_calls sd _).mono ?_
    rintro e w1 ⟨l1, r1, rfl, d1, b1⟩
    obtain ⟨gl1, cl1, gr1, cr1, rfl, rfl⟩ := d1.form11 rfl rfl
    have A1 := (A0.out.step b1).box #[.int .i64 sd, .slice (some ⟨gl1, 0, none⟩) 11 cl1, .slice (some ⟨gr1, 0, none⟩) 11 cr1, .int .i64 0] 28
    have T1 := hide (A1.atBox 0 rfl)
    have Z1 := hide (A1.atBox 1 rfl)
    have W1 := hide A1.below
    have D1 : Hid (TabV (w1.alloc (.cells #[.int .i64 sd, .slice (some ⟨gl1, 0, none⟩) 11 cl1, .slice (some ⟨gr1, 0, none⟩) 11 cr1, .int .i64 0] 28)) (w.heap.size + 1) w1.heap.size (.slice (some ⟨gl1, 0, none⟩) 11 cl1) (.slice (some ⟨gr1, 0, none⟩) 11 cr1) new11 new11) := (d1.wider (by simp) (Nat.le_refl _)).below (below_box _ _)
    have s0 := b1.size
    simp only [World.size_alloc] at s0
    clear b1 d1 A0 A1
    go_wp2
    go_loopw [8, 26] (fun vd vi wr => ∃ (i : Nat) (lv rv : Value) (lo hi : Nat), i ≤ ns.length ∧ vi = .int .i64 i ∧ (∀ j, j < i → stOk (ns.getD j 0)) ∧ wr.ownsRow (w1.heap.size + 1) 4 1 vd i ((didB BB i).map Value.bool) ∧ TabV wr lo hi lv rv (XX i) (YY i) ∧ (w.heap.size + 1 ≤ lo ∧ hi ≤ wr.heap.size ∧ (hi ≤ w1.heap.size ∨ w1.heap.size + 1 ≤ lo)) ∧ BoxAt wr w1.heap.size #[.int .i64 sd, lv, rv, .int .i64 (MM i)] 28 ∧ BoxAt wr w.heap.size nilT 28 ∧ Below w.heap.size w wr) (fun _ vi _ => ns.length - (intOf vi).toNat)
    case atStart => exact ⟨0, _, _, _, _, Nat.zero_le _, rfl, fun j hj => by omega, World.ownsRow_nil _ _ _ _, by rw [HP.out.x0, HP.out.y0]; exact D1.out, ⟨Nat.le_refl _, by simp, .inl (Nat.le_refl _)⟩, by rw [HP.out.m0]; exact T1.out, Z1.out, W1.out⟩
    case round =>
      obtain ⟨i, lv, rv, lo, hi, hi', rfl, hall, ho, hd, hb, hT, hZ, hW⟩ := hrel
      obtain ⟨hb1, hb2, hb3⟩ := hb
      have OKi := hide (OKS.out i hi' hall)
      obtain ⟨gl, cl, gr, cr, rfl, rfl⟩ := hd.form11 OKi.out.2.1.1 OKi.out.2.2.1.1
      have AL := hide hall
      have O := hide ho
      have D := hide hd
      have T := hide hT
      have Z := hide hZ
      have WB := hide hW
      have lw' : w1.heap.size < wr.heap.size := hT.lt
      obtain ⟨av, cv, rfl⟩ := row_slice ho
      clear hall ho hd hT hZ hW T1 Z1 W1 D1
      by_cases hlt : i < ns.length
      · have hlt' : (i : Int) < (ns.length : Int) := by omega
        obtain ⟨b, off, rfl, hc1⟩ := (R.out.below WB.out).cellAt i hlt
        have ST := hide (HP.out.step i)
        have OK2 := hide (fun h : stOk (ns.getD i 0) => OKS.out (i + 1) (by omega) (fun j hj => if e : j = i then (by rw [e]; exact h) else AL.out j (by omega)))
        have AL2 := hide (fun (h : stOk (ns.getD i 0)) j (hj : j < i + 1) => if e : j = i then (by rw [e]; exact h : stOk (ns.getD j 0)) else AL.out j (by omega))
        have NB := hide (fun (h : ¬ stOk (ns.getD i 0)) => HBAD.out (fun ha => h (ha i hlt)))
        generalize ns.getD i 0 = n at hc1 ST OK2 AL2 NB
        obtain ⟨q, hq⟩ := bol_ex (-10000 ≤ n ∧ n ≤ 9999)
        have IN := hide (fun W => sl1In_calls n (-10000) 9999 q W hq)
        cases q with
        | false =>
          obtain ⟨rfl, rfl, rfl, rfl, rfl, rfl⟩ := NB.out (nf hq)
          clear hq ST OK2 AL2 NB
          obtain ⟨z0, z1, z2, z3⟩ := Z.out.c4
          have y0 := Z.out.frozen 0
          have y1 := Z.out.frozen 1
          have y2 := Z.out.frozen 2
          have y3 := Z.out.frozen 3
          have Z9 := hide (Z.out.store4 (.int .i64 0) (.slice none 0 0) (.slice none 0 0) (.int .i64 0))
          have W9 := hide (Below.thenChg WB.out (Chg.store4 (lo := w.heap.size) (hi := w.heap.size + 1) wr w.heap.size (.int .i64 0) (.slice none 0 0) (.slice none 0 0) (.int .i64 0) (Nat.le_refl _) (by omega)) (Nat.le_refl _))
          go_wp2_with (go_at_call 68; refine (IN.out _).mono ?_; rintro e w' ⟨rfl, rfl⟩)
          exact bodyPost_ret (res_tbz rfl _ _ w.heap.size _ _ _ _ (0, 0) rfl Z9.out) rfl ⟨_, _, _, rfl, TabV.nil _ _ _, World.ownsRow_nil _ _ _ _, W9.out⟩
        | true =>
          have SO := hq.1 rfl
          have OKN := hide (OK2.out SO)
          have ALN := hide (AL2.out SO)
          obtain ⟨so1, so2⟩ := SO
          clear hq OK2 AL2 NB
          obtain ⟨mm, hmm⟩ : ∃ q, q = MM i := ⟨_, rfl⟩
          obtain ⟨m2, hm2⟩ : ∃ q, q = MM (i + 1) := ⟨_, rfl⟩
          rw [← hmm] at T ST OKi
          rw [← hm2] at ST OKN
          have HMM := hide hmm
          have HM2 := hide hm2
          clear hmm hm2
          obtain ⟨c0, c1, c2, c3⟩ := T.out.c4
          go_wp2_with (go_at_call 68; refine (IN.out _).mono ?_; rintro e w' ⟨rfl, rfl⟩)
          refine (sl12Own_calls sd mm _ _ (XX i) (YY i) _ D.out.rl D.out.rr (by rw [OKi.out.2.1.1]; omega) (by rw [OKi.out.2.2.1.1]; omega)).mono ?_
          rintro e w4 ⟨l4, r4, rfl, d4, b4⟩
          obtain ⟨g4, k4, g5, k5, rfl, rfl⟩ := d4.form11 OKi.out.2.1.1 OKi.out.2.2.1.1
          have s4 := b4.size
          have bx := below_box w4 (.cells #[.int .i64 sd, .slice (some ⟨g4, 0, none⟩) 11 k4, .slice (some ⟨g5, 0, none⟩) 11 k5, .int .i64 mm] 28)
          have X5 := hide (BoxAt.new w4 #[.int .i64 sd, .slice (some ⟨g4, 0, none⟩) 11 k4, .slice (some ⟨g5, 0, none⟩) 11 k5, .int .i64 mm] 28)
          have D5 := hide (d4.below bx)
          have B5 := hide (b4.trans (bx.mono b4.size))
          clear d4 b4 bx c0 c1 c2 c3 hc1
          obtain ⟨x0, x1, x2, x3⟩ := X5.out.c4
          by_cases hneg : n < 0
          · have hneg' : ¬ (0 ≤ n) := by omega
            go_wp2_with fail
            refine (dropStep_calls sd mm n i _ _ (XX i) (YY i) (XX (i + 1)) (YY (i + 1)) m2 (BB i) _ _ _ D5.out (by simp) OKi.out hneg so1 ST.out).mono ?_
            rintro e w6 ⟨X6, Y6, m6, rfl, d6, hE, ch6⟩
            have HE := hide hE
            have B6 := Below.thenChg B5.out ch6 (Nat.le_refl _)
            have X6b := hide (X5.out.chg ch6 (.inr (Nat.le_refl _)))
            have s6 := ch6.size
            simp only [World.size_alloc] at s6
            obtain ⟨x0', x1', x2', x3'⟩ := X6b.out.c4
            have xf0 := X6b.out.frozen 0
            have xf1 := X6b.out.frozen 1
            have xf2 := X6b.out.frozen 2
            have xf3 := X6b.out.frozen 3
            have ch7 := Chg.store4 (lo := w4.heap.size) (hi := w4.heap.size + 1) w6 w4.heap.size (.int .i64 sd) (.slice (some ⟨g4, 0, none⟩) 11 k4) (.slice (some ⟨g5, 0, none⟩) 11 k5) (.int .i64 m6) (Nat.le_refl _) (by omega)
            have X7 := hide (X6b.out.store4 (.int .i64 sd) (.slice (some ⟨g4, 0, none⟩) 11 k4) (.slice (some ⟨g5, 0, none⟩) 11 k5) (.int .i64 m6))
            have B7 := hide (Below.thenChg B6 ch7 s4)
            have D7 := hide (d6.chg ch7 (.inl (Nat.le_refl _)))
            have CH7 := hide ch7.size
            clear ch6 d6 B6 ch7 X5 D5 B5 hE x0 x1 x2 x3
            have T7 := hide (T.out.below B7.out)
            have Z7 := hide (Z.out.below B7.out)
            have O7 := hide (ownsRow_below O.out B7.out)
            have W7 := hide (WB.out.trans (B7.out.mono WB.out.size))
            have DO7 := hide (D.out.below B7.out)
            clear T Z O WB D
            cases hB : BB i with
            | false =>
              rw [hB] at ST HE
              obtain ⟨eX, eY, eM⟩ := ST.out.same
              have E1 := hide eX
              have E2 := hide eY
              have E3 := hide eM
              have DS := hide (didB_succ BB i)
              rw [hB] at DS
              clear eX eY eM ST HE hB
              go_upto_region 17 with fail
              have s8 := B7.out.size
              clear X7 D7 x0' x1' x2' x3' xf0 xf1 xf2 xf3 X6b CH7
              generalize hU : (((w6.setCell ⟨w4.heap.size, 0, none⟩ (.int .i64 sd)).setCell ⟨w4.heap.size, 1, none⟩ (.slice (some ⟨g4, 0, none⟩) 11 k4)).setCell ⟨w4.heap.size, 2, none⟩ (.slice (some ⟨g5, 0, none⟩) 11 k5)).setCell ⟨w4.heap.size, 3, none⟩ (.int .i64 m6) = u7 at *
              clear hU
              have OA := hide (ownsRow_below O7.out (below_box u7 (.cells #[.bool false] 4)))
              have CB := hide ((BoxAt.new u7 #[.bool false] 4).c1v)
              go_wp2_with (at_builtin; refine wpList_append_bolP rfl _ _ rfl (w1.heap.size + 1) _ i (didB BB i) false rfl OA.out u7.heap.size rfl CB.out (by omega) (by simp; omega) ?_)
              intro g9 k9 w9 o9 gr9
              have o9 : w9.ownsRow (w1.heap.size + 1) 4 1 (.slice (some ⟨g9, 0, none⟩) (i + 1) k9) (i + 1) ((didB BB (i + 1)).map Value.bool) := by rw [DS.out]; simpa using o9
              have bb := below_box u7 (.cells #[.bool false] 4)
              have O9 := hide o9
              have oz := ownsRow_below O7.out bb
              have T9 := hide ((T7.out.below bb).kept gr9 (BoxAt.offT (T7.out.below bb) oz (by decide)))
              have Z9 := hide ((Z7.out.below bb).kept gr9 (BoxAt.offT (Z7.out.below bb) oz (by decide)))
              have D9 := hide ((DO7.out.below bb).keptZ oz gr9)
              have W9 := hide ((W7.out.trans (bb.mono W7.out.size)).grown gr9 (by have := (W7.out.trans (bb.mono W7.out.size)).size; exact this) (fun k hk => by have := row_low oz k hk; omega))
              have s9 := gr9.size
              have s7 := bb.size
              clear o9 gr9 oz bb DS O7 T7 Z7 DO7 W7
              go_wp2
              go_roundw
              case rel => exact ⟨i + 1, _, _, lo, hi, by omega, by go_num, ALN.out, O9.out, by rw [E1.out, E2.out]; exact D9.out, ⟨hb1, by omega, hb3⟩, by rw [← HM2.out, E3.out]; exact T9.out, Z9.out, W9.out⟩
              case measure => simp [intOf]; omega
            | true =>
              rw [hB] at ST HE
              obtain ⟨eX, eY, eM⟩ := HE.out rfl
              have DS := hide (didB_succ BB i)
              rw [hB] at DS
              subst eM
              have E1 := hide eX
              have E2 := hide eY
              clear eX eY ST HE hB
              obtain ⟨c0, c1, c2, c3⟩ := T7.out.c4
              have f0 := T7.out.frozen 0
              have f1 := T7.out.frozen 1
              have f2 := T7.out.frozen 2
              have f3 := T7.out.frozen 3
              obtain ⟨n0, n1, n2, n3⟩ := X7.out.c4
              have s8 := B7.out.size
              have ch8 := Chg.store4 (lo := w1.heap.size) (hi := w1.heap.size + 1) ((((w6.setCell ⟨w4.heap.size, 0, none⟩ (.int .i64 sd)).setCell ⟨w4.heap.size, 1, none⟩ (.slice (some ⟨g4, 0, none⟩) 11 k4)).setCell ⟨w4.heap.size, 2, none⟩ (.slice (some ⟨g5, 0, none⟩) 11 k5)).setCell ⟨w4.heap.size, 3, none⟩ (.int .i64 m6)) w1.heap.size (.int .i64 sd) (.slice (some ⟨g4, 0, none⟩) 11 k4) (.slice (some ⟨g5, 0, none⟩) 11 k5) (.int .i64 m6) (Nat.le_refl _) (by omega)
              have T8 := hide (T7.out.store4 (.int .i64 sd) (.slice (some ⟨g4, 0, none⟩) 11 k4) (.slice (some ⟨g5, 0, none⟩) 11 k5) (.int .i64 m6))
              have Z8 := hide (Z7.out.chg ch8 (.inl (by omega)))
              have O8 := hide (ownsRow_chg O7.out (row_top O7.out) ch8 (.inr (Nat.le_refl _)))
              have D8 := hide (D7.out.chg ch8 (.inr (by omega)))
              have W8 := hide (Below.thenChg W7.out ch8 (by omega))
              have s9 := ch8.size
              have CH7' := CH7.out
              clear ch8 T7 Z7 O7 D7 W7 DO7 CH7
              go_upto_region 17 with fail
              clear X7 x0' x1' x2' x3' xf0 xf1 xf2 xf3 X6b c0 c1 c2 c3 f0 f1 f2 f3 n0 n1 n2 n3 B7
              generalize hU : (((((((w6.setCell ⟨w4.heap.size, 0, none⟩ (.int .i64 sd)).setCell ⟨w4.heap.size, 1, none⟩ (.slice (some ⟨g4, 0, none⟩) 11 k4)).setCell ⟨w4.heap.size, 2, none⟩ (.slice (some ⟨g5, 0, none⟩) 11 k5)).setCell ⟨w4.heap.size, 3, none⟩ (.int .i64 m6)).setCell ⟨w1.heap.size, 0, none⟩ (.int .i64 sd)).setCell ⟨w1.heap.size, 1, none⟩ (.slice (some ⟨g4, 0, none⟩) 11 k4)).setCell ⟨w1.heap.size, 2, none⟩ (.slice (some ⟨g5, 0, none⟩) 11 k5)).setCell ⟨w1.heap.size, 3, none⟩ (.int .i64 m6) = u8 at *
              clear hU
              have OA := hide (ownsRow_below O8.out (below_box u8 (.cells #[.bool true] 4)))
              have CB := hide ((BoxAt.new u8 #[.bool true] 4).c1v)
              have s10 : wr.heap.size ≤ u8.heap.size := Nat.le_trans s8 s9
              have s11 : w4.heap.size ≤ u8.heap.size := by omega
              generalize hU2 : (((w6.setCell ⟨w4.heap.size, 0, none⟩ (.int .i64 sd)).setCell ⟨w4.heap.size, 1, none⟩ (.slice (some ⟨g4, 0, none⟩) 11 k4)).setCell ⟨w4.heap.size, 2, none⟩ (.slice (some ⟨g5, 0, none⟩) 11 k5)).setCell ⟨w4.heap.size, 3, none⟩ (.int .i64 m6) = u7 at *
              clear hU2
              go_wp2_with (at_builtin; refine wpList_append_bolP rfl _ _ rfl (w1.heap.size + 1) _ i (didB BB i) true rfl OA.out u8.heap.size rfl CB.out (by omega) (by simp; omega) ?_)
              intro g9 k9 w9 o9 gr9
              have o9 : w9.ownsRow (w1.heap.size + 1) 4 1 (.slice (some ⟨g9, 0, none⟩) (i + 1) k9) (i + 1) ((didB BB (i + 1)).map Value.bool) := by rw [DS.out]; simpa using o9
              have bb := below_box u8 (.cells #[.bool true] 4)
              have O9 := hide o9
              have oz := ownsRow_below O8.out bb
              have T9 := hide ((T8.out.below bb).kept gr9 (BoxAt.offT (T8.out.below bb) oz (by decide)))
              have Z9 := hide ((Z8.out.below bb).kept gr9 (BoxAt.offT (Z8.out.below bb) oz (by decide)))
              have D9 := hide ((D8.out.below bb).keptZ oz gr9)
              have W9 := hide ((W8.out.trans (bb.mono W8.out.size)).grown gr9 (by have := (W8.out.trans (bb.mono W8.out.size)).size; exact this) (fun k hk => by have := row_low oz k hk; omega))
              have t9 := gr9.size
              have t8 := bb.size
              clear o9 gr9 oz bb DS O8 T8 Z8 D8 W8
              go_wp2
              go_roundw
              case rel => exact ⟨i + 1, _, _, wr.heap.size, w4.heap.size, by omega, by go_num, ALN.out, O9.out, by rw [← E1.out, ← E2.out]; exact D9.out, ⟨by omega, by omega, .inr (by omega)⟩, by rw [← HM2.out]; exact T9.out, Z9.out, W9.out⟩
              case measure => simp [intOf]; omega
          · have hpos : 0 ≤ n := by omega
            go_wp2_with fail
            refine (putStep_calls sd mm n i g4 k4 g5 k5 (XX i) (YY i) (XX (i + 1)) (YY (i + 1)) m2 (BB i) _ _ _ D5.out (by simp) OKi.out hpos so2 ⟨by omega, by omega⟩ ST.out).mono ?_
            rintro e w6 ⟨X6, Y6, m6, c6, rfl, d6, hE, ch6⟩
            have HE := hide hE
            have B6 := Below.thenChg B5.out ch6 (Nat.le_refl _)
            have X6b := hide (X5.out.chg ch6 (.inr (Nat.le_refl _)))
            have s6 := ch6.size
            simp only [World.size_alloc] at s6
            obtain ⟨x0', x1', x2', x3'⟩ := X6b.out.c4
            have xf0 := X6b.out.frozen 0
            have xf1 := X6b.out.frozen 1
            have xf2 := X6b.out.frozen 2
            have xf3 := X6b.out.frozen 3
            have ch7 := Chg.store4 (lo := w4.heap.size) (hi := w4.heap.size + 1) w6 w4.heap.size (.int .i64 sd) (.slice (some ⟨g4, 0, none⟩) 11 k4) (.slice (some ⟨g5, 0, none⟩) 11 k5) (.int .i64 m6) (Nat.le_refl _) (by omega)
            have X7 := hide (X6b.out.store4 (.int .i64 sd) (.slice (some ⟨g4, 0, none⟩) 11 k4) (.slice (some ⟨g5, 0, none⟩) 11 k5) (.int .i64 m6))
            have B7 := hide (Below.thenChg B6 ch7 s4)
            have D7 := hide (d6.chg ch7 (.inl (Nat.le_refl _)))
            have CH7 := hide ch7.size
            clear ch6 d6 B6 ch7 X5 D5 B5 hE x0 x1 x2 x3
            have T7 := hide (T.out.below B7.out)
            have Z7 := hide (Z.out.below B7.out)
            have O7 := hide (ownsRow_below O.out B7.out)
            have W7 := hide (WB.out.trans (B7.out.mono WB.out.size))
            have DO7 := hide (D.out.below B7.out)
            clear T Z O WB D
            cases hB : BB i with
            | false =>
              rw [hB] at ST HE
              obtain ⟨eX, eY, eM⟩ := ST.out.same
              have E1 := hide eX
              have E2 := hide eY
              have E3 := hide eM
              have DS := hide (didB_succ BB i)
              rw [hB] at DS
              clear eX eY eM ST HE hB
              go_upto_region 17 with fail
              have s8 := B7.out.size
              clear X7 D7 x0' x1' x2' x3' xf0 xf1 xf2 xf3 X6b CH7
              generalize hU : (((w6.setCell ⟨w4.heap.size, 0, none⟩ (.int .i64 sd)).setCell ⟨w4.heap.size, 1, none⟩ (.slice (some ⟨g4, 0, none⟩) 11 k4)).setCell ⟨w4.heap.size, 2, none⟩ (.slice (some ⟨g5, 0, none⟩) 11 k5)).setCell ⟨w4.heap.size, 3, none⟩ (.int .i64 m6) = u7 at *
              clear hU
              have OA := hide (ownsRow_below O7.out (below_box u7 (.cells #[.bool false] 4)))
              have CB := hide ((BoxAt.new u7 #[.bool false] 4).c1v)
              go_wp2_with (at_builtin; refine wpList_append_bolP rfl _ _ rfl (w1.heap.size + 1) _ i (didB BB i) false rfl OA.out u7.heap.size rfl CB.out (by omega) (by simp; omega) ?_)
              intro g9 k9 w9 o9 gr9
              have o9 : w9.ownsRow (w1.heap.size + 1) 4 1 (.slice (some ⟨g9, 0, none⟩) (i + 1) k9) (i + 1) ((didB BB (i + 1)).map Value.bool) := by rw [DS.out]; simpa using o9
              have bb := below_box u7 (.cells #[.bool false] 4)
              have O9 := hide o9
              have oz := ownsRow_below O7.out bb
              have T9 := hide ((T7.out.below bb).kept gr9 (BoxAt.offT (T7.out.below bb) oz (by decide)))
              have Z9 := hide ((Z7.out.below bb).kept gr9 (BoxAt.offT (Z7.out.below bb) oz (by decide)))
              have D9 := hide ((DO7.out.below bb).keptZ oz gr9)
              have W9 := hide ((W7.out.trans (bb.mono W7.out.size)).grown gr9 (by have := (W7.out.trans (bb.mono W7.out.size)).size; exact this) (fun k hk => by have := row_low oz k hk; omega))
              have s9 := gr9.size
              have s7 := bb.size
              clear o9 gr9 oz bb DS O7 T7 Z7 DO7 W7
              go_wp2
              go_roundw
              case rel => exact ⟨i + 1, _, _, lo, hi, by omega, by go_num, ALN.out, O9.out, by rw [E1.out, E2.out]; exact D9.out, ⟨hb1, by omega, hb3⟩, by rw [← HM2.out, E3.out]; exact T9.out, Z9.out, W9.out⟩
              case measure => simp [intOf]; omega
            | true =>
              rw [hB] at ST HE
              obtain ⟨eX, eY, eM⟩ := HE.out rfl
              have DS := hide (didB_succ BB i)
              rw [hB] at DS
              subst eM
              have E1 := hide eX
              have E2 := hide eY
              clear eX eY ST HE hB
              obtain ⟨c0, c1, c2, c3⟩ := T7.out.c4
              have f0 := T7.out.frozen 0
              have f1 := T7.out.frozen 1
              have f2 := T7.out.frozen 2
              have f3 := T7.out.frozen 3
              obtain ⟨n0, n1, n2, n3⟩ := X7.out.c4
              have s8 := B7.out.size
              have ch8 := Chg.store4 (lo := w1.heap.size) (hi := w1.heap.size + 1) ((((w6.setCell ⟨w4.heap.size, 0, none⟩ (.int .i64 sd)).setCell ⟨w4.heap.size, 1, none⟩ (.slice (some ⟨g4, 0, none⟩) 11 k4)).setCell ⟨w4.heap.size, 2, none⟩ (.slice (some ⟨g5, 0, none⟩) 11 k5)).setCell ⟨w4.heap.size, 3, none⟩ (.int .i64 m6)) w1.heap.size (.int .i64 sd) (.slice (some ⟨g4, 0, none⟩) 11 k4) (.slice (some ⟨g5, 0, none⟩) 11 k5) (.int .i64 m6) (Nat.le_refl _) (by omega)
              have T8 := hide (T7.out.store4 (.int .i64 sd) (.slice (some ⟨g4, 0, none⟩) 11 k4) (.slice (some ⟨g5, 0, none⟩) 11 k5) (.int .i64 m6))
              have Z8 := hide (Z7.out.chg ch8 (.inl (by omega)))
              have O8 := hide (ownsRow_chg O7.out (row_top O7.out) ch8 (.inr (Nat.le_refl _)))
              have D8 := hide (D7.out.chg ch8 (.inr (by omega)))
              have W8 := hide (Below.thenChg W7.out ch8 (by omega))
              have s9 := ch8.size
              have CH7' := CH7.out
              clear ch8 T7 Z7 O7 D7 W7 DO7 CH7
              go_upto_region 17 with fail
              clear X7 x0' x1' x2' x3' xf0 xf1 xf2 xf3 X6b c0 c1 c2 c3 f0 f1 f2 f3 n0 n1 n2 n3 B7
              generalize hU : (((((((w6.setCell ⟨w4.heap.size, 0, none⟩ (.int .i64 sd)).setCell ⟨w4.heap.size, 1, none⟩ (.slice (some ⟨g4, 0, none⟩) 11 k4)).setCell ⟨w4.heap.size, 2, none⟩ (.slice (some ⟨g5, 0, none⟩) 11 k5)).setCell ⟨w4.heap.size, 3, none⟩ (.int .i64 m6)).setCell ⟨w1.heap.size, 0, none⟩ (.int .i64 sd)).setCell ⟨w1.heap.size, 1, none⟩ (.slice (some ⟨g4, 0, none⟩) 11 k4)).setCell ⟨w1.heap.size, 2, none⟩ (.slice (some ⟨g5, 0, none⟩) 11 k5)).setCell ⟨w1.heap.size, 3, none⟩ (.int .i64 m6) = u8 at *
              clear hU
              have OA := hide (ownsRow_below O8.out (below_box u8 (.cells #[.bool true] 4)))
              have CB := hide ((BoxAt.new u8 #[.bool true] 4).c1v)
              have s10 : wr.heap.size ≤ u8.heap.size := Nat.le_trans s8 s9
              have s11 : w4.heap.size ≤ u8.heap.size := by omega
              generalize hU2 : (((w6.setCell ⟨w4.heap.size, 0, none⟩ (.int .i64 sd)).setCell ⟨w4.heap.size, 1, none⟩ (.slice (some ⟨g4, 0, none⟩) 11 k4)).setCell ⟨w4.heap.size, 2, none⟩ (.slice (some ⟨g5, 0, none⟩) 11 k5)).setCell ⟨w4.heap.size, 3, none⟩ (.int .i64 m6) = u7 at *
              clear hU2
              go_wp2_with (at_builtin; refine wpList_append_bolP rfl _ _ rfl (w1.heap.size + 1) _ i (didB BB i) true rfl OA.out u8.heap.size rfl CB.out (by omega) (by simp; omega) ?_)
              intro g9 k9 w9 o9 gr9
              have o9 : w9.ownsRow (w1.heap.size + 1) 4 1 (.slice (some ⟨g9, 0, none⟩) (i + 1) k9) (i + 1) ((didB BB (i + 1)).map Value.bool) := by rw [DS.out]; simpa using o9
              have bb := below_box u8 (.cells #[.bool true] 4)
              have O9 := hide o9
              have oz := ownsRow_below O8.out bb
              have T9 := hide ((T8.out.below bb).kept gr9 (BoxAt.offT (T8.out.below bb) oz (by decide)))
              have Z9 := hide ((Z8.out.below bb).kept gr9 (BoxAt.offT (Z8.out.below bb) oz (by decide)))
              have D9 := hide ((D8.out.below bb).keptZ oz gr9)
              have W9 := hide ((W8.out.trans (bb.mono W8.out.size)).grown gr9 (by have := (W8.out.trans (bb.mono W8.out.size)).size; exact this) (fun k hk => by have := row_low oz k hk; omega))
              have t9 := gr9.size
              have t8 := bb.size
              clear o9 gr9 oz bb DS O8 T8 Z8 D8 W8
              go_wp2
              go_roundw
              case rel => exact ⟨i + 1, _, _, wr.heap.size, w4.heap.size, by omega, by go_num, ALN.out, O9.out, by rw [← E1.out, ← E2.out]; exact D9.out, ⟨by omega, by omega, .inr (by omega)⟩, by rw [← HM2.out]; exact T9.out, Z9.out, W9.out⟩
              case measure => simp [intOf]; omega
      · obtain rfl : i = ns.length := by omega
        obtain ⟨rfl, rfl, rfl, rfl, hS, rfl⟩ := HFIN.out AL.out
        obtain rfl := hS.symm
        clear HFIN HBAD hS
        obtain ⟨c0, c1, c2, c3⟩ := T.out.c4
        obtain ⟨z0, z1, z2, z3⟩ := Z.out.c4
        have y0 := Z.out.frozen 0
        have y1 := Z.out.frozen 1
        have y2 := Z.out.frozen 2
        have y3 := Z.out.frozen 3
        have ch := Chg.store4 (lo := w.heap.size) (hi := w.heap.size + 1) wr w.heap.size (.int .i64 sd) (.slice (some ⟨gl, 0, none⟩) 11 cl) (.slice (some ⟨gr, 0, none⟩) 11 cr) (.int .i64 (MM ns.length)) (Nat.le_refl _) (by omega)
        have Z9 := hide (Z.out.store4 (.int .i64 sd) (.slice (some ⟨gl, 0, none⟩) 11 cl) (.slice (some ⟨gr, 0, none⟩) 11 cr) (.int .i64 (MM ns.length)))
        have D9 := hide ((D.out.chg ch (.inr (by omega))).wider (lo' := w.heap.size) (by omega) hb2)
        have O9 := hide (ownsRow_mono (ownsRow_chg O.out (row_top O.out) ch (.inr (by omega))) (show w.heap.size ≤ w1.heap.size + 1 by omega))
        have W9 := hide (Below.thenChg WB.out ch (Nat.le_refl _))
        have CS := hide ch.size
        clear ch T Z D O WB
        go_wp2
        exact bodyPost_ret (res_tbz rfl _ _ w.heap.size _ _ _ _ (0, 0) rfl Z9.out) rfl ⟨_, _, _, rfl, D9.out.wider (Nat.le_refl _) CS.out, ownZ_of O9.out (didB_len _ _), W9.out⟩
end Go.Proofs.Ytehjfjplajimfaa

/-
  Numbers played on a new table: PlayTable of the program. The contract says what it asks.
-/
import Derived.Test.YtehjfjplajimfaaTpn
namespace Go.Proofs.Ytehjfjplajimfaa
open Go.RowKit
set_option linter.unusedVariables false
set_option linter.unusedSimpArgs false

theorem res_tbz {fn : Func} {x u v : Tmp} (hf : fn.results = #[.cell x 28, .tmp u, .tmp v]) (tmps : Array Value) (w : World) (g : Nat) (a b c d : Value) (fr : Nat × Nat) (hp : tmps.getD x undef = .pointer (some ⟨g, 0, none⟩))
    (hg : w.heap[g]? = some (.cells #[a, b, c, d] 28 fr)) : (results fn tmps).run Try.prog w = .ok (.tuple #[.agg #[a, b, c, d], tmps.getD u undef, tmps.getD v undef]) w := res_tb3 hf tmps w g a b c d fr hp hg
theorem ownZ_len {w : World} {base n : Nat} {v : Value} {xs : List Bool} (h : OwnZ w base v xs) (hn : xs.length = n) : w.ownsRow base 4 1 v n (xs.map Value.bool) := by
  subst hn
  exact h
theorem ownZ_of {w : World} {base n : Nat} {v : Value} {xs : List Bool} (h : w.ownsRow base 4 1 v n (xs.map Value.bool)) (hn : xs.length = n) : OwnZ w base v xs := by
  subst hn
  exact h
/-- Rows of unlike elements lie in unlike blocks. -/
theorem own_unlike {w : World} {lo lo' n k s s' : Nat} {e e' : TypeId} {v u : Value} {xs ys : List Value} (h : w.ownsRow lo e s v n xs) (h' : w.ownsRow lo' e' s' u k ys) (hne : e ≠ e') : v.ownBlock = none ∨ v.ownBlock ≠ u.ownBlock := by
  rcases h.2 with ⟨rfl, _⟩ | ⟨g, cap, cur, rfl, _, hg, _⟩
  · exact .inl rfl
  right
  rcases h'.2 with ⟨rfl, _⟩ | ⟨g', cap', cur', rfl, _, hg', _⟩
  · simp [Value.ownBlock]
  · intro e
    simp only [Value.ownBlock, Option.some.injEq] at e
    subst e
    rw [hg] at hg'
    simp only [Option.some.injEq, Obj.cells.injEq] at hg'
    exact hne hg'.2.1
set_option maxRecDepth 100000 in
set_option maxHeartbeats 3200000 in
theorem playTable_calls (sd : Int) (v : Value) (ns : List Int) (X Y : List Sl) (sX mX : Int) (bs : List Bool) (ok : Bool) (w : World) (h : Rd w v ns) (hf : PlAt sd ns X Y sX mX bs ok) :
    Calls Try.prog 23 #[.int .i64 sd, v] w fun e w' => ∃ l' r' v', e = .returned (.tuple #[.agg #[.int .i64 sX, l', r', .int .i64 mX], v', .bool ok]) ∧ TabV w' w.heap.size w'.heap.size l' r' X Y ∧ OwnZ w' w.heap.size v' bs ∧ Below w.heap.size w w' := by
  have R := hide h
  obtain ⟨a, cap, rfl, mh, hcm, _⟩ := h
  have hm := hcm.1
  unfold maxLen at hm
  clear hcm
  have A0 := hide ((Hand.start w).box nilT 28)
  obtain ⟨sb, hsb⟩ := bol_ex (sdOk sd)
  have NW := hide (fun W => newTable_calls sd sb W hsb)
  have HF := hide hf
  clear hf
  cases sb with
  | false =>
    obtain ⟨rfl, rfl, rfl, rfl, rfl, rfl⟩ : X = [] ∧ Y = [] ∧ sX = 0 ∧ mX = 0 ∧ bs = [] ∧ ok = false := by
      rcases HF.out with h | h
      · exact absurd h.1.1 (nf hsb)
      · exact h.2
    clear HF hsb
    go_enter Try.func23, Try.ntmps23
    go_wp2_with fail
    refine (NW.out _).mono ?_
    rintro e w1 ⟨l1, r1, rfl, d1, b1⟩
    obtain ⟨al1, cl1, ar1, cr1, e1, e2⟩ := d1.sl
    rw [show (rowX false).length = 0 from rfl] at e1 e2
    subst e1 e2
    have A1 := hide ((A0.out.step b1).box #[.int .i64 (intX false sd), .slice al1 0 cl1, .slice ar1 0 cr1, .int .i64 0] 28)
    clear b1 d1 A0
    obtain ⟨z0, z1, z2, z3⟩ := (A1.out.atBox 1 rfl).c4
    have y0 := (A1.out.atBox 1 rfl).frozen 0
    have y1 := (A1.out.atBox 1 rfl).frozen 1
    have y2 := (A1.out.atBox 1 rfl).frozen 2
    have y3 := (A1.out.atBox 1 rfl).frozen 3
    have A9 := hide (A1.out.store4 1 rfl (.int .i64 0) (.slice none 0 0) (.slice none 0 0) (.int .i64 0))
    go_wp2
    exact bodyPost_ret (res_tbz rfl _ _ (w.heap.size) _ _ _ _ (0, 0) rfl (A9.out.atBox 1 rfl)) rfl ⟨_, _, _, rfl, TabV.nil _ _ _, World.ownsRow_nil _ _ _ _, A9.out.below⟩
  | true =>
    have SD := hide (hsb.1 rfl)
    clear hsb
    by_cases hl80 : ns.length ≤ 80
    case neg =>
      have hl' : (80 : Int) < (ns.length : Int) := by omega
      obtain ⟨rfl, rfl, rfl, rfl, rfl, rfl⟩ : X = [] ∧ Y = [] ∧ sX = 0 ∧ mX = 0 ∧ bs = [] ∧ ok = false := by
        rcases HF.out with h | h
        · exact absurd h.1.2.1 hl80
        · exact h.2
      clear HF
      go_enter Try.func23, Try.ntmps23
      go_wp2_with fail
      refine (NW.out _).mono ?_
      rintro e w1 ⟨l1, r1, rfl, d1, b1⟩
      rw [show intX true sd = sd from rfl]
      rw [show rowX true = new11 from rfl] at d1
      obtain ⟨gl1, cl1, gr1, cr1, rfl, rfl⟩ := d1.form11 rfl rfl
      have A1 := hide ((A0.out.step b1).box #[.int .i64 sd, .slice (some ⟨gl1, 0, none⟩) 11 cl1, .slice (some ⟨gr1, 0, none⟩) 11 cr1, .int .i64 0] 28)
      clear b1 d1 A0
      obtain ⟨z0, z1, z2, z3⟩ := (A1.out.atBox 1 rfl).c4
      have y0 := (A1.out.atBox 1 rfl).frozen 0
      have y1 := (A1.out.atBox 1 rfl).frozen 1
      have y2 := (A1.out.atBox 1 rfl).frozen 2
      have y3 := (A1.out.atBox 1 rfl).frozen 3
      have A9 := hide (A1.out.store4 1 rfl (.int .i64 0) (.slice none 0 0) (.slice none 0 0) (.int .i64 0))
      go_wp2
      exact bodyPost_ret (res_tbz rfl _ _ (w.heap.size) _ _ _ _ (0, 0) rfl (A9.out.atBox 1 rfl)) rfl ⟨_, _, _, rfl, TabV.nil _ _ _, World.ownsRow_nil _ _ _ _, A9.out.below⟩
    have hl' : ¬ (80 : Int) < (ns.length : Int) := by omega
    obtain ⟨kb, hkb⟩ := bol_ex (∀ i, i < ns.length → stOk (ns.getD i 0))
    cases kb with
    | false =>
      obtain ⟨rfl, rfl, rfl, rfl, rfl, rfl⟩ : X = [] ∧ Y = [] ∧ sX = 0 ∧ mX = 0 ∧ bs = [] ∧ ok = false := by
        rcases HF.out with h | h
        · exact absurd h.1.2.2 (nf hkb)
        · exact h.2
      have NK := hide (nf hkb)
      clear HF hkb
      go_enter Try.func23, Try.ntmps23
      go_wp2_with fail
      refine (NW.out _).mono ?_
      rintro e w1 ⟨l1, r1, rfl, d1, b1⟩
      rw [show intX true sd = sd from rfl]
      rw [show rowX true = new11 from rfl] at d1
      obtain ⟨gl1, cl1, gr1, cr1, rfl, rfl⟩ := d1.form11 rfl rfl
      have A1 := hide ((A0.out.step b1).box #[.int .i64 sd, .slice (some ⟨gl1, 0, none⟩) 11 cl1, .slice (some ⟨gr1, 0, none⟩) 11 cr1, .int .i64 0] 28)
      clear b1 d1 A0
      go_wp2_with fail
      refine (allSteps_calls _ ns false _ (R.out.below A1.out.below) (bF NK.out)).mono ?_
      rintro e w2 ⟨rfl, rfl⟩
      obtain ⟨z0, z1, z2, z3⟩ := (A1.out.atBox 1 rfl).c4
      have y0 := (A1.out.atBox 1 rfl).frozen 0
      have y1 := (A1.out.atBox 1 rfl).frozen 1
      have y2 := (A1.out.atBox 1 rfl).frozen 2
      have y3 := (A1.out.atBox 1 rfl).frozen 3
      have A9 := hide (A1.out.store4 1 rfl (.int .i64 0) (.slice none 0 0) (.slice none 0 0) (.int .i64 0))
      go_wp2
      exact bodyPost_ret (res_tbz rfl _ _ (w.heap.size) _ _ _ _ (0, 0) rfl (A9.out.atBox 1 rfl)) rfl ⟨_, _, _, rfl, TabV.nil _ _ _, World.ownsRow_nil _ _ _ _, A9.out.below⟩
    | true =>
      have HK := hide (hkb.1 rfl)
      obtain ⟨XX, YY, MM, BB, hp, hX, hY, hM, hbs, hS, rfl⟩ : ∃ XX YY MM BB, Ply sd ns XX YY MM BB ∧ X = XX ns.length ∧ Y = YY ns.length ∧ mX = MM ns.length ∧ bs = didB BB ns.length ∧ sX = sd ∧ ok = true := by
        rcases HF.out with h | h
        · exact h.2
        · exact absurd ⟨SD.out, hl80, HK.out⟩ h.1
      obtain rfl := hS.symm
      have HP := hide hp
      subst hX hY hM hbs
      have OKS : Hid (∀ i, i ≤ ns.length → okT sd (XX i) (YY i) (MM i)) := fun i hi => hp.good SD.out hl80 i hi (fun j hj => HK.out j (by omega))
      clear HF hkb hp
      go_enter Try.func23, Try.ntmps23
      go_wp2_with fail
      refine (NW.out _).mono ?_
      rintro e w1 ⟨l1, r1, rfl, d1, b1⟩
      rw [show intX true sd = sd from rfl]
      rw [show rowX true = new11 from rfl] at d1
      obtain ⟨gl1, cl1, gr1, cr1, rfl, rfl⟩ := d1.form11 rfl rfl
      have A1 := hide ((A0.out.step b1).box #[.int .i64 sd, .slice (some ⟨gl1, 0, none⟩) 11 cl1, .slice (some ⟨gr1, 0, none⟩) 11 cr1, .int .i64 0] 28)
      have D1 : Hid (TabV (w1.alloc (.cells #[.int .i64 sd, .slice (some ⟨gl1, 0, none⟩) 11 cl1, .slice (some ⟨gr1, 0, none⟩) 11 cr1, .int .i64 0] 28)) (w.heap.size + 1) w1.heap.size (.slice (some ⟨gl1, 0, none⟩) 11 cl1) (.slice (some ⟨gr1, 0, none⟩) 11 cr1) new11 new11) := (d1.wider (by simp) (Nat.le_refl _)).below (below_box _ _)
      have s0 := b1.size
      simp only [World.size_alloc] at s0
      clear b1 d1 A0
      go_wp2_with fail
      refine (allSteps_calls _ ns true _ (R.out.below A1.out.below) (bT HK.out)).mono ?_
      rintro e w2 ⟨rfl, rfl⟩
      go_wp2_with (at_make; refine wpList_make_bols rfl _ _ rfl (w1.heap.size + 1) _ _ ns.length rfl rfl (by omega) (by omega) (by omega) (by simp) ?_)
      intro w2 o2 g2
      generalize hW1 : w1.alloc (.cells #[.int .i64 sd, .slice (some ⟨gl1, 0, none⟩) 11 cl1, .slice (some ⟨gr1, 0, none⟩) 11 cr1, .int .i64 0] 28) = u1 at *
      have su : u1.heap.size = w1.heap.size + 1 := by rw [← hW1]; simp
      clear hW1
      have b2 : Below u1.heap.size u1 w2 := (Below.refl _ _).grown g2 (Nat.le_refl _) (fun k h => by cases h)
      have o2' : OwnZ w2 u1.heap.size (.slice (some ⟨w1.heap.size + 1, 0, none⟩) ns.length ns.length) (rowB BB ns.length 0) := by rw [rowB_zero, su]; exact o2
      have A2 := hide (A1.out.add b2 (TBols.st _ _) ⟨o2', row_top o2'⟩)
      have D2 := hide (D1.out.below b2)
      have s2 : w1.heap.size + 1 < w2.heap.size := row_top o2' (w1.heap.size + 1) rfl
      clear o2 o2' g2 b2 A1 D1 su
      go_wp2
      go_loopw [37] (fun vi wr => ∃ (i : Nat) (lv rv : Value) (lo hi : Nat), i ≤ ns.length ∧ vi = .int .i64 i ∧ TabV wr lo hi lv rv (XX i) (YY i) ∧ (w.heap.size + 1 ≤ lo ∧ hi ≤ wr.heap.size ∧ (hi ≤ w1.heap.size ∨ w1.heap.size + 2 ≤ lo)) ∧ Hand w wr [TBols (.slice (some ⟨w1.heap.size + 1, 0, none⟩) ns.length ns.length) (rowB BB ns.length i), TBox w1.heap.size #[.int .i64 sd, lv, rv, .int .i64 (MM i)] 28, TBox w.heap.size nilT 28]) (fun vi _ => ns.length - (intOf vi).toNat)
      case atStart => exact ⟨0, _, _, _, _, Nat.zero_le _, rfl, by rw [HP.out.x0, HP.out.y0]; exact D2.out, ⟨Nat.le_refl _, by omega, .inl (Nat.le_refl _)⟩, by rw [HP.out.m0]; exact A2.out⟩
      case round =>
        obtain ⟨i, lv, rv, lo, hi, hi', rfl, hd, hb, hA⟩ := hrel
        obtain ⟨hb1, hb2, hb3⟩ := hb
        have OKi := hide (OKS.out i hi')
        obtain ⟨gl, cl, gr, cr, rfl, rfl⟩ := hd.form11 OKi.out.2.1.1 OKi.out.2.2.1.1
        have D := hide hd
        have A := hide hA
        have lw' : w1.heap.size < wr.heap.size := (A.out.atBox 1 rfl).lt
        clear hd hA A2 D2 s2
        by_cases hlt : i < ns.length
        · have hlt' : (i : Int) < (ns.length : Int) := by omega
          obtain ⟨b, off, rfl, hc1⟩ := (R.out.below A.out.below).cellAt i hlt
          have ST := hide (HP.out.step i)
          have SO := hide (HK.out i hlt)
          have OK2 := hide (OKS.out (i + 1) (by omega))
          generalize ns.getD i 0 = n at hc1 ST SO
          obtain ⟨lr0, hr0, tr0⟩ := A.out.get 0 rfl
          have lr : w1.heap.size + 1 < wr.heap.size := row_top tr0.1 (w1.heap.size + 1) rfl
          clear tr0
          obtain ⟨mm, hmm⟩ : ∃ q, q = MM i := ⟨_, rfl⟩
          rw [← hmm] at A ST OKi
          have HMM := hide hmm
          clear hmm
          obtain ⟨c0, c1, c2, c3⟩ := (A.out.atBox 1 rfl).c4
          cases hB : BB i with
          | false =>
            rw [hB] at ST
            obtain ⟨eX, eY, eM⟩ := ST.out.same
            have PN := hide (fun W h1 h2 => playNumber_calls sd mm n i (.slice (some ⟨gl, 0, none⟩) 11 cl) (.slice (some ⟨gr, 0, none⟩) 11 cr) (XX i) (YY i) (XX (i + 1)) (YY (i + 1)) (MM (i + 1)) false W h1 h2 OKi.out SO.out ⟨by omega, by omega⟩ ST.out)
            have RS := hide (rowB_skip BB ns.length i hlt hB)
            have FIN : Hid (∀ w', TabV w' lo hi (.slice (some ⟨gl, 0, none⟩) 11 cl) (.slice (some ⟨gr, 0, none⟩) 11 cr) (XX i) (YY i) → TabV w' lo hi (.slice (some ⟨gl, 0, none⟩) 11 cl) (.slice (some ⟨gr, 0, none⟩) 11 cr) (XX (i + 1)) (YY (i + 1))) := by rw [eX, eY]; exact fun _ h => h
            have EMM := hide eM
            clear eX eY eM ST hB
            go_wp2_with fail
            refine (PN.out _ D.out.rl D.out.rr).mono ?_
            rintro e w5 ⟨X', Y', s', m', l5, r5, rfl, d5, _, b5⟩
            obtain ⟨a5, k5, a6, k6, rfl, rfl⟩ := d5.sl
            have bx := b5.trans ((below_box w5 (.cells #[.int .i64 s', .slice a5 X'.length k5, .slice a6 Y'.length k6, .int .i64 m'] 28)).mono b5.size)
            have A5 := hide (A.out.step bx)
            have D5 := hide (FIN.out _ (D.out.below bx))
            have s5 := bx.size
            clear b5 d5 A D c0 c1 c2 c3 FIN bx hc1
            go_wp2
            go_roundw
            case rel => exact ⟨i + 1, _, _, lo, hi, by omega, by go_num, D5.out, ⟨hb1, by omega, hb3⟩, by rw [EMM.out, RS.out]; exact A5.out⟩
            case measure => simp [intOf]; omega
          | true =>
            rw [hB] at ST
            have PN := hide (fun W h1 h2 => playNumber_calls sd mm n i (.slice (some ⟨gl, 0, none⟩) 11 cl) (.slice (some ⟨gr, 0, none⟩) 11 cr) (XX i) (YY i) (XX (i + 1)) (YY (i + 1)) (MM (i + 1)) true W h1 h2 OKi.out SO.out ⟨by omega, by omega⟩ ST.out)
            have RS := rowB_set BB ns.length i hlt
            rw [hB] at RS
            have HRS := hide RS
            clear RS ST hB
            go_wp2_with fail
            refine (PN.out _ D.out.rl D.out.rr).mono ?_
            rintro e w5 ⟨X', Y', s', m', l5, r5, rfl, d5, hE, b5⟩
            obtain ⟨eX, eY, eS, eM⟩ := hE trivial
            have eS' := eS.symm
            subst eX eY eS'
            obtain ⟨g5, k5, g6, k6, rfl, rfl⟩ := d5.form11 OK2.out.2.1.1 OK2.out.2.2.1.1
            have HQ := hide eM
            clear eM hE eS
            have bx := below_box w5 (.cells #[.int .i64 sd, .slice (some ⟨g5, 0, none⟩) 11 k5, .slice (some ⟨g6, 0, none⟩) 11 k6, .int .i64 m'] 28)
            have N5 := hide (BoxAt.new w5 #[.int .i64 sd, .slice (some ⟨g5, 0, none⟩) 11 k5, .slice (some ⟨g6, 0, none⟩) 11 k6, .int .i64 m'] 28)
            have A5 := hide ((A.out.step b5).step bx)
            have D5 := hide (d5.below bx)
            have s5 := b5.size
            have s6 := bx.size
            clear b5 d5 A D c0 c1 c2 c3 bx hc1
            obtain ⟨n0, n1, n2, n3⟩ := N5.out.c4
            obtain ⟨c0, c1, c2, c3⟩ := (A5.out.atBox 1 rfl).c4
            have f0 := (A5.out.atBox 1 rfl).frozen 0
            have f1 := (A5.out.atBox 1 rfl).frozen 1
            have f2 := (A5.out.atBox 1 rfl).frozen 2
            have f3 := (A5.out.atBox 1 rfl).frozen 3
            obtain ⟨lq, hq, tq⟩ := A5.out.get 0 rfl
            have oq := ownZ_len tq.1 (rowB_len BB ns.length i (by omega))
            have x0 := oq.frozenAt i
            obtain ⟨old, x1⟩ : ∃ old, (w5.alloc (.cells #[.int .i64 sd, .slice (some ⟨g5, 0, none⟩) 11 k5, .slice (some ⟨g6, 0, none⟩) 11 k6, .int .i64 m'] 28)).cell? ⟨w1.heap.size + 1, i, none⟩ = some old := by
              rw [oq.cellAt i (by omega)]
              exact ⟨_, List.getElem?_eq_getElem (by rw [List.length_map, rowB_len BB ns.length i (by omega)]; exact hlt)⟩
            clear tq oq
            have A6 := A5.out.store4 1 rfl (.int .i64 sd) (.slice (some ⟨g5, 0, none⟩) 11 k5) (.slice (some ⟨g6, 0, none⟩) 11 k6) (.int .i64 m')
            obtain ⟨l6, h6, tb6, _, _, put6⟩ := A6.open 0 rfl
            have o6 := ownZ_len tb6.1 (rowB_len BB ns.length i (by omega))
            have st6 := o6.stored i (.bool true)
            rw [← List.map_set, HRS.out] at st6
            have o7 := ownZ_of st6.1 (rowB_len BB ns.length (i + 1) (by omega))
            have A7 := hide (put6 _ (TBols _ (rowB BB ns.length (i + 1))) (TBols.st _ _) ⟨o7, tb6.2⟩ (Chg.ofSetCell _ (w1.heap.size + 1) i (.bool true) (row_low o6 _ rfl) (tb6.2 _ rfl)))
            have D7 := hide ((D5.out.chg (Chg.store4 (lo := w1.heap.size) (hi := w1.heap.size + 1) _ w1.heap.size (.int .i64 sd) (.slice (some ⟨g5, 0, none⟩) 11 k5) (.slice (some ⟨g6, 0, none⟩) 11 k6) (.int .i64 m') (Nat.le_refl _) (by omega)) (.inr (by omega))).chg (Chg.ofSetCell (lo := w1.heap.size + 1) (hi := w1.heap.size + 2) _ (w1.heap.size + 1) i (.bool true) (Nat.le_refl _) (by omega)) (.inr (by omega)))
            clear A6 put6 o6 st6 o7 tb6 A5 D5
            go_wp2
            go_roundw
            case rel => exact ⟨i + 1, _, _, wr.heap.size, w5.heap.size, by omega, by go_num, D7.out, ⟨by omega, by simp, .inr (by omega)⟩, by rw [← HQ.out]; exact A7.out⟩
            case measure => simp [intOf]; omega
        · obtain rfl : i = ns.length := by omega
          rw [rowB_end] at A
          obtain ⟨c0, c1, c2, c3⟩ := (A.out.atBox 1 rfl).c4
          obtain ⟨z0, z1', z2', z3⟩ := (A.out.atBox 2 rfl).c4
          have y0 := (A.out.atBox 2 rfl).frozen 0
          have y1 := (A.out.atBox 2 rfl).frozen 1
          have y2 := (A.out.atBox 2 rfl).frozen 2
          have y3 := (A.out.atBox 2 rfl).frozen 3
          have A9 := hide (A.out.store4 2 rfl (.int .i64 sd) (.slice (some ⟨gl, 0, none⟩) 11 cl) (.slice (some ⟨gr, 0, none⟩) 11 cr) (.int .i64 (MM ns.length)))
          have D9 := hide (D.out.chg (Chg.store4 (lo := w.heap.size) (hi := w.heap.size + 1) wr w.heap.size (.int .i64 sd) (.slice (some ⟨gl, 0, none⟩) 11 cl) (.slice (some ⟨gr, 0, none⟩) 11 cr) (.int .i64 (MM ns.length)) (Nat.le_refl _) (by omega)) (.inr (by omega)))
          clear A D
          go_wp2
          obtain ⟨l9, h9, t9, hl9, _, _⟩ := A9.out.open 0 rfl
          exact bodyPost_ret (res_tbz rfl _ _ w.heap.size _ _ _ _ (0, 0) rfl (A9.out.atBox 2 rfl)) rfl ⟨_, _, _, rfl, D9.out.wider (by omega) (by simpa using hb2), ownsRow_mono t9.1 hl9, A9.out.below⟩
end Go.Proofs.Ytehjfjplajimfaa

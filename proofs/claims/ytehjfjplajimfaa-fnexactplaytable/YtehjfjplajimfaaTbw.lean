/-
  The program's GoodTable. The contract says what it asks.
-/
import Derived.Test.YtehjfjplajimfaaTbv
namespace Go.Proofs.Ytehjfjplajimfaa
open Go.RowKit
set_option linter.unusedVariables false

set_option maxRecDepth 100000 in
set_option maxHeartbeats 12800000 in
theorem goodTable_calls (s m : Int) (l r : Value) (ls rs : List Sl) (t : Bool) (w : World) (hl : RdS w l ls) (hr : RdS w r rs) (ht : t = true ↔ okT s ls rs m) :
    Calls Try.prog 62 #[.agg #[.int .i64 s, l, r, .int .i64 m]] w fun e w' => e = .returned (.bool t) ∧ Below w.heap.size w w' := by
  have HT := hide ht
  clear ht
  obtain ⟨al, cl, rfl, _, _⟩ := hl.sl
  obtain ⟨ar, cr, rfl, _, _⟩ := hr.sl
  have RL := hide hl
  have RR := hide hr
  clear hl hr
  have A0 := hide ((Hand.start w).box #[.int .i64 s, .slice al ls.length cl, .slice ar rs.length cr, .int .i64 m] 28)
  obtain ⟨sb, hsb⟩ := bol_ex (sdOk s)
  have SB := hide hsb
  clear hsb
  cases sb with
  | false =>
    obtain rfl : t = false := not_t HT.out (fun h => nf SB.out h.1)
    have SF := hide (nf SB.out)
    clear HT SB
    go_enter Try.func62, Try.ntmps62
    go_wp2_with (go_at_call 96; refine (isSeed_calls _ false _ (bF SF.out)).mono ?_; rintro e w' ⟨rfl, rfl⟩)
    go_ret
    exact ⟨rfl, A0.out.below⟩
  | true =>
    have HS := hide (SB.out.1 rfl)
    clear SB
    by_cases h1 : ls.length = 11
    case neg =>
      obtain rfl : t = false := not_t HT.out (fun h => h1 h.2.1.1)
      have h1' : ((ls.length : Int) != 11) = true := by simp; omega
      clear HT
      go_enter Try.func62, Try.ntmps62
      go_wp2_with (go_at_call 96; refine (isSeed_calls _ true _ (bT HS.out)).mono ?_; rintro e w' ⟨rfl, rfl⟩)
      go_ret
      exact ⟨rfl, A0.out.below⟩
    case pos =>
    by_cases h2 : rs.length = 11
    case neg =>
      obtain rfl : t = false := not_t HT.out (fun h => h2 h.2.2.1.1)
      have h1' : ((ls.length : Int) != 11) = false := by simp; omega
      have h2' : ((rs.length : Int) != 11) = true := by simp; omega
      clear HT h1
      go_enter Try.func62, Try.ntmps62
      go_wp2_with (go_at_call 96; refine (isSeed_calls _ true _ (bT HS.out)).mono ?_; rintro e w' ⟨rfl, rfl⟩)
      go_ret
      exact ⟨rfl, A0.out.below⟩
    case pos =>
    have NOls : Hid (¬ (∀ i, i < ls.length → slOk (plN 0 s) i (ls.getD i sl0)) → t = false) := fun h => not_t HT.out (fun h' => h h'.2.1.2)
    have NOrs : Hid (¬ (∀ i, i < rs.length → slOk (plN 1 s) i (rs.getD i sl0)) → t = false) := fun h => not_t HT.out (fun h' => h h'.2.2.1.2)
    have H1 := hide h1
    have H2 := hide h2
    have h1' : ((ls.length : Int) != 11) = false := by simp; omega
    have h2' : ((rs.length : Int) != 11) = false := by simp; omega
    have hzl : ls.length ≤ 400 := by omega
    have hzr : rs.length ≤ 400 := by omega
    clear h1 h2
    go_enter Try.func62, Try.ntmps62
    go_wp2_with fail
    refine (isSeed_calls _ true _ (bT HS.out)).mono ?_
    rintro e w' ⟨rfl, rfl⟩
    go_wp2_with fail
    refine (slotRows_calls s m al ar ls.length cl rs.length cr _).mono ?_
    rintro e w1 ⟨rfl, b1⟩
    have B1 := hide (A0.out.step b1).below
    have X1 := hide ((A0.out.step b1).atBox 0 rfl)
    clear b1 A0 h1' h2'
    go_wp2
    go_loopw [26] (fun vj wr => ∃ (j : Int), (0 ≤ j ∧ j ≤ 2) ∧ vj = .int .i64 j ∧ (0 < j → ∀ i, i < ls.length → slOk (plN 0 s) i (ls.getD i sl0)) ∧ (1 < j → ∀ i, i < rs.length → slOk (plN 1 s) i (rs.getD i sl0)) ∧ Below w.heap.size w wr ∧ BoxAt wr w.heap.size #[.int .i64 s, .slice al ls.length cl, .slice ar rs.length cr, .int .i64 m] 28) (fun vj _ => 2 - (intOf vj).toNat)
    case atStart => exact ⟨0, ⟨by omega, by omega⟩, rfl, fun h => by omega, fun h => by omega, B1.out, X1.out⟩
    case round =>
      obtain ⟨j, hj, rfl, hL, hR, hb, hx0⟩ := hrel
      have HL := hide hL
      have HRR := hide hR
      have B := hide hb
      have X := hide hx0
      clear hL hR hb hx0 B1 X1
      obtain ⟨wo, hwo⟩ : ∃ u, u = wr := ⟨_, rfl⟩
      rw [← hwo] at B X ⊢
      clear hwo wr
      by_cases hj2 : j < 2
      · obtain ⟨nn, row, ra, rc, ix, hR, hnn, hno, hyes, hlen⟩ : ∃ (nn : Nat) (row : List Sl) (ra : Option Addr) (rc : Nat), (∀ W, (Instr.index 108 (.agg #[.slice al ls.length cl, .slice ar rs.length cr]) (.int .i64 j)).run Try.prog W = .ok (.slice ra row.length rc) W) ∧ RdS w (.slice ra row.length rc) row ∧ ((nn = 0 ∨ nn = 1) ∧ (nn : Int) = j) ∧ (¬ (∀ i, i < row.length → slOk (plN nn s) i (row.getD i sl0)) → t = false) ∧ ((∀ i, i < row.length → slOk (plN nn s) i (row.getD i sl0)) → ((0 < j + 1 → ∀ i, i < ls.length → slOk (plN 0 s) i (ls.getD i sl0)) ∧ (1 < j + 1 → ∀ i, i < rs.length → slOk (plN 1 s) i (rs.getD i sl0)))) ∧ row.length ≤ 400 := by
          have h3 : j = 0 ∨ j = 1 := by omega
          rcases h3 with rfl | rfl
          · exact ⟨0, ls, al, cl, fun W => ixR0 _ _ W, RL.out, ⟨.inl rfl, rfl⟩, NOls.out, fun h => ⟨fun _ => h, fun h' => by omega⟩, hzl⟩
          · exact ⟨1, rs, ar, cr, fun W => ixR1 _ _ W, RR.out, ⟨.inr rfl, rfl⟩, NOrs.out, fun h => ⟨fun _ => HL.out (by omega), fun _ => h⟩, hzr⟩
        have RW := hide hR
        have NOrow := hide hno
        have YS := hide hyes
        have NN := hide hnn
        have EJ := hide hnn.2
        clear hR hno hyes HL HRR NOls NOrs
        have SA : Hid (∀ (x z : Int) (u : Bool) (k : Nat) (tb : Bool) (W : World), (tb = true ↔ (u = true ∧ kOk x ∧ kOk z ∧ plN nn s x = (k : Int))) → Calls Try.prog 98 #[.int .i64 s, .agg #[.bool u, .int .i64 x, .int .i64 z], .int .i64 j, .int .i64 k] W fun e w' => e = .returned (.bool tb) ∧ Below W.heap.size W w') := fun x z u k tb W htb => by
          rw [← EJ.out]
          exact isSlotAt_calls s x z u nn k tb W HS.out NN.out.1 htb
        clear hnn
        go_wp2
        go_loopw [32] (fun vi wr => ∃ (k : Nat), k ≤ row.length ∧ vi = .int .i64 k ∧ (∀ i, i < k → slOk (plN nn s) i (row.getD i sl0)) ∧ Below w.heap.size w wr ∧ BoxAt wr w.heap.size #[.int .i64 s, .slice al ls.length cl, .slice ar rs.length cr, .int .i64 m] 28) (fun vi _ => row.length - (intOf vi).toNat)
        case atStart => exact ⟨0, Nat.zero_le _, rfl, fun i hi => by omega, B.out, X.out⟩
        case round =>
          obtain ⟨k, hk, rfl, hok, hb, hx0⟩ := hrel
          have OK := hide hok
          have B := hide hb
          have X := hide hx0
          clear hok hb hx0
          by_cases hlt : k < row.length
          · obtain ⟨b, off, u, x, z, rfl, hx, _, c0, c1, c2⟩ := (RW.out.below B.out).at k hlt
            have hlt' : (k : Int) < (row.length : Int) := by omega
            have HX := hide hx
            clear hx
            have bx := below_box wr (.cells #[.bool u, .int .i64 x, .int .i64 z] 81)
            have x0 := (X.out.below bx).cell 0
            have BX := hide (B.out.trans (bx.mono B.out.size))
            have XX := hide (X.out.below bx)
            clear bx
            have NO : Hid (¬ slOk (plN nn s) k (u, x, z) → t = false) := fun h => NOrow.out (fun h' => h (by have := h' k hlt; rwa [HX.out] at this))
            have YES : Hid (slOk (plN nn s) k (u, x, z) → ∀ i, i < k + 1 → slOk (plN nn s) i (row.getD i sl0)) := fun h i hi => by
              by_cases e : i = k
              · subst e; rw [HX.out]; exact h
              · exact OK.out i (by omega)
            cases u with
            | false =>
              by_cases hxx : x = 0
              · subst hxx
                by_cases hzz : z = 0
                · subst hzz
                  have Y := hide (YES.out (.inl rfl))
                  go_wp2
                  exact ⟨⟨k + 1, by omega, by go_num, Y.out, BX.out, XX.out⟩, by simp [intOf]; omega⟩
                · obtain rfl : t = false := NO.out (by
                    rintro (h | h)
                    · simp [sl0] at h; exact hzz h
                    · simp at h)
                  have hz' : (z == 0) = false := by simpa using hzz
                  go_wp2_with fail
                  refine (SA.out 0 z false k false _ (bF (fun h => by simp at h))).mono ?_
                  rintro e w2 ⟨rfl, b2⟩
                  have B2 := hide (BX.out.trans (b2.mono BX.out.size))
                  clear b2
                  go_wp2
                  go_ret
                  exact ⟨rfl, B2.out⟩
              · obtain rfl : t = false := NO.out (by
                  rintro (h | h)
                  · simp [sl0] at h; exact hxx h.1
                  · simp at h)
                have hx' : (x == 0) = false := by simpa using hxx
                go_wp2_with fail
                refine (SA.out x z false k false _ (bF (fun h => by simp at h))).mono ?_
                rintro e w2 ⟨rfl, b2⟩
                have B2 := hide (BX.out.trans (b2.mono BX.out.size))
                clear b2
                go_wp2
                go_ret
                exact ⟨rfl, B2.out⟩
            | true =>
              obtain ⟨tb, htb⟩ := bol_ex (true = true ∧ kOk x ∧ kOk z ∧ plN nn s x = (k : Int))
              have TB := hide htb
              clear htb
              have AT := hide (fun W => SA.out x z true k tb W TB.out)
              cases tb with
              | true =>
                have Y := hide (YES.out (.inr (TB.out.1 rfl)))
                go_wp2_with fail
                refine (AT.out _).mono ?_
                rintro e w2 ⟨rfl, b2⟩
                have B2 := hide (BX.out.trans (b2.mono BX.out.size))
                have X2 := hide (XX.out.below b2)
                clear b2
                go_wp2
                exact ⟨⟨k + 1, by omega, by go_num, Y.out, B2.out, X2.out⟩, by simp [intOf]; omega⟩
              | false =>
                obtain rfl : t = false := NO.out (by
                  rintro (h | h)
                  · simp [sl0] at h
                  · exact nf TB.out h)
                go_wp2_with fail
                refine (AT.out _).mono ?_
                rintro e w2 ⟨rfl, b2⟩
                have B2 := hide (BX.out.trans (b2.mono BX.out.size))
                clear b2
                go_wp2
                go_ret
                exact ⟨rfl, B2.out⟩
          · obtain rfl : k = row.length := by omega
            obtain ⟨y1, y2⟩ := YS.out OK.out
            have Y1 := hide y1
            have Y2 := hide y2
            clear y1 y2
            go_wp2
            exact ⟨⟨j + 1, ⟨by omega, by omega⟩, by go_num, Y1.out, Y2.out, B.out, X.out⟩, by simp [intOf]; omega⟩
      · obtain rfl : j = 2 := by omega
        clear hj hj2
        have LT : Hid (rowOk (fs s) ls) := ⟨H1.out, HL.out (by omega)⟩
        have RT : Hid (rowOk (sn s) rs) := ⟨H2.out, HRR.out (by omega)⟩
        clear HL HRR NOls NOrs
        obtain ⟨c0, c1, c2, c3⟩ := X.out.c4
        go_wp2_with fail
        refine (keysOf_calls s m _ _ ls rs _ (RL.out.below B.out) (RR.out.below B.out) hzl hzr LT.out.plain RT.out.plain).mono ?_
        rintro e w2 ⟨⟨g, n, ds, rfl, o2, hn, hp, hr⟩, b2⟩
        have HN := hide hn
        have HP := hide hp
        have HRi := hide hr
        have O2 := hide o2
        have B2 := hide (B.out.trans (b2.mono B.out.size))
        have X2 := X.out.below b2
        clear hn hp hr o2 b2 c0 c1 c2 c3
        obtain ⟨c0, c1, c2, c3⟩ := X2.c4
        clear X2
        have KB : Hid (∀ x ∈ ky ds, 0 ≤ x ∧ x < 10000) := by
          intro x hx
          have hx' := (ky_perm HP.out).mem_iff.1 hx
          rw [ky_app, List.mem_append] at hx'
          rcases hx' with h | h
          · obtain ⟨y, hy, rfl⟩ := List.mem_map.1 h
            have := (us_at LT.out hy).2.1
            exact ⟨this.1, by have := this.2; omega⟩
          · obtain ⟨y, hy, rfl⟩ := List.mem_map.1 h
            have := (us_at RT.out hy).2.1
            exact ⟨this.1, by have := this.2; omega⟩
        have RI : Hid (risesK (ky ds) 10000 = true ↔ (ky (us ls ++ us rs)).Nodup) := by
          show _ ↔ _
          rw [risesK_iff2 _ _ KB.out]
          exact rising_keys HP.out HRi.out
        have LE : Hid ((n : Int) = ((us ls ++ us rs).length : Int)) := by
          show _ = _
          rw [HN.out, HP.out.length_eq]
        by_cases hm : (n : Int) = m
        · have TR : Hid (risesK (ky ds) 10000 = t) := by
            show _ = _
            cases t with
            | true => exact RI.out.2 (HT.out.1 rfl).2.2.2.2
            | false =>
              cases hb : risesK (ky ds) 10000 with
              | false => rfl
              | true => exact absurd ⟨HS.out, LT.out, RT.out, by rw [← LE.out]; exact hm, RI.out.1 hb⟩ (nf HT.out)
          have hm' : ((n : Int) == m) = true := by simpa using hm
          clear hm
          go_wp2_with fail
          refine (areRising_callsK _ (ky ds) 10000 _ (Own.rd O2.out) (by omega) (by omega)).mono ?_
          rw [TR.out]
          rintro e w3 ⟨rfl, rfl⟩
          go_wp2
          go_ret
          exact ⟨rfl, B2.out⟩
        · obtain rfl : t = false := not_t HT.out (fun h => hm (by rw [LE.out]; exact h.2.2.2.1))
          have hm' : ((n : Int) == m) = false := by simpa using hm
          go_wp2
          go_ret
          exact ⟨rfl, B2.out⟩
end Go.Proofs.Ytehjfjplajimfaa

/-
  A table with another seed: RehashTo of the program. The contract says what it asks.
-/
import Derived.Test.YtehjfjplajimfaaTpk
import Derived.Test.YtehjfjplajimfaaTrm
namespace Go.Proofs.Ytehjfjplajimfaa
open Go.RowKit
set_option linter.unusedVariables false

set_option maxRecDepth 100000 in
set_option maxHeartbeats 3200000 in
theorem rehashTo_calls (s m sd : Int) (l r : Value) (ls rs : List Sl) (X Y : List Sl) (sX mX : Int) (ok : Bool) (w : World) (hl : RdS w l ls) (hr : RdS w r rs) (hf : RhAt s m ls rs sd X Y sX mX ok) :
    Calls Try.prog 17 #[.agg #[.int .i64 s, l, r, .int .i64 m], .int .i64 sd] w fun e w' => ∃ l' r', e = .returned (.tuple #[.agg #[.int .i64 sX, l', r', .int .i64 mX], .bool ok]) ∧ TabV w' w.heap.size w'.heap.size l' r' X Y ∧ Below w.heap.size w w' := by
  obtain ⟨al, cl, rfl, _, _⟩ := hl.sl
  obtain ⟨ar, cr, rfl, _, _⟩ := hr.sl
  have RL := hide hl
  have RR := hide hr
  have A0 := hide (Hand.twoN w #[.int .i64 s, .slice al ls.length cl, .slice ar rs.length cr, .int .i64 m] nilT 28 28)
  obtain ⟨sb, hsb⟩ := bol_ex (sdOk sd)
  obtain ⟨gb, hgb⟩ := bol_ex (okT s ls rs m)
  have GD := hide (fun W (h1 : RdS W _ ls) (h2 : RdS W _ rs) => goodTable_calls s m (.slice al ls.length cl) (.slice ar rs.length cr) ls rs gb W h1 h2 hgb)
  have NW := hide (fun W => newTable_calls sd sb W hsb)
  have SB := hide hsb
  have GB := hide hgb
  have HF := hide hf
  clear hl hr hsb hgb hf
  go_enter Try.func17, Try.ntmps17
  go_wp2_with fail
  refine (NW.out _).mono ?_
  rintro e w1 ⟨l1, r1, rfl, d1, b1⟩
  cases sb with
  | false =>
    obtain ⟨al1, cl1, ar1, cr1, e1, e2⟩ := d1.sl
    rw [show (rowX false).length = 0 from rfl] at e1 e2
    subst e1 e2
    obtain ⟨rfl, rfl, rfl, rfl, rfl⟩ : X = [] ∧ Y = [] ∧ sX = 0 ∧ mX = 0 ∧ ok = false := by
      rcases HF.out with h | h
      · exact absurd h.2.1 (nf SB.out)
      · exact h.2
    have A1 := hide ((A0.out.step b1).box #[.int .i64 (intX false sd), .slice al1 0 cl1, .slice ar1 0 cr1, .int .i64 0] 28)
    clear b1 d1 A0 HF
    obtain ⟨z0, z1, z2, z3⟩ := (A1.out.atBox 1 rfl).c4
    have y0 := (A1.out.atBox 1 rfl).frozen 0
    have y1 := (A1.out.atBox 1 rfl).frozen 1
    have y2 := (A1.out.atBox 1 rfl).frozen 2
    have y3 := (A1.out.atBox 1 rfl).frozen 3
    have A9 := hide (A1.out.store4 1 rfl (.int .i64 0) (.slice none 0 0) (.slice none 0 0) (.int .i64 0))
    go_wp2
    exact bodyPost_ret (res_tb2 rfl _ _ (w.heap.size + 1) _ _ _ _ (0, 0) rfl (A9.out.atBox 1 rfl)) rfl ⟨_, _, rfl, TabV.nil _ _ _, A9.out.below⟩
  | true =>
    have SD := hide (SB.out.1 rfl)
    rw [show intX true sd = sd from rfl]
    rw [show rowX true = new11 from rfl] at d1
    obtain ⟨gl1, cl1, gr1, cr1, rfl, rfl⟩ := d1.form11 rfl rfl
    have A1 := hide ((A0.out.step b1).box #[.int .i64 sd, .slice (some ⟨gl1, 0, none⟩) 11 cl1, .slice (some ⟨gr1, 0, none⟩) 11 cr1, .int .i64 0] 28)
    have A0s : Hid (w1.heap.size = w1.heap.size) := rfl
    have D1 : Hid (TabV (w1.alloc (.cells #[.int .i64 sd, .slice (some ⟨gl1, 0, none⟩) 11 cl1, .slice (some ⟨gr1, 0, none⟩) 11 cr1, .int .i64 0] 28)) (w.heap.size + 2) w1.heap.size (.slice (some ⟨gl1, 0, none⟩) 11 cl1) (.slice (some ⟨gr1, 0, none⟩) 11 cr1) new11 new11) := (d1.wider (by simp) (Nat.le_refl _)).below (below_box _ _)
    clear b1 d1 A0 A0s
    obtain ⟨c0, c1, c2, c3⟩ := (A1.out.atBox 2 rfl).c4
    go_wp2_with fail
    refine (GD.out _ (RL.out.below A1.out.below) (RR.out.below A1.out.below)).mono ?_
    rintro e w2 ⟨rfl, b2⟩
    have A2 := hide (A1.out.step b2)
    have D2 := hide (D1.out.below b2)
    clear b2 A1 D1 c0 c1 c2 c3
    cases gb with
    | false =>
      obtain ⟨rfl, rfl, rfl, rfl, rfl⟩ : X = [] ∧ Y = [] ∧ sX = 0 ∧ mX = 0 ∧ ok = false := by
        rcases HF.out with h | h
        · exact absurd h.1 (nf GB.out)
        · exact h.2
      clear HF D2
      obtain ⟨z0, z1, z2, z3⟩ := (A2.out.atBox 1 rfl).c4
      have y0 := (A2.out.atBox 1 rfl).frozen 0
      have y1 := (A2.out.atBox 1 rfl).frozen 1
      have y2 := (A2.out.atBox 1 rfl).frozen 2
      have y3 := (A2.out.atBox 1 rfl).frozen 3
      have A9 := hide (A2.out.store4 1 rfl (.int .i64 0) (.slice none 0 0) (.slice none 0 0) (.int .i64 0))
      go_wp2
      exact bodyPost_ret (res_tb2 rfl _ _ (w.heap.size + 1) _ _ _ _ (0, 0) rfl (A9.out.atBox 1 rfl)) rfl ⟨_, _, rfl, TabV.nil _ _ _, A9.out.below⟩
    | true =>
      have OK := hide (GB.out.1 rfl)
      obtain ⟨es, res, p2, r2, hr2, hres⟩ : ∃ ds res, ds.Perm (us ls ++ us rs) ∧ Rising ds ∧ Rh sd ds new11 new11 0 res ∧ ((res = some (X, Y, mX) ∧ sX = sd ∧ ok = true) ∨ (res = none ∧ X = [] ∧ Y = [] ∧ sX = 0 ∧ mX = 0 ∧ ok = false)) := by
        rcases HF.out with h | h
        · exact h.2.2
        · exact absurd ⟨OK.out, SD.out⟩ h.1
      have HRES := hide hres
      have HR2 := hide hr2
      have P2 := hide p2
      have R2 := hide r2
      have z1 : ls.length ≤ 400 := by have := OK.out.2.1.1; omega
      have z2 : rs.length ≤ 400 := by have := OK.out.2.2.1.1; omega
      clear HF hres hr2 p2 r2
      obtain ⟨c0, c1, c2, c3⟩ := (A2.out.atBox 2 rfl).c4
      go_wp2_with fail
      refine (usedSlots_calls s m _ _ ls rs _ (RL.out.below A2.out.below) (RR.out.below A2.out.below) z1 z2 OK.out.2.1.plain OK.out.2.2.1.plain).mono ?_
      rintro e w3 ⟨⟨g, n, cap, ds, rfl, o3, p3, r3⟩, b3⟩
      obtain rfl : ds = es := sorted_one OK.out p3 r3 P2.out R2.out
      have hnl := OwnS.lenEq o3
      subst hnl
      have A3 := hide (A2.out.add b3 (TSls.st _ _) ⟨o3, OwnS.top o3⟩)
      have D3 := hide (D2.out.below b3)
      have dl : ds.length ≤ 1048576 := by rw [p3.length_eq, List.length_append]; have := us_len ls; have := us_len rs; omega
      have lw : w1.heap.size < w3.heap.size := (A3.out.atBox 1 rfl).lt
      clear b3 A2 D2 o3 p3 r3 c0 c1 c2 c3
      go_wp2
      go_loopw [26] (fun vi wr => ∃ (i : Nat) (L R : List Sl) (mm : Int) (lv rv : Value) (lo hi : Nat), i ≤ ds.length ∧ vi = .int .i64 i ∧ Rh sd (ds.drop i) L R mm res ∧ okT sd L R mm ∧ TabV wr lo hi lv rv L R ∧ (w.heap.size + 2 ≤ lo ∧ hi ≤ wr.heap.size ∧ (hi ≤ w1.heap.size ∨ w1.heap.size + 1 ≤ lo)) ∧ Hand w wr [TSls (.slice (some ⟨g, 0, none⟩) ds.length cap) ds, TBox w1.heap.size #[.int .i64 sd, lv, rv, .int .i64 mm] 28, TBox (w.heap.size + 1) nilT 28, TBox w.heap.size #[.int .i64 s, .slice al ls.length cl, .slice ar rs.length cr, .int .i64 m] 28]) (fun vi _ => ds.length - (intOf vi).toNat)
      case atStart => exact ⟨0, new11, new11, 0, _, _, _, _, Nat.zero_le _, rfl, HR2.out, okT_new sd SD.out, D3.out, ⟨Nat.le_refl _, by omega, .inl (Nat.le_refl _)⟩, A3.out⟩
      case round =>
        obtain ⟨i, L, R, mm, lv, rv, lo, hi, hi', rfl, hrh, hok, hd, hb, hA⟩ := hrel
        obtain ⟨glv, clv, grv, crv, rfl, rfl⟩ := hd.form11 hok.2.1.1 hok.2.2.1.1
        have RH := hide hrh
        have OKN := hide hok
        have D := hide hd
        have A := hide hA
        obtain ⟨hb1, hb2, hb3⟩ := hb
        have lw' : w1.heap.size < wr.heap.size := (A.out.atBox 1 rfl).lt
        clear hrh hok hd hA A3 D3 lw
        by_cases hlt : i < ds.length
        · have hlt' : (i : Int) < (ds.length : Int) := by omega
          obtain ⟨b, off, u, k, z, e0, hx, _, q0, q1, q2⟩ := (OwnS.rd (A.out.wideS 0 rfl)).at i hlt
          obtain ⟨rfl, rfl⟩ : g = b ∧ 0 = off := by
            simp only [Option.some.injEq, Addr.mk.injEq, and_true] at e0
            exact ⟨e0.1, e0.2⟩
          obtain ⟨kk, kz, _⟩ := slot_ok OK.out P2.out hlt hx
          have KK := hide kk
          have KZ := hide kz
          have RH1 := RH.out
          rw [drop_slot hlt hx] at RH1
          have RH2 := hide RH1
          clear kk kz hx e0 RH1 RH
          have bx := below_box wr (.cells #[.bool u, .int .i64 k, .int .i64 z] 81)
          have A4 := hide (A.out.step bx)
          have D4 := hide (D.out.below bx)
          obtain ⟨c0, c1, c2, c3⟩ := (A4.out.atBox 1 rfl).c4
          simp only [Nat.zero_add] at q0 q1 q2
          have SZ4 : Hid (w1.heap.size + 1 ≤ (wr.alloc (.cells #[.bool u, .int .i64 k, .int .i64 z] 81)).heap.size ∧ w.heap.size + 2 ≤ (wr.alloc (.cells #[.bool u, .int .i64 k, .int .i64 z] 81)).heap.size) := by
            show _ ∧ _
            have := bx.size
            exact ⟨by omega, by have h9 := (A.out.atBox 2 rfl).lt; have h8 := bx.size; simp only [World.size_alloc] at h8 ⊢; omega⟩
          clear bx A D
          rcases RH2.out with ⟨hno, hres⟩ | ⟨X1, Y1, n1, a1, hput, hrest⟩
          · have PK := hide (fun W h1 h2 => putKey_calls sd mm k z (.slice (some ⟨glv, 0, none⟩) 11 clv) (.slice (some ⟨grv, 0, none⟩) 11 crv) L R [] [] 0 0 0 false W h1 h2 (.inr ⟨fun h => h.2.2.2 hno, rfl, rfl, rfl, rfl, rfl, rfl⟩))
            obtain ⟨rfl, rfl, rfl, rfl, rfl⟩ : X = [] ∧ Y = [] ∧ sX = 0 ∧ mX = 0 ∧ ok = false := by
              rcases HRES.out with h | h
              · rw [hres] at h; simp at h
              · exact h.2
            clear RH2 hno hres HRES
            go_wp2_with fail
            refine (PK.out _ D4.out.rl D4.out.rr).mono ?_
            rintro e w5 ⟨l5, r5, rfl, d5, b5⟩
            obtain ⟨al5, cl5, ar5, cr5, e1, e2⟩ := d5.sl
            rw [show ([] : List Sl).length = 0 from rfl] at e1 e2
            subst e1 e2
            have A5 := hide (A4.out.step b5)
            clear b5 d5 A4 D4 c0 c1 c2 c3
            obtain ⟨c0, c1, c2, c3⟩ := (A5.out.atBox 1 rfl).c4
            have f0 := (A5.out.atBox 1 rfl).frozen 0
            have f1 := (A5.out.atBox 1 rfl).frozen 1
            have f2 := (A5.out.atBox 1 rfl).frozen 2
            have f3 := (A5.out.atBox 1 rfl).frozen 3
            have A6 := hide (A5.out.store4 1 rfl (.int .i64 0) (.slice al5 0 cl5) (.slice ar5 0 cr5) (.int .i64 0))
            obtain ⟨z0, z1, z2, z3⟩ := (A6.out.atBox 2 rfl).c4
            have y0 := (A6.out.atBox 2 rfl).frozen 0
            have y1 := (A6.out.atBox 2 rfl).frozen 1
            have y2 := (A6.out.atBox 2 rfl).frozen 2
            have y3 := (A6.out.atBox 2 rfl).frozen 3
            have A9 := hide (A6.out.store4 2 rfl (.int .i64 0) (.slice none 0 0) (.slice none 0 0) (.int .i64 0))
            go_wp2
            exact bodyPost_ret (res_tb2 rfl _ _ (w.heap.size + 1) _ _ _ _ (0, 0) rfl (A9.out.atBox 2 rfl)) rfl ⟨_, _, rfl, TabV.nil _ _ _, A9.out.below⟩
          · have PK := hide (fun W h1 h2 => putKey_calls sd mm k z (.slice (some ⟨glv, 0, none⟩) 11 clv) (.slice (some ⟨grv, 0, none⟩) 11 crv) L R X1 Y1 sd (mm + a1) n1 true W h1 h2 (.inl ⟨OKN.out, KK.out, KZ.out, ⟨a1, hput, rfl⟩, rfl, rfl⟩))
            have OK1 := hide (hput.ok OKN.out KK.out KZ.out)
            have RE := hide hrest
            clear RH2 hput hrest
            go_wp2_with fail
            refine (PK.out _ D4.out.rl D4.out.rr).mono ?_
            rintro e w5 ⟨l5, r5, rfl, d5, b5⟩
            obtain ⟨g5, cl5, g6, cr5, rfl, rfl⟩ := d5.form11 OK1.out.2.1.1 OK1.out.2.2.1.1
            have A5 := hide (A4.out.step b5)
            have D5 := hide d5
            have s5 := b5.size
            clear b5 d5 A4 D4 c0 c1 c2 c3
            obtain ⟨c0, c1, c2, c3⟩ := (A5.out.atBox 1 rfl).c4
            have f0 := (A5.out.atBox 1 rfl).frozen 0
            have f1 := (A5.out.atBox 1 rfl).frozen 1
            have f2 := (A5.out.atBox 1 rfl).frozen 2
            have f3 := (A5.out.atBox 1 rfl).frozen 3
            have A6 := hide (A5.out.store4 1 rfl (.int .i64 sd) (.slice (some ⟨g5, 0, none⟩) 11 cl5) (.slice (some ⟨g6, 0, none⟩) 11 cr5) (.int .i64 (mm + a1)))
            have D6 := hide (D5.out.chg (Chg.store4 (lo := w1.heap.size) (hi := w1.heap.size + 1) w5 w1.heap.size (.int .i64 sd) (.slice (some ⟨g5, 0, none⟩) 11 cl5) (.slice (some ⟨g6, 0, none⟩) 11 cr5) (.int .i64 (mm + a1)) (Nat.le_refl _) (by omega)) (.inr SZ4.out.1))
            clear A5 D5
            go_wp2
            go_roundw
            case rel => exact ⟨i + 1, X1, Y1, mm + a1, _, _, _, _, by omega, by go_num, RE.out, OK1.out, D6.out, ⟨SZ4.out.2, by simp, .inr SZ4.out.1⟩, A6.out⟩
            case measure => simp [intOf]; omega
        · obtain rfl : i = ds.length := by omega
          have hres : res = some (L, R, mm) := by have := RH.out; rw [List.drop_length] at this; exact this
          obtain ⟨hX, hY, hM, hS, rfl⟩ : X = L ∧ Y = R ∧ mX = mm ∧ sX = sd ∧ ok = true := by
            rcases HRES.out with h | h
            · rw [hres] at h
              simp only [Option.some.injEq, Prod.mk.injEq] at h
              exact ⟨h.1.1.symm, h.1.2.1.symm, h.1.2.2.symm, h.2.1, h.2.2⟩
            · rw [hres] at h; simp at h
          obtain rfl := hX.symm
          obtain rfl := hY.symm
          obtain rfl := hM.symm
          obtain rfl := hS.symm
          clear RH HRES hres
          obtain ⟨c0, c1, c2, c3⟩ := (A.out.atBox 1 rfl).c4
          obtain ⟨z0, z1', z2', z3⟩ := (A.out.atBox 2 rfl).c4
          have y0 := (A.out.atBox 2 rfl).frozen 0
          have y1 := (A.out.atBox 2 rfl).frozen 1
          have y2 := (A.out.atBox 2 rfl).frozen 2
          have y3 := (A.out.atBox 2 rfl).frozen 3
          have A9 := hide (A.out.store4 2 rfl (.int .i64 sd) (.slice (some ⟨glv, 0, none⟩) 11 clv) (.slice (some ⟨grv, 0, none⟩) 11 crv) (.int .i64 mm))
          have D9 := hide (D.out.chg (Chg.store4 (lo := w.heap.size + 1) (hi := w.heap.size + 1 + 1) wr (w.heap.size + 1) (.int .i64 sd) (.slice (some ⟨glv, 0, none⟩) 11 clv) (.slice (some ⟨grv, 0, none⟩) 11 crv) (.int .i64 mm) (Nat.le_refl _) (by omega)) (.inr (by omega)))
          go_wp2
          exact bodyPost_ret (res_tb2 rfl _ _ (w.heap.size + 1) _ _ _ _ (0, 0) rfl (A9.out.atBox 2 rfl)) rfl ⟨_, _, rfl, D9.out.wider (by omega) (by simpa using hb2), A9.out.below⟩
end Go.Proofs.Ytehjfjplajimfaa

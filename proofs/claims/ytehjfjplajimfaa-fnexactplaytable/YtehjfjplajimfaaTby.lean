/-
  Where a key is: slotWith and FindKey of the program, FindKey of the model, call by call. Each contract says what it asks.
-/
import Derived.Test.YtehjfjplajimfaaTbx
import Derived.BigQuiet
namespace Go.Proofs.Ytehjfjplajimfaa
open Go.RowKit
set_option linter.unusedVariables false

set_option maxRecDepth 100000 in
set_option maxHeartbeats 6400000 in
theorem slotWith_calls (s m k : Int) (bl ol cl br or' cr : Nat) (ls rs : List Sl) (t u : Bool) (P : Option Addr) (w : World) (hl : RdS w (.slice (some ⟨bl, ol, none⟩) ls.length cl) ls) (hr : RdS w (.slice (some ⟨br, or', none⟩) rs.length cr) rs) (hs : sdOk s) (hk : kOk k) (h1 : ls.length = 11) (h2 : rs.length = 11) (ht : t = true ↔ isL s ls k) (hu : u = true ↔ isR s rs k)
    (P1 : t = true → P = some ⟨bl, ol + (fs s k).toNat * 3, none⟩) (P2 : t = false → u = true → P = some ⟨br, or' + (sn s k).toNat * 3, none⟩) (P3 : t = false → u = false → P = none) :
    Calls Try.prog 106 #[.agg #[.int .i64 s, .slice (some ⟨bl, ol, none⟩) ls.length cl, .slice (some ⟨br, or', none⟩) rs.length cr, .int .i64 m], .int .i64 k] w fun e w' => e = .returned (.pointer P) ∧ Below w.heap.size w w' := by
  have A0 := hide ((Hand.start w).box #[.int .i64 s, .slice (some ⟨bl, ol, none⟩) ls.length cl, .slice (some ⟨br, or', none⟩) rs.length cr, .int .i64 m] 28)
  have RL := hide hl
  have RR := hide hr
  obtain ⟨p, hp, hp2⟩ := fsN s k
  obtain ⟨q, hq, hq2⟩ := snN s k
  have PL := hide (fun W => placesIn_calls s k W hs hk)
  clear hl hr hs hk
  unfold isL at ht
  unfold isR at hu
  rw [hp] at PL ht P1
  rw [hq] at PL hu P2
  rw [Int.toNat_natCast] at ht hu P1 P2
  have hpl : (p : Int) < (ls.length : Int) := by omega
  have hql : (q : Int) < (rs.length : Int) := by omega
  have HP1 := hide P1
  have HP2 := hide P2
  have HP3 := hide P3
  have HT := hide ht
  have HU := hide hu
  have hpn : p < ls.length := by omega
  have hqn : q < rs.length := by omega
  clear ht hu hp hq h1 h2 P1 P2 P3
  go_enter Try.func106, Try.ntmps106
  go_wp2_with fail
  refine (PL.out _).mono ?_
  rintro e w1 ⟨rfl, b1⟩
  have A1 := hide ((A0.out.step b1).box #[.int .i64 p, .int .i64 q] 120)
  clear b1 A0
  obtain ⟨c0, c1, c2, c3⟩ := (A1.out.atBox 1 rfl).c4
  go_wp2_with fail
  refine (slotRows_calls s m (some ⟨bl, ol, none⟩) (some ⟨br, or', none⟩) ls.length cl rs.length cr _).mono ?_
  rintro e w2 ⟨rfl, b2⟩
  have A2 := hide (A1.out.step b2)
  clear b2 A1 c0 c1 c2 c3
  go_wp2
  go_loopw [15] (fun vj wr => ∃ (j : Int), (0 ≤ j ∧ j ≤ 2) ∧ vj = .int .i64 j ∧ (0 < j → t = false) ∧ (1 < j → u = false) ∧ Below w2.heap.size w2 wr) (fun vj _ => 2 - (intOf vj).toNat)
  case atStart => exact ⟨0, ⟨by omega, by omega⟩, rfl, fun h => by omega, fun h => by omega, Below.refl _ _⟩
  case round =>
    obtain ⟨j, hj, rfl, hj0, hj1, hb⟩ := hrel
    have J0 := hide hj0
    have J1 := hide hj1
    have B := hide hb
    clear hj0 hj1 hb
    have h3 : j = 0 ∨ j = 1 ∨ j = 2 := by omega
    clear hj
    have X := hide ((A2.out.step B.out).atBox 0 rfl)
    have BA := hide (A2.out.step B.out).below
    rcases h3 with rfl | rfl | rfl
    · have ix := ixR0
      obtain ⟨y0, y1⟩ := X.out.c2
      obtain ⟨b0, o0, u1, k1, z1, e0, x1, _, c0, c1, c2⟩ := (RL.out.below BA.out).at p hpn
      obtain ⟨rfl, rfl⟩ : bl = b0 ∧ ol = o0 := by
        simp only [Option.some.injEq, Addr.mk.injEq, and_true] at e0
        exact ⟨e0.1, e0.2⟩
      have HX := hide HT.out
      rw [x1] at HX
      clear e0 x1
      have cs : (u1 = true ∧ k1 = k) ∨ u1 = false ∨ (u1 = true ∧ (k1 == k) = false) := by
        cases u1 with
        | false => exact .inr (.inl rfl)
        | true =>
          by_cases h : k1 = k
          · exact .inl ⟨rfl, h⟩
          · exact .inr (.inr ⟨rfl, by simpa using h⟩)
      rcases cs with ⟨rfl, rfl⟩ | rfl | ⟨rfl, hne⟩
      · obtain rfl : P = some ⟨bl, ol + p * 3, none⟩ := HP1.out (HX.out.2 ⟨rfl, rfl⟩)
        clear J0 J1 HP1 HP2 HP3 HX HT HU X
        go_wp2
        go_quiet (fail)
        go_wp2
        go_ret
        exact ⟨rfl, below_drewN BA.out _⟩
      · have tf : t = false := not_t HX.out (fun h => by simp at h)
        have TF := hide tf
        clear tf HX
        go_wp2
        go_quiet (fail)
        go_wp2
        exact ⟨⟨1, ⟨by omega, by omega⟩, by go_num, fun _ => TF.out, fun h => by omega, below_drewN B.out _⟩, by simp [intOf]⟩
      · have tf : t = false := not_t HX.out (fun h => by have h1 := h.2; simp at h1; simp [h1] at hne)
        have TF := hide tf
        clear tf HX
        go_wp2
        go_quiet (fail)
        go_wp2
        exact ⟨⟨1, ⟨by omega, by omega⟩, by go_num, fun _ => TF.out, fun h => by omega, below_drewN B.out _⟩, by simp [intOf]⟩
    · have ix := ixR1
      obtain ⟨y0, y1⟩ := X.out.c2
      obtain ⟨b0, o0, u1, k1, z1, e0, x1, _, c0, c1, c2⟩ := (RR.out.below BA.out).at q hqn
      obtain ⟨rfl, rfl⟩ : br = b0 ∧ or' = o0 := by
        simp only [Option.some.injEq, Addr.mk.injEq, and_true] at e0
        exact ⟨e0.1, e0.2⟩
      have HX := hide HU.out
      rw [x1] at HX
      clear e0 x1
      have cs : (u1 = true ∧ k1 = k) ∨ u1 = false ∨ (u1 = true ∧ (k1 == k) = false) := by
        cases u1 with
        | false => exact .inr (.inl rfl)
        | true =>
          by_cases h : k1 = k
          · exact .inl ⟨rfl, h⟩
          · exact .inr (.inr ⟨rfl, by simpa using h⟩)
      rcases cs with ⟨rfl, rfl⟩ | rfl | ⟨rfl, hne⟩
      · obtain rfl : P = some ⟨br, or' + q * 3, none⟩ := HP2.out (J0.out (by omega)) (HX.out.2 ⟨rfl, rfl⟩)
        clear J0 J1 HP1 HP2 HP3 HX HT HU X
        go_wp2
        go_quiet (fail)
        go_wp2
        go_ret
        exact ⟨rfl, below_drewN BA.out _⟩
      · have tf : u = false := not_t HX.out (fun h => by simp at h)
        have TF := hide tf
        clear tf HX
        go_wp2
        go_quiet (fail)
        go_wp2
        exact ⟨⟨2, ⟨by omega, by omega⟩, by go_num, fun _ => J0.out (by omega), fun _ => TF.out, below_drewN B.out _⟩, by simp [intOf]⟩
      · have tf : u = false := not_t HX.out (fun h => by have h1 := h.2; simp at h1; simp [h1] at hne)
        have TF := hide tf
        clear tf HX
        go_wp2
        go_quiet (fail)
        go_wp2
        exact ⟨⟨2, ⟨by omega, by omega⟩, by go_num, fun _ => J0.out (by omega), fun _ => TF.out, below_drewN B.out _⟩, by simp [intOf]⟩
    · have e0 := J0.out (by omega)
      have e1 := J1.out (by omega)
      obtain rfl : P = none := HP3.out e0 e1
      clear J0 J1 HP1 HP2 HP3 HT HU X
      go_wp2
      go_ret
      exact ⟨rfl, BA.out⟩

set_option maxRecDepth 100000 in
set_option maxHeartbeats 3200000 in
theorem sFindKey_calls (s m k : Int) (l r : Value) (ls rs : List Sl) (y : Int) (ok : Bool) (w : World) (hl : RdS w l ls) (hr : RdS w r rs) (hzl : ls.length ≤ 1048576) (hzr : rs.length ≤ 1048576) (hf : FdAt s m ls rs k y ok) :
    Calls Try.prog 58 #[.agg #[.int .i64 s, l, r, .int .i64 m], .int .i64 k] w fun e w' => e = .returned (.tuple #[.int .i64 y, .bool ok]) ∧ Below w.heap.size w w' := by
  obtain ⟨al, cl, rfl, _, _⟩ := hl.sl
  obtain ⟨ar, cr, rfl, _, _⟩ := hr.sl
  have RL := hide hl
  have RR := hide hr
  have A0 := hide ((Hand.start w).box #[.int .i64 s, .slice al ls.length cl, .slice ar rs.length cr, .int .i64 m] 28)
  obtain ⟨gb, hgb⟩ := bol_ex (okT s ls rs m)
  obtain ⟨kb, hkb⟩ := bol_ex (kOk k)
  have GD := hide (fun W (h1 : RdS W _ ls) (h2 : RdS W _ rs) => sGoodTable_calls s m (.slice al ls.length cl) (.slice ar rs.length cr) ls rs gb W h1 h2 hzl hzr hgb)
  have KY := hide (fun W => sl12Key_calls k kb W hkb)
  have GB := hide hgb
  have KB := hide hkb
  have HF := hide hf
  clear hl hr hgb hkb hf
  cases gb with
  | false =>
    obtain ⟨rfl, rfl⟩ : y = 0 ∧ ok = false := by
      rcases HF.out with h | h
      · exact absurd h.1 (nf GB.out)
      · exact h.2
    clear HF
    go_enter Try.func58, Try.ntmps58
    go_wp2_with fail
    refine (GD.out _ (RL.out.below A0.out.below) (RR.out.below A0.out.below)).mono ?_
    rintro e w1 ⟨rfl, b1⟩
    have B1 := hide (A0.out.step b1).below
    clear b1
    go_wp2
    go_ret2
    exact ⟨rfl, B1.out⟩
  | true =>
    cases kb with
    | false =>
      obtain ⟨rfl, rfl⟩ : y = 0 ∧ ok = false := by
        rcases HF.out with h | h
        · exact absurd h.2.1 (nf KB.out)
        · exact h.2
      clear HF
      go_enter Try.func58, Try.ntmps58
      go_wp2_with fail
      refine (GD.out _ (RL.out.below A0.out.below) (RR.out.below A0.out.below)).mono ?_
      rintro e w1 ⟨rfl, b1⟩
      have B1 := hide (A0.out.step b1).below
      clear b1
      go_wp2_with (go_at_call 77; refine (KY.out _).mono ?_; rintro e w' ⟨rfl, rfl⟩)
      go_ret2
      exact ⟨rfl, B1.out⟩
    | true =>
      have OK := hide (GB.out.1 rfl)
      have HK := hide (KB.out.1 rfl)
      have FT : Hid (FdTo s ls rs k y ok) := by
        rcases HF.out with h | h
        · exact h.2.2
        · exact absurd ⟨OK.out, HK.out⟩ h.1
      clear HF
      obtain ⟨p, hp, hp2⟩ := fsN s k
      obtain ⟨q, hq, hq2⟩ := snN s k
      have HPp := hide hp
      have HQq := hide hq
      have hpn : p < ls.length := by have := OK.out.2.1.1; omega
      have hqn : q < rs.length := by have := OK.out.2.2.1.1; omega
      have hpl : (p : Int) < (ls.length : Int) := by omega
      have hql : (q : Int) < (rs.length : Int) := by omega
      clear hp hq
      obtain ⟨b1, o1, u1, k1, z1, rfl, x1, _, _, _, _⟩ := (RL.out.below A0.out.below).at p hpn
      obtain ⟨b2, o2, u2, k2, z2, rfl, x2, _, _, _, _⟩ := (RR.out.below A0.out.below).at q hqn
      have X1 := hide x1
      have X2 := hide x2
      clear x1 x2
      obtain ⟨t, ht⟩ := bol_ex (isL s ls k)
      obtain ⟨u, hu⟩ := bol_ex (isR s rs k)
      have AT := hide (fun W (h1 : RdS W _ ls) (h2 : RdS W _ rs) => sl12At_calls s m k (.slice (some ⟨b1, o1, none⟩) ls.length cl) (.slice (some ⟨b2, o2, none⟩) rs.length cr) ls rs t u W h1 h2 OK.out.1 HK.out OK.out.2.1.1 OK.out.2.2.1.1 ht hu)
      have HT := hide ht
      have HU := hide hu
      clear ht hu
      go_enter Try.func58, Try.ntmps58
      go_wp2_with fail
      refine (GD.out _ (RL.out.below A0.out.below) (RR.out.below A0.out.below)).mono ?_
      rintro e w1 ⟨rfl, b1⟩
      have A1 := hide (A0.out.step b1)
      clear b1 A0
      obtain ⟨c0, c1, c2, c3⟩ := (A1.out.atBox 0 rfl).c4
      go_wp2_with fail
      refine (KY.out _).mono ?_
      rintro e w' ⟨rfl, rfl⟩
      go_wp2_with fail
      cases t with
      | true =>
        obtain ⟨rfl, rfl⟩ : y = z1 ∧ ok = true := by
          rcases FT.out with h | h | h
          · refine ⟨?_, h.2.2⟩
            have h1 := h.2.1
            rw [HPp.out, Int.toNat_natCast, X1.out] at h1
            exact h1
          · exact absurd (HT.out.1 rfl) h.1
          · exact absurd (HT.out.1 rfl) h.1
        clear FT HT HU
        refine (AT.out _ (RL.out.below A1.out.below) (RR.out.below A1.out.below)).mono ?_
        rw [show at12 true u s k = (p : Int) from HPp.out]
        rintro e w2 ⟨rfl, b2⟩
        have A2 := hide (A1.out.step b2)
        clear b2 A1 c0 c1 c2 c3
        obtain ⟨c0, c1, c2, c3⟩ := (A2.out.atBox 0 rfl).c4
        obtain ⟨b3, o3, u3, k3, z3, e3, x3, _, d0, d1, d2⟩ := (RL.out.below A2.out.below).at p hpn
        obtain ⟨rfl, rfl⟩ : b3 = b1 ∧ o3 = o1 := by
          simp only [Option.some.injEq, Addr.mk.injEq, and_true] at e3
          exact ⟨e3.1.symm, e3.2.symm⟩
        obtain ⟨rfl, rfl, rfl⟩ : u3 = u1 ∧ k3 = k1 ∧ z3 = y := by
          rw [X1.out] at x3
          simp only [Prod.mk.injEq] at x3
          exact ⟨x3.1.symm, x3.2.1.symm, x3.2.2.symm⟩
        clear e3 x3
        go_wp2
        go_ret2
        exact ⟨rfl, A2.out.below⟩
      | false =>
        cases u with
        | true =>
          obtain ⟨rfl, rfl⟩ : y = z2 ∧ ok = true := by
            rcases FT.out with h | h | h
            · exact absurd h.1 (nf HT.out)
            · refine ⟨?_, h.2.2.2⟩
              have h1 := h.2.2.1
              rw [HQq.out, Int.toNat_natCast, X2.out] at h1
              exact h1
            · exact absurd (HU.out.1 rfl) h.2.1
          clear FT HT HU
          refine (AT.out _ (RL.out.below A1.out.below) (RR.out.below A1.out.below)).mono ?_
          rw [show at12 false true s k = (q : Int) from HQq.out]
          rintro e w2 ⟨rfl, b2⟩
          have A2 := hide (A1.out.step b2)
          clear b2 A1 c0 c1 c2 c3
          obtain ⟨c0, c1, c2, c3⟩ := (A2.out.atBox 0 rfl).c4
          obtain ⟨b3, o3, u3, k3, z3, e3, x3, _, d0, d1, d2⟩ := (RR.out.below A2.out.below).at q hqn
          obtain ⟨rfl, rfl⟩ : b3 = b2 ∧ o3 = o2 := by
            simp only [Option.some.injEq, Addr.mk.injEq, and_true] at e3
            exact ⟨e3.1.symm, e3.2.symm⟩
          obtain ⟨rfl, rfl, rfl⟩ : u3 = u2 ∧ k3 = k2 ∧ z3 = y := by
            rw [X2.out] at x3
            simp only [Prod.mk.injEq] at x3
            exact ⟨x3.1.symm, x3.2.1.symm, x3.2.2.symm⟩
          clear e3 x3
          go_wp2
          go_ret2
          exact ⟨rfl, A2.out.below⟩
        | false =>
          obtain ⟨rfl, rfl⟩ : y = 0 ∧ ok = false := by
            rcases FT.out with h | h | h
            · exact absurd h.1 (nf HT.out)
            · exact absurd h.2.1 (nf HU.out)
            · exact h.2.2
          clear FT HT HU
          refine (AT.out _ (RL.out.below A1.out.below) (RR.out.below A1.out.below)).mono ?_
          rw [show at12 false false s k = 0 from rfl]
          rintro e w2 ⟨rfl, b2⟩
          have A2 := hide (A1.out.step b2)
          clear b2 A1 c0 c1 c2 c3
          obtain ⟨c0, c1, c2, c3⟩ := (A2.out.atBox 0 rfl).c4
          
          go_wp2
          go_ret2
          exact ⟨rfl, A2.out.below⟩

end Go.Proofs.Ytehjfjplajimfaa

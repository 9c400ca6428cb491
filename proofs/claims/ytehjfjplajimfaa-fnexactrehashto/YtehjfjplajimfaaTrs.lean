/-
  A table with another seed: RehashTo of the model. The contract says what it asks.
-/
import Derived.Test.YtehjfjplajimfaaTpk
import Derived.Test.YtehjfjplajimfaaTrm
namespace Go.Proofs.Ytehjfjplajimfaa
open Go.RowKit
set_option linter.unusedVariables false

theorem fd_slot {s m : Int} {ls rs : List Sl} {u : Bool} {k z : Int} (o : okT s ls rs m) (hx : (u, k, z) ∈ us ls ++ us rs) : FdAt s m ls rs k z true := by
  obtain ⟨h1, h2, h3⟩ := find_val o hx
  refine .inl ⟨o, h1, ?_⟩
  rcases h3 with ⟨a, b⟩ | ⟨a, b, c⟩
  · exact .inl ⟨a, b.symm, rfl⟩
  · exact .inr (.inl ⟨a, b, c.symm, rfl⟩)
theorem ky_atR {ds : List Sl} {i : Nat} {u : Bool} {k z : Int} (hi : i < ds.length) (hx : ds.getD i sl0 = (u, k, z)) : (ky ds).getD i 0 = k := by
  rw [List.getD_eq_getElem?_getD, List.getElem?_eq_getElem hi, Option.getD_some] at hx
  unfold ky
  rw [List.getD_eq_getElem?_getD, List.getElem?_map, List.getElem?_eq_getElem hi, hx]
  rfl
set_option maxRecDepth 100000 in
set_option maxHeartbeats 3200000 in
theorem sRehashTo_calls (s m sd : Int) (l r : Value) (ls rs : List Sl) (X Y : List Sl) (sX mX : Int) (ok : Bool) (w : World) (hl : RdS w l ls) (hr : RdS w r rs) (hzl : ls.length ≤ 1048576) (hzr : rs.length ≤ 1048576) (hf : RhAt s m ls rs sd X Y sX mX ok) :
    Calls Try.prog 15 #[.agg #[.int .i64 s, l, r, .int .i64 m], .int .i64 sd] w fun e w' => ∃ l' r', e = .returned (.tuple #[.agg #[.int .i64 sX, l', r', .int .i64 mX], .bool ok]) ∧ TabV w' w.heap.size w'.heap.size l' r' X Y ∧ Below w.heap.size w w' := by
  obtain ⟨al, cl, rfl, _, _⟩ := hl.sl
  obtain ⟨ar, cr, rfl, _, _⟩ := hr.sl
  have RL := hide hl
  have RR := hide hr
  have A0 := hide (Hand.twoN w #[.int .i64 s, .slice al ls.length cl, .slice ar rs.length cr, .int .i64 m] nilT 28 28)
  obtain ⟨sb, hsb⟩ := bol_ex (sdOk sd)
  obtain ⟨gb, hgb⟩ := bol_ex (okT s ls rs m)
  have GD := hide (fun W (h1 : RdS W _ ls) (h2 : RdS W _ rs) => sGoodTable_calls s m (.slice al ls.length cl) (.slice ar rs.length cr) ls rs gb W h1 h2 hzl hzr hgb)
  have SY := hide (fun W => sl12Seed_calls sd sb W hsb)
  have HF := hide hf
  clear hl hr hf
  cases gb with
  | false =>
    obtain ⟨rfl, rfl, rfl, rfl, rfl⟩ : X = [] ∧ Y = [] ∧ sX = 0 ∧ mX = 0 ∧ ok = false := by
      rcases HF.out with h | h
      · exact absurd h.1 (nf hgb)
      · exact h.2
    clear HF hgb hsb
    go_enter Try.func15, Try.ntmps15
    go_wp2_with fail
    refine (GD.out _ (RL.out.below A0.out.below) (RR.out.below A0.out.below)).mono ?_
    rintro e w1 ⟨rfl, b1⟩
    have A1 := hide (A0.out.step b1)
    clear b1 A0
    obtain ⟨z0, z1, z2, z3⟩ := (A1.out.atBox 0 rfl).c4
    have y0 := (A1.out.atBox 0 rfl).frozen 0
    have y1 := (A1.out.atBox 0 rfl).frozen 1
    have y2 := (A1.out.atBox 0 rfl).frozen 2
    have y3 := (A1.out.atBox 0 rfl).frozen 3
    have A9 := hide (A1.out.store4 0 rfl (.int .i64 0) (.slice none 0 0) (.slice none 0 0) (.int .i64 0))
    go_wp2
    exact bodyPost_ret (res_tb2 rfl _ _ (w.heap.size + 1) _ _ _ _ (0, 0) rfl (A9.out.atBox 0 rfl)) rfl ⟨_, _, rfl, TabV.nil _ _ _, A9.out.below⟩
  | true =>
    have OK := hide (hgb.1 rfl)
    cases sb with
    | false =>
      obtain ⟨rfl, rfl, rfl, rfl, rfl⟩ : X = [] ∧ Y = [] ∧ sX = 0 ∧ mX = 0 ∧ ok = false := by
        rcases HF.out with h | h
        · exact absurd h.2.1 (nf hsb)
        · exact h.2
      clear HF hgb hsb
      go_enter Try.func15, Try.ntmps15
      go_wp2_with fail
      refine (GD.out _ (RL.out.below A0.out.below) (RR.out.below A0.out.below)).mono ?_
      rintro e w1 ⟨rfl, b1⟩
      have A1 := hide (A0.out.step b1)
      clear b1 A0
      go_wp2_with fail
      refine (SY.out _).mono ?_
      rintro e w' ⟨rfl, rfl⟩
      obtain ⟨z0, z1, z2, z3⟩ := (A1.out.atBox 0 rfl).c4
      have y0 := (A1.out.atBox 0 rfl).frozen 0
      have y1 := (A1.out.atBox 0 rfl).frozen 1
      have y2 := (A1.out.atBox 0 rfl).frozen 2
      have y3 := (A1.out.atBox 0 rfl).frozen 3
      have A9 := hide (A1.out.store4 0 rfl (.int .i64 0) (.slice none 0 0) (.slice none 0 0) (.int .i64 0))
      go_wp2
      exact bodyPost_ret (res_tb2 rfl _ _ (w.heap.size + 1) _ _ _ _ (0, 0) rfl (A9.out.atBox 0 rfl)) rfl ⟨_, _, rfl, TabV.nil _ _ _, A9.out.below⟩
    | true =>
      have SD := hide (hsb.1 rfl)
      obtain ⟨ds, res, p2, r2, hr2, hres⟩ : ∃ ds res, ds.Perm (us ls ++ us rs) ∧ Rising ds ∧ Rh sd ds new11 new11 0 res ∧ ((res = some (X, Y, mX) ∧ sX = sd ∧ ok = true) ∨ (res = none ∧ X = [] ∧ Y = [] ∧ sX = 0 ∧ mX = 0 ∧ ok = false)) := by
        rcases HF.out with h | h
        · exact h.2.2
        · exact absurd ⟨OK.out, SD.out⟩ h.1
      have HRES := hide hres
      have HR2 := hide hr2
      have P2 := hide p2
      have KE : Hid (kyS (ky (us ls ++ us rs)) = ky ds) := (rising_kyS p2 r2 OK.out.2.2.2.2).symm
      have z1 : ls.length ≤ 400 := by have := OK.out.2.1.1; omega
      have z2 : rs.length ≤ 400 := by have := OK.out.2.2.1.1; omega
      have dl : ds.length ≤ 800 := by rw [p2.length_eq, List.length_append]; have := us_len ls; have := us_len rs; omega
      clear HF hgb hsb hres hr2 p2 r2
      go_enter Try.func15, Try.ntmps15
      go_wp2_with fail
      refine (GD.out _ (RL.out.below A0.out.below) (RR.out.below A0.out.below)).mono ?_
      rintro e w1 ⟨rfl, b1⟩
      have A1 := hide (A0.out.step b1)
      clear b1 A0
      go_wp2_with fail
      refine (SY.out _).mono ?_
      rintro e w' ⟨rfl, rfl⟩
      go_wp2_with fail
      refine (sl12New_calls sd _).mono ?_
      rintro e w2 ⟨l2, r2, rfl, d2, b2⟩
      obtain ⟨gl, cl2, gr, cr2, rfl, rfl⟩ := d2.form11 rfl rfl
      have A2 := hide ((A1.out.add b2 (TTab.st _ _ _ _) d2).box #[.int .i64 sd, .slice (some ⟨gl, 0, none⟩) 11 cl2, .slice (some ⟨gr, 0, none⟩) 11 cr2, .int .i64 0] 28)
      clear b2 d2 A1
      obtain ⟨c0, c1, c2, c3⟩ := (A2.out.atBox 3 rfl).c4
      go_wp2_with fail
      refine (sl12Keys_calls s m _ _ ls rs _ (RL.out.below A2.out.below) (RR.out.below A2.out.below) z1 z2).mono ?_
      rw [KE.out]
      rintro e w3 ⟨⟨v3, rfl, t3⟩, b3⟩
      obtain ⟨a3, k3, rfl⟩ := row_slice t3.1
      have hkl : (ky ds).length = ds.length := by unfold ky; rw [List.length_map]
      rw [hkl]
      have A3 := hide (A2.out.add b3 (TInts.st _ _) t3)
      rw [hkl] at A3
      have lw : w2.heap.size < w3.heap.size := (A3.out.atBox 1 rfl).lt
      clear b3 A2 t3 c0 c1 c2 c3 hkl
      go_wp2
      go_loopw [28] (fun vi wr => ∃ (i : Nat) (L R : List Sl) (mm : Int), i ≤ ds.length ∧ vi = .int .i64 i ∧ Rh sd (ds.drop i) L R mm res ∧ okT sd L R mm ∧ Hand w wr [TInts (.slice a3 ds.length k3) (ky ds), TBox w2.heap.size #[.int .i64 sd, .slice (some ⟨gl, 0, none⟩) 11 cl2, .slice (some ⟨gr, 0, none⟩) 11 cr2, .int .i64 mm] 28, TTab (.slice (some ⟨gl, 0, none⟩) 11 cl2) (.slice (some ⟨gr, 0, none⟩) 11 cr2) L R, TBox (w.heap.size + 1) nilT 28, TBox w.heap.size #[.int .i64 s, .slice al ls.length cl, .slice ar rs.length cr, .int .i64 m] 28]) (fun vi _ => ds.length - (intOf vi).toNat)
      case atStart => exact ⟨0, new11, new11, 0, Nat.zero_le _, rfl, HR2.out, okT_new sd SD.out, A3.out⟩
      case round =>
        obtain ⟨i, L, R, mm, hi', rfl, hrh, hok, hA⟩ := hrel
        have RH := hide hrh
        have OKN := hide hok
        have A := hide hA
        have hmm := hok.many
        clear hrh hok hA A3 lw
        by_cases hlt : i < ds.length
        · have hlt' : (i : Int) < (ds.length : Int) := by omega
          obtain ⟨⟨u, k, z⟩, hx⟩ : ∃ x, ds.getD i sl0 = x := ⟨_, rfl⟩
          obtain ⟨kk, kz, hmem⟩ := slot_ok OK.out P2.out hlt hx
          have FD := hide (fd_slot OK.out hmem)
          have KK := hide kk
          have KZ := hide kz
          obtain ⟨lo0, hi0, t0⟩ := A.out.get 0 rfl
          obtain ⟨b, off, rfl, hc1⟩ := (Own.rd t0.1).cellAt i (by unfold ky; rw [List.length_map]; exact hlt)
          rw [ky_atR hlt hx] at hc1
          have RH1 := RH.out
          rw [drop_slot hlt hx] at RH1
          have RH2 := hide RH1
          clear kk kz hmem hx RH1 RH t0
          obtain ⟨c0, c1, c2, c3⟩ := (A.out.atBox 4 rfl).c4
          go_wp2_with fail
          refine (sFindKey_calls s m k _ _ ls rs z true _ (RL.out.below A.out.below) (RR.out.below A.out.below) hzl hzr FD.out).mono ?_
          rintro e w4 ⟨rfl, b4⟩
          have A4 := hide (A.out.step b4)
          clear b4 A c0 c1 c2 c3 hc1
          obtain ⟨c0, c1, c2, c3⟩ := (A4.out.atBox 1 rfl).c4
          obtain ⟨lo, hi, dd, h1, h2, put⟩ := A4.out.open 2 rfl
          have DD : Hid (TabV w4 lo hi (.slice (some ⟨gl, 0, none⟩) 11 cl2) (.slice (some ⟨gr, 0, none⟩) 11 cr2) L R) := dd
          have PUT := hide put
          clear dd put h1
          go_wp2_with fail
          rcases RH2.out with ⟨hno, hres⟩ | ⟨X1, Y1, n1, a1, hput, hrest⟩
          · obtain ⟨rfl, rfl, rfl, rfl, rfl⟩ : X = [] ∧ Y = [] ∧ sX = 0 ∧ mX = 0 ∧ ok = false := by
              rcases HRES.out with h | h
              · rw [hres] at h; simp at h
              · exact h.2
            refine (sl12Put_calls sd mm k z gl cl2 gr cr2 L R [] [] (mm + 1) 0 false lo hi _ DD.out h2 SD.out KK.out KZ.out OKN.out.2.1 OKN.out.2.2.1 hmm (.inr ⟨rfl, hno, rfl, rfl⟩)).mono ?_
            rintro e w5 ⟨rfl, ⟨X', Y', d5, hxy⟩, ch5⟩
            have A5 := hide ((PUT.out _ (TTab _ _ _ _) (TTab.st _ _ _ _) d5 ch5).box #[.int .i64 sd, .slice (some ⟨gl, 0, none⟩) 11 cl2, .slice (some ⟨gr, 0, none⟩) 11 cr2, .int .i64 (mm + 1)] 28)
            clear RH2 hno hres HRES d5 hxy ch5 PUT DD A4 c0 c1 c2 c3 h2
            obtain ⟨z0, z1, z2, z3⟩ := (A5.out.atBox 4 rfl).c4
            have y0 := (A5.out.atBox 4 rfl).frozen 0
            have y1 := (A5.out.atBox 4 rfl).frozen 1
            have y2 := (A5.out.atBox 4 rfl).frozen 2
            have y3 := (A5.out.atBox 4 rfl).frozen 3
            have A9 := hide (A5.out.store4 4 rfl (.int .i64 0) (.slice none 0 0) (.slice none 0 0) (.int .i64 0))
            go_wp2
            exact bodyPost_ret (res_tb2 rfl _ _ (w.heap.size + 1) _ _ _ _ (0, 0) rfl (A9.out.atBox 4 rfl)) rfl ⟨_, _, rfl, TabV.nil _ _ _, A9.out.below⟩
          · have OK1 := hide (hput.ok OKN.out KK.out KZ.out)
            have RE := hide hrest
            refine (sl12Put_calls sd mm k z gl cl2 gr cr2 L R X1 Y1 (mm + a1) n1 true lo hi _ DD.out h2 SD.out KK.out KZ.out OKN.out.2.1 OKN.out.2.2.1 hmm (.inl ⟨rfl, a1, hput, rfl⟩)).mono ?_
            rintro e w5 ⟨rfl, ⟨X', Y', d5, hxy⟩, ch5⟩
            obtain ⟨rfl, rfl⟩ := hxy rfl
            have A5 := hide (PUT.out _ (TTab _ _ _ _) (TTab.st _ _ _ _) d5 ch5)
            have N5 := hide (BoxAt.new w5 #[.int .i64 sd, .slice (some ⟨gl, 0, none⟩) 11 cl2, .slice (some ⟨gr, 0, none⟩) 11 cr2, .int .i64 (mm + a1)] 28)
            have A6 := hide (A5.out.step (below_box w5 (.cells #[.int .i64 sd, .slice (some ⟨gl, 0, none⟩) 11 cl2, .slice (some ⟨gr, 0, none⟩) 11 cr2, .int .i64 (mm + a1)] 28)))
            clear RH2 hput hrest d5 hxy ch5 PUT DD A4 A5 c0 c1 c2 c3 h2
            obtain ⟨n0, n1', n2, n3⟩ := N5.out.c4
            obtain ⟨c0, c1, c2, c3⟩ := (A6.out.atBox 1 rfl).c4
            have f0 := (A6.out.atBox 1 rfl).frozen 0
            have f1 := (A6.out.atBox 1 rfl).frozen 1
            have f2 := (A6.out.atBox 1 rfl).frozen 2
            have f3 := (A6.out.atBox 1 rfl).frozen 3
            have A7 := hide (A6.out.store4 1 rfl (.int .i64 sd) (.slice (some ⟨gl, 0, none⟩) 11 cl2) (.slice (some ⟨gr, 0, none⟩) 11 cr2) (.int .i64 (mm + a1)))
            clear A6
            go_wp2
            go_roundw
            case rel => exact ⟨i + 1, _, _, mm + a1, by omega, by go_num, RE.out, OK1.out, A7.out⟩
            case measure => simp [intOf]; omega
        · obtain rfl : i = ds.length := by omega
          have hres : res = some (L, R, mm) := by have := RH.out; rw [List.drop_length] at this; exact this
          obtain ⟨hX, hY, hM, hS, rfl⟩ : X = L ∧ Y = R ∧ mX = mm ∧ sX = sd ∧ ok = true := by
            rcases HRES.out with h | h
            · rw [hres] at h
              simp only [Option.some.injEq, Prod.mk.injEq] at h
              exact ⟨h.1.1.symm, h.1.2.1.symm, h.1.2.2.symm, h.2.1, h.2.2⟩
            · rw [hres] at h; simp at h
          obtain rfl := hX.symm
          obtain rfl := hY.symm
          obtain rfl := hM.symm
          obtain rfl := hS.symm
          clear RH HRES hres
          obtain ⟨c0, c1, c2, c3⟩ := (A.out.atBox 1 rfl).c4
          obtain ⟨q0, q1, q2, q3⟩ := (A.out.atBox 3 rfl).c4
          have y0 := (A.out.atBox 3 rfl).frozen 0
          have y1 := (A.out.atBox 3 rfl).frozen 1
          have y2 := (A.out.atBox 3 rfl).frozen 2
          have y3 := (A.out.atBox 3 rfl).frozen 3
          have A9 := hide (A.out.store4 3 rfl (.int .i64 sd) (.slice (some ⟨gl, 0, none⟩) 11 cl2) (.slice (some ⟨gr, 0, none⟩) 11 cr2) (.int .i64 mm))
          clear A
          go_wp2
          exact bodyPost_ret (res_tb2 rfl _ _ (w.heap.size + 1) _ _ _ _ (0, 0) rfl (A9.out.atBox 3 rfl)) rfl ⟨_, _, rfl, A9.out.tab 2 rfl, A9.out.below⟩
end Go.Proofs.Ytehjfjplajimfaa

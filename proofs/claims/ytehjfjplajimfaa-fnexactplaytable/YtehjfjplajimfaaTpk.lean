/-
  A key put: PutKey of the model and of the program, call by call. Each contract says what it asks.
-/
import Derived.Test.YtehjfjplajimfaaTpu
namespace Go.Proofs.Ytehjfjplajimfaa
open Go.RowKit
set_option linter.unusedVariables false

/-- What comes of a put on a table, good or not. -/
def PkAt (s m : Int) (ls rs : List Sl) (k v : Int) (X Y : List Sl) (sX mX n : Int) (ok : Bool) : Prop :=
  (okT s ls rs m ∧ kOk k ∧ kOk v ∧ (∃ a, PutTo s ls rs k v X Y n a ∧ mX = m + a) ∧ sX = s ∧ ok = true) ∨ (¬ (okT s ls rs m ∧ kOk k ∧ kOk v ∧ ¬ NoRoom s ls rs k v) ∧ X = [] ∧ Y = [] ∧ sX = 0 ∧ mX = 0 ∧ n = 0 ∧ ok = false)
theorem pk_ex (s m : Int) (ls rs : List Sl) (k v : Int) : ∃ X Y sX mX n ok, PkAt s m ls rs k v X Y sX mX n ok := by
  rcases Classical.em (okT s ls rs m ∧ kOk k ∧ kOk v ∧ ¬ NoRoom s ls rs k v) with h | h
  · rcases put_or s ls rs k v with ⟨L, R, n, a, hp⟩ | hn
    · exact ⟨_, _, _, _, _, _, .inl ⟨h.1, h.2.1, h.2.2.1, ⟨a, hp, rfl⟩, rfl, rfl⟩⟩
    · exact absurd hn h.2.2.2
  · exact ⟨_, _, _, _, _, _, .inr ⟨h, rfl, rfl, rfl, rfl, rfl, rfl⟩⟩
theorem TabV.form11 {w : World} {lo hi : Nat} {l r : Value} {ls rs : List Sl} (d : TabV w lo hi l r ls rs) (h1 : ls.length = 11) (h2 : rs.length = 11) : ∃ gl cl gr cr, l = .slice (some ⟨gl, 0, none⟩) 11 cl ∧ r = .slice (some ⟨gr, 0, none⟩) 11 cr := by
  obtain ⟨gl, cl, gr, cr, e1, e2⟩ := d.form (by omega) (by omega)
  rw [h1] at e1
  rw [h2] at e2
  exact ⟨gl, cl, gr, cr, e1, e2⟩

set_option maxRecDepth 100000 in
set_option maxHeartbeats 3200000 in
theorem putKey_calls (s m k v : Int) (l r : Value) (ls rs : List Sl) (X Y : List Sl) (sX mX n : Int) (ok : Bool) (w : World) (hl : RdS w l ls) (hr : RdS w r rs) (hf : PkAt s m ls rs k v X Y sX mX n ok) :
    Calls Try.prog 64 #[.agg #[.int .i64 s, l, r, .int .i64 m], .int .i64 k, .int .i64 v] w fun e w' => ∃ l' r', e = .returned (.tuple #[.agg #[.int .i64 sX, l', r', .int .i64 mX], .int .i64 n, .bool ok]) ∧ TabV w' w.heap.size w'.heap.size l' r' X Y ∧ Below w.heap.size w w' := by
  obtain ⟨al, cl, rfl, _, _⟩ := hl.sl
  obtain ⟨ar, cr, rfl, _, _⟩ := hr.sl
  have RL := hide hl
  have RR := hide hr
  have A0 := hide (Hand.twoN w #[.int .i64 s, .slice al ls.length cl, .slice ar rs.length cr, .int .i64 m] nilT 28 28)
  obtain ⟨gb, hgb⟩ := bol_ex (okT s ls rs m)
  obtain ⟨kb, hkb⟩ := bol_ex (kOk k)
  obtain ⟨vb, hvb⟩ := bol_ex (kOk v)
  have GD := hide (fun W (h1 : RdS W _ ls) (h2 : RdS W _ rs) => goodTable_calls s m (.slice al ls.length cl) (.slice ar rs.length cr) ls rs gb W h1 h2 hgb)
  have KY := hide (fun W => isTableKey_calls k kb W hkb)
  have VY := hide (fun W => isSlotValue_calls v vb W hvb)
  have GB := hide hgb
  have KB := hide hkb
  have VB := hide hvb
  have HF := hide hf
  clear hl hr hgb hkb hvb hf
  cases gb with
  | false =>
    obtain ⟨rfl, rfl, rfl, rfl, rfl, rfl⟩ : X = [] ∧ Y = [] ∧ sX = 0 ∧ mX = 0 ∧ n = 0 ∧ ok = false := by
      rcases HF.out with h | h
      · exact absurd h.1 (nf GB.out)
      · exact h.2
    clear HF
    go_enter Try.func64, Try.ntmps64
    go_wp2_with fail
    refine (GD.out _ (RL.out.below A0.out.below) (RR.out.below A0.out.below)).mono ?_
    rintro e w1 ⟨rfl, b1⟩
    have A1 := hide (A0.out.step b1)
    clear b1 A0
    obtain ⟨z0, z1, z2, z3⟩ := (A1.out.atBox 0 rfl).c4
    have y0 := (A1.out.atBox 0 rfl).frozen 0
    have y1 := (A1.out.atBox 0 rfl).frozen 1
    have y2 := (A1.out.atBox 0 rfl).frozen 2
    have y3 := (A1.out.atBox 0 rfl).frozen 3
    have A9 := hide (A1.out.store4 0 rfl (.int .i64 0) (.slice none 0 0) (.slice none 0 0) (.int .i64 0))
    clear A1
    go_wp2
    exact bodyPost_ret (res_tb3 rfl _ _ (w.heap.size + 1) _ _ _ _ (0, 0) rfl (A9.out.atBox 0 rfl)) rfl ⟨_, _, rfl, TabV.nil _ _ _, A9.out.below⟩
  | true =>
    cases kb with
    | false =>
      obtain ⟨rfl, rfl, rfl, rfl, rfl, rfl⟩ : X = [] ∧ Y = [] ∧ sX = 0 ∧ mX = 0 ∧ n = 0 ∧ ok = false := by
        rcases HF.out with h | h
        · exact absurd h.2.1 (nf KB.out)
        · exact h.2
      clear HF
      go_enter Try.func64, Try.ntmps64
      go_wp2_with fail
      refine (GD.out _ (RL.out.below A0.out.below) (RR.out.below A0.out.below)).mono ?_
      rintro e w1 ⟨rfl, b1⟩
      have A1 := hide (A0.out.step b1)
      clear b1 A0
      obtain ⟨z0, z1, z2, z3⟩ := (A1.out.atBox 0 rfl).c4
      have y0 := (A1.out.atBox 0 rfl).frozen 0
      have y1 := (A1.out.atBox 0 rfl).frozen 1
      have y2 := (A1.out.atBox 0 rfl).frozen 2
      have y3 := (A1.out.atBox 0 rfl).frozen 3
      have A9 := hide (A1.out.store4 0 rfl (.int .i64 0) (.slice none 0 0) (.slice none 0 0) (.int .i64 0))
      clear A1
      go_wp2_with (go_at_call 79; refine (KY.out _).mono ?_; rintro e w' ⟨rfl, rfl⟩)
      exact bodyPost_ret (res_tb3 rfl _ _ (w.heap.size + 1) _ _ _ _ (0, 0) rfl (A9.out.atBox 0 rfl)) rfl ⟨_, _, rfl, TabV.nil _ _ _, A9.out.below⟩
    | true =>
      cases vb with
      | false =>
        obtain ⟨rfl, rfl, rfl, rfl, rfl, rfl⟩ : X = [] ∧ Y = [] ∧ sX = 0 ∧ mX = 0 ∧ n = 0 ∧ ok = false := by
          rcases HF.out with h | h
          · exact absurd h.2.2.1 (nf VB.out)
          · exact h.2
        clear HF
        go_enter Try.func64, Try.ntmps64
        go_wp2_with fail
        refine (GD.out _ (RL.out.below A0.out.below) (RR.out.below A0.out.below)).mono ?_
        rintro e w1 ⟨rfl, b1⟩
        have A1 := hide (A0.out.step b1)
        clear b1 A0
        obtain ⟨z0, z1, z2, z3⟩ := (A1.out.atBox 0 rfl).c4
        have y0 := (A1.out.atBox 0 rfl).frozen 0
        have y1 := (A1.out.atBox 0 rfl).frozen 1
        have y2 := (A1.out.atBox 0 rfl).frozen 2
        have y3 := (A1.out.atBox 0 rfl).frozen 3
        have A9 := hide (A1.out.store4 0 rfl (.int .i64 0) (.slice none 0 0) (.slice none 0 0) (.int .i64 0))
        clear A1
        go_wp2_with (first | (go_at_call 79; refine (KY.out _).mono ?_; rintro e w' ⟨rfl, rfl⟩) | (go_at_call 104; refine (VY.out _).mono ?_; rintro e w' ⟨rfl, rfl⟩))
        exact bodyPost_ret (res_tb3 rfl _ _ (w.heap.size + 1) _ _ _ _ (0, 0) rfl (A9.out.atBox 0 rfl)) rfl ⟨_, _, rfl, TabV.nil _ _ _, A9.out.below⟩
      | true =>
        have OK := hide (GB.out.1 rfl)
        have HK := hide (KB.out.1 rfl)
        have HV := hide (VB.out.1 rfl)
        have hm := OK.out.many
        have h11 := OK.out.2.1.1
        have h12 := OK.out.2.2.1.1
        have l1 : 0 < ls.length := by omega
        have l2 : 0 < rs.length := by omega
        have l3 : ls.length ≤ 1048576 := by omega
        have l4 : rs.length ≤ 1048576 := by omega
        have E11 := hide h11
        have E12 := hide h12
        clear h11 h12
        have CS : Hid ((PtTo s m ls rs k v X Y mX n true ∧ sX = s ∧ ok = true) ∨ (PtTo s m ls rs k v [] [] (m + 1) 0 false ∧ X = [] ∧ Y = [] ∧ sX = 0 ∧ mX = 0 ∧ n = 0 ∧ ok = false)) := by
          rcases HF.out with ⟨_, _, _, h, h3, h4⟩ | ⟨h, h3⟩
          · exact .inl ⟨.inl ⟨rfl, h⟩, h3, h4⟩
          · have hn : NoRoom s ls rs k v := Classical.byContradiction fun hn => h ⟨OK.out, HK.out, HV.out, hn⟩
            exact .inr ⟨.inr ⟨rfl, hn, rfl, rfl⟩, h3⟩
        clear HF
        obtain ⟨p, hp, hp2⟩ := fsN s k
        obtain ⟨q, hq, hq2⟩ := snN s k
        have hpn : p < ls.length := by rw [E11.out]; exact hp2
        have hqn : q < rs.length := by rw [E12.out]; exact hq2
        have HP := hide hp
        have HQ := hide hq
        clear hp hq
        obtain ⟨t, ht⟩ := bol_ex (isL s ls k)
        obtain ⟨u, hu⟩ := bol_ex (isR s rs k)
        have HT := hide ht
        have HU := hide hu
        clear ht hu
        go_enter Try.func64, Try.ntmps64
        go_wp2_with fail
        refine (GD.out _ (RL.out.below A0.out.below) (RR.out.below A0.out.below)).mono ?_
        rintro e w1 ⟨rfl, b1⟩
        have A1 := hide (A0.out.step b1)
        clear b1 A0
        obtain ⟨c0, c1, c2, c3⟩ := (A1.out.atBox 1 rfl).c4
        go_wp2_with fail
        refine (KY.out _).mono ?_
        rintro e w' ⟨rfl, rfl⟩
        go_wp2_with fail
        refine (VY.out _).mono ?_
        rintro e w' ⟨rfl, rfl⟩
        go_wp2_with fail
        refine (copyTable_calls s m _ _ ls rs _ (RL.out.below A1.out.below) (RR.out.below A1.out.below) l1 l2 l3 l4).mono ?_
        rintro e w2 ⟨l', r', rfl, d, b2⟩
        obtain ⟨gl, cl', gr, cr', rfl, rfl⟩ := d.form11 E11.out E12.out
        have A3 := hide ((A1.out.add b2 (TTab.st _ _ _ _) d).box #[.int .i64 s, (.slice (some ⟨gl, 0, none⟩) 11 cl'), (.slice (some ⟨gr, 0, none⟩) 11 cr'), .int .i64 m] 28)
        clear b2 A1 d c0 c1 c2 c3
        have SW0 := fun P W (h3 : RdS W (.slice (some ⟨gl, 0, none⟩) ls.length cl') ls) (h4 : RdS W (.slice (some ⟨gr, 0, none⟩) rs.length cr') rs) P1 P2 P3 => slotWith_calls s m k gl 0 cl' gr 0 cr' ls rs t u P W h3 h4 OK.out.1 HK.out E11.out E12.out HT.out HU.out P1 P2 P3
        rw [E11.out, E12.out] at SW0
        have SW := hide SW0
        clear SW0
        obtain ⟨c0, c1, c2, c3⟩ := (A3.out.atBox 0 rfl).c4
        go_wp2_with fail
        have WY : Hid ((isL s ls k ∧ X = ls.set (fs s k).toNat (true, k, v) ∧ Y = rs ∧ n = 0 ∧ mX = m ∧ sX = s ∧ ok = true) ∨ (¬ isL s ls k ∧ isR s rs k ∧ X = ls ∧ Y = rs.set (sn s k).toNat (true, k, v) ∧ n = 0 ∧ mX = m ∧ sX = s ∧ ok = true) ∨
            (¬ isL s ls k ∧ ¬ isR s rs k ∧ ∃ R, OnWay s R 0 ls rs k v ∧ ((R.isSome = true ∧ n = nR R ∧ sX = s ∧ mX = m + 1 ∧ ok = true ∧ ∃ N, R = some (X, Y, N)) ∨ (R.isSome = false ∧ X = [] ∧ Y = [] ∧ sX = 0 ∧ mX = 0 ∧ n = 0 ∧ ok = false)))) := by
          rcases CS.out with ⟨hP, h3, h4⟩ | ⟨hP, h3⟩
          · rcases hP.ways OK.out.2.1 OK.out.2.2.1 HK.out HV.out with ⟨a, b, c, d, e, _⟩ | ⟨a, a', b, c, d, e, _⟩ | ⟨a, a', b, R, c, d, e, f⟩
            · exact .inl ⟨a, b, c, d, e, h3, h4⟩
            · exact .inr (.inl ⟨a, a', b, c, d, e, h3, h4⟩)
            · exact .inr (.inr ⟨a, a', R, c, .inl ⟨e.symm, d, h3, b, h4, _, f rfl⟩⟩)
          · rcases hP.ways OK.out.2.1 OK.out.2.2.1 HK.out HV.out with ⟨_, _, _, _, _, e⟩ | ⟨_, _, _, _, _, _, e⟩ | ⟨a, a', b, R, c, d, e, f⟩
            · simp at e
            · simp at e
            · exact .inr (.inr ⟨a, a', R, c, .inr ⟨e.symm, h3⟩⟩)
        clear CS
        rcases WY.out with ⟨h, hX, hY, rfl, hmX, hsX, rfl⟩ | ⟨h, h2, hX, hY, rfl, hmX, hsX, rfl⟩ | ⟨h, h2, R, ow, hR⟩
        · rw [HP.out, Int.toNat_natCast] at hX
          obtain rfl := hX.symm
          obtain rfl := hY.symm
          obtain rfl := hmX.symm
          obtain rfl := hsX.symm
          obtain rfl : t = true := HT.out.2 h
          clear WY
          obtain ⟨y, hy⟩ := isL_at h HP.out
          have HY := hide hy
          clear hy
          refine (SW.out (some ⟨gl, 0 + p * 3, none⟩) _ (TabV.rl (A3.out.tab 1 rfl)) (TabV.rr (A3.out.tab 1 rfl)) (fun _ => by rw [HP.out, Int.toNat_natCast]) (fun h => by simp at h) (fun h => by simp at h)).mono ?_
          rw [Nat.zero_add]
          rintro e w4 ⟨rfl, b4⟩
          have A4 := hide (A3.out.step b4)
          clear b4 A3 c0 c1 c2 c3
          obtain ⟨lo, hi, dd, h1', h2', put⟩ := A4.out.open 1 rfl
          have A5 : Hid (Hand w (w4.setCell ⟨gl, p * 3 + 2, none⟩ (.int .i64 v)) [TBox w2.heap.size #[.int .i64 s, (.slice (some ⟨gl, 0, none⟩) 11 cl'), (.slice (some ⟨gr, 0, none⟩) 11 cr'), .int .i64 m] 28, TTab (.slice (some ⟨gl, 0, none⟩) 11 cl') (.slice (some ⟨gr, 0, none⟩) 11 cr') (ls.set p (true, k, v)) rs, TBox (w.heap.size + 1) nilT 28, TBox w.heap.size #[.int .i64 s, .slice al ls.length cl, .slice ar rs.length cr, .int .i64 m] 28]) := put _ (TTab _ _ (ls.set p (true, k, v)) rs) (TTab.st _ _ _ _) (TabV.put2L dd p hpn true k y v HY.out).1 (TabV.put2L dd p hpn true k y v HY.out).2
          obtain ⟨⟨d0, d1, d2⟩, d3, d4, d5⟩ := TabV.cellsL dd p hpn
          rw [HY.out] at d0 d1 d2
          simp only at d0 d1 d2
          clear put dd h1' h2' A4
          obtain ⟨e0, e1, e2, e3⟩ := (A5.out.atBox 0 rfl).c4
          obtain ⟨z0, z1, z2, z3⟩ := (A5.out.atBox 2 rfl).c4
          have y0 := (A5.out.atBox 2 rfl).frozen 0
          have y1 := (A5.out.atBox 2 rfl).frozen 1
          have y2 := (A5.out.atBox 2 rfl).frozen 2
          have y3 := (A5.out.atBox 2 rfl).frozen 3
          have A9 := hide (A5.out.store4 2 rfl (.int .i64 s) (.slice (some ⟨gl, 0, none⟩) 11 cl') (.slice (some ⟨gr, 0, none⟩) 11 cr') (.int .i64 m))
          clear A5
          go_wp2
          exact bodyPost_ret (res_tb3 rfl _ _ (w.heap.size + 1) _ _ _ _ (0, 0) rfl (A9.out.atBox 2 rfl)) rfl ⟨_, _, rfl, A9.out.tab 1 rfl, A9.out.below⟩
        · rw [HQ.out, Int.toNat_natCast] at hY
          obtain rfl := hX.symm
          obtain rfl := hY.symm
          obtain rfl := hmX.symm
          obtain rfl := hsX.symm
          obtain rfl : t = false := not_t HT.out h
          obtain rfl : u = true := HU.out.2 h2
          clear WY
          obtain ⟨y, hy⟩ := isR_at h2 HQ.out
          have HY := hide hy
          clear hy
          refine (SW.out (some ⟨gr, 0 + q * 3, none⟩) _ (TabV.rl (A3.out.tab 1 rfl)) (TabV.rr (A3.out.tab 1 rfl)) (fun h => by simp at h) (fun _ _ => by rw [HQ.out, Int.toNat_natCast]) (fun _ h => by simp at h)).mono ?_
          rw [Nat.zero_add]
          rintro e w4 ⟨rfl, b4⟩
          have A4 := hide (A3.out.step b4)
          clear b4 A3 c0 c1 c2 c3
          obtain ⟨lo, hi, dd, h1', h2', put⟩ := A4.out.open 1 rfl
          have A5 : Hid (Hand w (w4.setCell ⟨gr, q * 3 + 2, none⟩ (.int .i64 v)) [TBox w2.heap.size #[.int .i64 s, (.slice (some ⟨gl, 0, none⟩) 11 cl'), (.slice (some ⟨gr, 0, none⟩) 11 cr'), .int .i64 m] 28, TTab (.slice (some ⟨gl, 0, none⟩) 11 cl') (.slice (some ⟨gr, 0, none⟩) 11 cr') ls (rs.set q (true, k, v)), TBox (w.heap.size + 1) nilT 28, TBox w.heap.size #[.int .i64 s, .slice al ls.length cl, .slice ar rs.length cr, .int .i64 m] 28]) := put _ (TTab _ _ ls (rs.set q (true, k, v))) (TTab.st _ _ _ _) (TabV.put2R dd q hqn true k y v HY.out).1 (TabV.put2R dd q hqn true k y v HY.out).2
          obtain ⟨⟨d0, d1, d2⟩, d3, d4, d5⟩ := TabV.cellsR dd q hqn
          rw [HY.out] at d0 d1 d2
          simp only at d0 d1 d2
          clear put dd h1' h2' A4
          obtain ⟨e0, e1, e2, e3⟩ := (A5.out.atBox 0 rfl).c4
          obtain ⟨z0, z1, z2, z3⟩ := (A5.out.atBox 2 rfl).c4
          have y0 := (A5.out.atBox 2 rfl).frozen 0
          have y1 := (A5.out.atBox 2 rfl).frozen 1
          have y2 := (A5.out.atBox 2 rfl).frozen 2
          have y3 := (A5.out.atBox 2 rfl).frozen 3
          have A9 := hide (A5.out.store4 2 rfl (.int .i64 s) (.slice (some ⟨gl, 0, none⟩) 11 cl') (.slice (some ⟨gr, 0, none⟩) 11 cr') (.int .i64 m))
          clear A5
          go_wp2
          exact bodyPost_ret (res_tb3 rfl _ _ (w.heap.size + 1) _ _ _ _ (0, 0) rfl (A9.out.atBox 2 rfl)) rfl ⟨_, _, rfl, A9.out.tab 1 rfl, A9.out.below⟩
        · obtain rfl : t = false := not_t HT.out h
          obtain rfl : u = false := not_t HU.out h2
          have OW := hide ow
          have HR := hide hR
          clear WY ow hR h h2
          refine (SW.out none _ (TabV.rl (A3.out.tab 1 rfl)) (TabV.rr (A3.out.tab 1 rfl)) (fun h => by simp at h) (fun _ h => by simp at h) (fun _ _ => rfl)).mono ?_
          rintro e w4 ⟨rfl, b4⟩
          have A4 := hide (A3.out.step b4)
          clear b4 A3 c0 c1 c2 c3
          obtain ⟨c0, c1, c2, c3⟩ := (A4.out.atBox 0 rfl).c4
          go_wp2_with fail
          obtain ⟨lo, hi, dd, h1', h2', put⟩ := A4.out.open 1 rfl
          refine (settle_calls s m k v gl cl' gr cr' ls rs R lo hi _ dd h2' OK.out.1 OW.out).mono ?_
          rintro e w5 ⟨rfl, ⟨X', Y', d5, hxy⟩, ch5⟩
          have A5 := hide (put _ (TTab (.slice (some ⟨gl, 0, none⟩) 11 cl') (.slice (some ⟨gr, 0, none⟩) 11 cr') X' Y') (TTab.st _ _ _ _) d5 ch5)
          have XY := hide hxy
          clear put dd h1' h2' d5 ch5 hxy A4 c0 c1 c2 c3
          rcases HR.out with ⟨r1, r2, hsX, r4, rfl, N, r5⟩ | ⟨r1, rfl, rfl, rfl, rfl, rfl, rfl⟩
          · obtain ⟨e1, e2⟩ := XY.out X Y N r5
            obtain rfl := e1.symm
            obtain rfl := e2.symm
            obtain rfl := hsX.symm
            subst r4
            rw [r1, ← r2]
            clear XY HR OW r5 r1
            have A6 : Hid (Hand w (w5.setCell ⟨w2.heap.size, 3, none⟩ (.int .i64 (m + 1))) [TBox w2.heap.size #[.int .i64 s, (.slice (some ⟨gl, 0, none⟩) 11 cl'), (.slice (some ⟨gr, 0, none⟩) 11 cr'), .int .i64 (m + 1)] 28, TTab (.slice (some ⟨gl, 0, none⟩) 11 cl') (.slice (some ⟨gr, 0, none⟩) 11 cr') X Y, TBox (w.heap.size + 1) nilT 28, TBox w.heap.size #[.int .i64 s, .slice al ls.length cl, .slice ar rs.length cr, .int .i64 m] 28]) := A5.out.setBoxT 0 rfl 3 (.int .i64 (m + 1))
            obtain ⟨d0, d1, d2, d3⟩ := (A5.out.atBox 0 rfl).c4
            have f3 := (A5.out.atBox 0 rfl).frozen 3
            obtain ⟨e0, e1', e2', e3⟩ := (A6.out.atBox 0 rfl).c4
            obtain ⟨hm0, hm1⟩ := hm
            clear A5 r2
            obtain ⟨z0, z1, z2, z3⟩ := (A6.out.atBox 2 rfl).c4
            have y0 := (A6.out.atBox 2 rfl).frozen 0
            have y1 := (A6.out.atBox 2 rfl).frozen 1
            have y2 := (A6.out.atBox 2 rfl).frozen 2
            have y3 := (A6.out.atBox 2 rfl).frozen 3
            have A9 := hide (A6.out.store4 2 rfl (.int .i64 s) (.slice (some ⟨gl, 0, none⟩) 11 cl') (.slice (some ⟨gr, 0, none⟩) 11 cr') (.int .i64 (m + 1)))
            clear A6
            go_wp2
            exact bodyPost_ret (res_tb3 rfl _ _ (w.heap.size + 1) _ _ _ _ (0, 0) rfl (A9.out.atBox 2 rfl)) rfl ⟨_, _, rfl, A9.out.tab 1 rfl, A9.out.below⟩
          · rw [r1]
            clear XY HR OW r1
            obtain ⟨z0, z1, z2, z3⟩ := (A5.out.atBox 2 rfl).c4
            have y0 := (A5.out.atBox 2 rfl).frozen 0
            have y1 := (A5.out.atBox 2 rfl).frozen 1
            have y2 := (A5.out.atBox 2 rfl).frozen 2
            have y3 := (A5.out.atBox 2 rfl).frozen 3
            have A9 := hide (A5.out.store4 2 rfl (.int .i64 0) (.slice none 0 0) (.slice none 0 0) (.int .i64 0))
            clear A5
            go_wp2
            exact bodyPost_ret (res_tb3 rfl _ _ (w.heap.size + 1) _ _ _ _ (0, 0) rfl (A9.out.atBox 2 rfl)) rfl ⟨_, _, rfl, TabV.nil _ _ _, A9.out.below⟩
end Go.Proofs.Ytehjfjplajimfaa

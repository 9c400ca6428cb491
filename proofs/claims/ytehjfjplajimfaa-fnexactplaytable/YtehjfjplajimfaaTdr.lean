/-
  A key dropped: l12Drop and DropKey of the model, DropKey of the program, call by call. Each contract says what it asks.
-/
import Derived.Test.YtehjfjplajimfaaGst
namespace Go.Proofs.Ytehjfjplajimfaa
open Go.RowKit
set_option linter.unusedVariables false

/-- What comes of a drop on a table, good or not. -/
def DrAt (s m : Int) (ls rs : List Sl) (k : Int) (X Y : List Sl) (sX mX : Int) (ok : Bool) : Prop :=
  (okT s ls rs m ∧ kOk k ∧ DropTo s ls rs k X Y ∧ sX = s ∧ mX = m - 1 ∧ ok = true) ∨ (¬ (okT s ls rs m ∧ kOk k ∧ ¬ NotIn s ls rs k) ∧ X = [] ∧ Y = [] ∧ sX = 0 ∧ mX = 0 ∧ ok = false)
theorem dr_ex (s m : Int) (ls rs : List Sl) (k : Int) : ∃ X Y sX mX ok, DrAt s m ls rs k X Y sX mX ok := by
  rcases Classical.em (okT s ls rs m ∧ kOk k ∧ ¬ NotIn s ls rs k) with h | h
  · rcases drop_or s ls rs k with ⟨L, R, hd⟩ | hn
    · exact ⟨_, _, _, _, _, .inl ⟨h.1, h.2.1, hd, rfl, rfl, rfl⟩⟩
    · exact absurd hn h.2.2
  · exact ⟨_, _, _, _, _, .inr ⟨h, rfl, rfl, rfl, rfl, rfl⟩⟩
theorem okT.many {s m : Int} {ls rs : List Sl} (h : okT s ls rs m) : 0 ≤ m ∧ m ≤ 22 := by
  have h1 := h.2.1.1
  have h2 := h.2.2.1.1
  have h3 := us_len ls
  have h4 := us_len rs
  have h5 := h.2.2.2.1
  rw [List.length_append] at h5
  omega

set_option maxRecDepth 100000 in
set_option maxHeartbeats 3200000 in
theorem sl12Drop_calls (s m k : Int) (l r : Value) (ls rs : List Sl) (t u : Bool) (X Y : List Sl) (mX : Int) (lo hi : Nat) (w : World) (d : TabV w lo hi l r ls rs) (hh : hi ≤ w.heap.size) (hs : sdOk s) (hk : kOk k) (h1 : ls.length = 11) (h2 : rs.length = 11) (hm : 0 ≤ m ∧ m ≤ 22) (ht : t = true ↔ isL s ls k) (hu : u = true ↔ isR s rs k)
    (P1 : t = true → X = ls.set (fs s k).toNat sl0 ∧ Y = rs ∧ mX = m - 1) (P2 : t = false → u = true → X = ls ∧ Y = rs.set (sn s k).toNat sl0 ∧ mX = m - 1) (P3 : t = false → u = false → X = ls ∧ Y = rs ∧ mX = m) :
    Calls Try.prog 70 #[.agg #[.int .i64 s, l, r, .int .i64 m], .int .i64 k] w fun e w' => e = .returned (.tuple #[.agg #[.int .i64 s, l, r, .int .i64 mX], .bool (t || u)]) ∧ TabV w' lo hi l r X Y ∧ Chg lo hi w w' := by
  obtain ⟨gl, cl, gr, cr, rfl, rfl⟩ := d.form (by omega) (by omega)
  obtain ⟨p, hp, hp2⟩ := fsN s k
  obtain ⟨q, hq, hq2⟩ := snN s k
  have hpn : p < ls.length := by omega
  have hqn : q < rs.length := by omega
  have hpl : (p : Int) < (ls.length : Int) := by omega
  have hql : (q : Int) < (rs.length : Int) := by omega
  have G0 := hide ((Hand.twoN w #[.int .i64 s, .slice (some ⟨gl, 0, none⟩) ls.length cl, .slice (some ⟨gr, 0, none⟩) rs.length cr, .int .i64 m] nilT 28 28).guest hh (TTab.st _ _ _ _) d)
  have AT := hide (fun W (h3 : RdS W _ ls) (h4 : RdS W _ rs) => sl12At_calls s m k (.slice (some ⟨gl, 0, none⟩) ls.length cl) (.slice (some ⟨gr, 0, none⟩) rs.length cr) ls rs t u W h3 h4 hs hk h1 h2 ht hu)
  rw [hp, Int.toNat_natCast] at P1
  rw [hq, Int.toNat_natCast] at P2
  have HP := hide hp
  have HQ := hide hq
  have HP1 := hide P1
  have HP2 := hide P2
  have HP3 := hide P3
  clear hp hq P1 P2 P3 ht hu hs hk h1 h2 d
  obtain ⟨hm0, hm1⟩ := hm
  have go1 : ∀ W, Guest lo hi w W (TTab (.slice (some ⟨gl, 0, none⟩) ls.length cl) (.slice (some ⟨gr, 0, none⟩) rs.length cr) ls rs) [TBox (w.heap.size + 1) nilT 28, TBox w.heap.size #[.int .i64 s, .slice (some ⟨gl, 0, none⟩) ls.length cl, .slice (some ⟨gr, 0, none⟩) rs.length cr, .int .i64 m] 28] → RdS W (.slice (some ⟨gl, 0, none⟩) ls.length cl) ls ∧ RdS W (.slice (some ⟨gr, 0, none⟩) rs.length cr) rs := fun W G => ⟨TabV.rl G.it, TabV.rr G.it⟩
  have GO := hide go1
  clear go1
  cases t with
  | true =>
    obtain ⟨rfl, rfl, rfl⟩ := HP1.out rfl
    clear HP1 HP2 HP3
    rw [show at12 true u s k = (p : Int) from HP.out] at AT
    go_enter Try.func70, Try.ntmps70
    go_wp2_with fail
    refine (AT.out _ (GO.out _ G0.out).1 (GO.out _ G0.out).2).mono ?_
    rintro e w1 ⟨rfl, b1⟩
    have G1 := hide (G0.out.step b1)
    clear b1 G0
    have G2 : Hid (Guest lo hi w (((w1.setCell ⟨gl, p * 3, none⟩ (.bool false)).setCell ⟨gl, p * 3 + 1, none⟩ (.int .i64 0)).setCell ⟨gl, p * 3 + 2, none⟩ (.int .i64 0)) (TTab _ _ (ls.set p sl0) Y) _) := G1.out.putL p hpn sl0
    have G3 := hide (G2.out.setBox 1 rfl 3 (.int .i64 (m - 1)))
    have G4 := hide (G3.out.store4 0 rfl (.int .i64 s) (.slice (some ⟨gl, 0, none⟩) ls.length cl) (.slice (some ⟨gr, 0, none⟩) Y.length cr) (.int .i64 (m - 1)))
    obtain ⟨c0, c1, c2, c3⟩ := (G1.out.atBox 1 rfl).c4
    obtain ⟨⟨d0, d1, d2⟩, d3, d4, d5⟩ := TabV.cellsL G1.out.it p hpn
    obtain ⟨e0, e1, e2, e3⟩ := (G2.out.atBox 1 rfl).c4
    have f3 := (G2.out.atBox 1 rfl).frozen 3
    obtain ⟨h0, h1, h2, h3⟩ := (G3.out.atBox 1 rfl).c4
    obtain ⟨i0, i1, i2, i3⟩ := (G3.out.atBox 0 rfl).c4
    have j0 := (G3.out.atBox 0 rfl).frozen 0
    have j1 := (G3.out.atBox 0 rfl).frozen 1
    have j2 := (G3.out.atBox 0 rfl).frozen 2
    have j3 := (G3.out.atBox 0 rfl).frozen 3
    go_wp2
    exact bodyPost_ret (res_tb2 rfl _ _ (w.heap.size + 1) _ _ _ _ (0, 0) rfl (G4.out.atBox 0 rfl)) rfl ⟨rfl, G4.out.it, G4.out.chg⟩
  | false =>
    cases u with
    | true =>
      obtain ⟨rfl, rfl, rfl⟩ := HP2.out rfl rfl
      clear HP1 HP2 HP3
      rw [show at12 false true s k = (q : Int) from HQ.out] at AT
      go_enter Try.func70, Try.ntmps70
      go_wp2_with fail
      refine (AT.out _ (GO.out _ G0.out).1 (GO.out _ G0.out).2).mono ?_
      rintro e w1 ⟨rfl, b1⟩
      have G1 := hide (G0.out.step b1)
      clear b1 G0
      have G2 : Hid (Guest lo hi w (((w1.setCell ⟨gr, q * 3, none⟩ (.bool false)).setCell ⟨gr, q * 3 + 1, none⟩ (.int .i64 0)).setCell ⟨gr, q * 3 + 2, none⟩ (.int .i64 0)) (TTab _ _ X (rs.set q sl0)) _) := G1.out.putR q hqn sl0
      have G3 := hide (G2.out.setBox 1 rfl 3 (.int .i64 (m - 1)))
      have G4 := hide (G3.out.store4 0 rfl (.int .i64 s) (.slice (some ⟨gl, 0, none⟩) X.length cl) (.slice (some ⟨gr, 0, none⟩) rs.length cr) (.int .i64 (m - 1)))
      obtain ⟨c0, c1, c2, c3⟩ := (G1.out.atBox 1 rfl).c4
      obtain ⟨⟨d0, d1, d2⟩, d3, d4, d5⟩ := TabV.cellsR G1.out.it q hqn
      obtain ⟨e0, e1, e2, e3⟩ := (G2.out.atBox 1 rfl).c4
      have f3 := (G2.out.atBox 1 rfl).frozen 3
      obtain ⟨h0, h1, h2, h3⟩ := (G3.out.atBox 1 rfl).c4
      obtain ⟨i0, i1, i2, i3⟩ := (G3.out.atBox 0 rfl).c4
      have j0 := (G3.out.atBox 0 rfl).frozen 0
      have j1 := (G3.out.atBox 0 rfl).frozen 1
      have j2 := (G3.out.atBox 0 rfl).frozen 2
      have j3 := (G3.out.atBox 0 rfl).frozen 3
      go_wp2
      exact bodyPost_ret (res_tb2 rfl _ _ (w.heap.size + 1) _ _ _ _ (0, 0) rfl (G4.out.atBox 0 rfl)) rfl ⟨rfl, G4.out.it, G4.out.chg⟩
    | false =>
      obtain ⟨rfl, rfl, rfl⟩ := HP3.out rfl rfl
      clear HP1 HP2 HP3
      rw [show at12 false false s k = 0 from rfl] at AT
      go_enter Try.func70, Try.ntmps70
      go_wp2_with fail
      refine (AT.out _ (GO.out _ G0.out).1 (GO.out _ G0.out).2).mono ?_
      rintro e w1 ⟨rfl, b1⟩
      have G1 := hide (G0.out.step b1)
      clear b1 G0
      have G4 := hide (G1.out.store4 0 rfl (.int .i64 s) (.slice (some ⟨gl, 0, none⟩) X.length cl) (.slice (some ⟨gr, 0, none⟩) Y.length cr) (.int .i64 mX))
      obtain ⟨h0, h1, h2, h3⟩ := (G1.out.atBox 1 rfl).c4
      obtain ⟨i0, i1, i2, i3⟩ := (G1.out.atBox 0 rfl).c4
      have j0 := (G1.out.atBox 0 rfl).frozen 0
      have j1 := (G1.out.atBox 0 rfl).frozen 1
      have j2 := (G1.out.atBox 0 rfl).frozen 2
      have j3 := (G1.out.atBox 0 rfl).frozen 3
      go_wp2
      exact bodyPost_ret (res_tb2 rfl _ _ (w.heap.size + 1) _ _ _ _ (0, 0) rfl (G4.out.atBox 0 rfl)) rfl ⟨rfl, G4.out.it, G4.out.chg⟩

set_option maxRecDepth 100000 in
set_option maxHeartbeats 6400000 in
theorem dropKey_calls (s m k : Int) (l r : Value) (ls rs : List Sl) (X Y : List Sl) (sX mX : Int) (ok : Bool) (w : World) (hl : RdS w l ls) (hr : RdS w r rs) (hf : DrAt s m ls rs k X Y sX mX ok) :
    Calls Try.prog 109 #[.agg #[.int .i64 s, l, r, .int .i64 m], .int .i64 k] w fun e w' => ∃ l' r', e = .returned (.tuple #[.agg #[.int .i64 sX, l', r', .int .i64 mX], .bool ok]) ∧ TabV w' w.heap.size w'.heap.size l' r' X Y ∧ Below w.heap.size w w' := by
  obtain ⟨al, cl, rfl, _, _⟩ := hl.sl
  obtain ⟨ar, cr, rfl, _, _⟩ := hr.sl
  have RL := hide hl
  have RR := hide hr
  have A0 := hide (Hand.twoN w #[.int .i64 s, .slice al ls.length cl, .slice ar rs.length cr, .int .i64 m] nilT 28 28)
  obtain ⟨gb, hgb⟩ := bol_ex (okT s ls rs m)
  obtain ⟨kb, hkb⟩ := bol_ex (kOk k)
  have GD := hide (fun W (h1 : RdS W _ ls) (h2 : RdS W _ rs) => goodTable_calls s m (.slice al ls.length cl) (.slice ar rs.length cr) ls rs gb W h1 h2 hgb)
  have KY := hide (fun W => isTableKey_calls k kb W hkb)
  have GB := hide hgb
  have KB := hide hkb
  have HF := hide hf
  clear hl hr hgb hkb hf
  cases gb with
  | false =>
    obtain ⟨rfl, rfl, rfl, rfl, rfl⟩ : X = [] ∧ Y = [] ∧ sX = 0 ∧ mX = 0 ∧ ok = false := by
      rcases HF.out with h | h
      · exact absurd h.1 (nf GB.out)
      · exact h.2
    clear HF
    go_enter Try.func109, Try.ntmps109
    go_wp2_with fail
    refine (GD.out _ (RL.out.below A0.out.below) (RR.out.below A0.out.below)).mono ?_
    rintro e w1 ⟨rfl, b1⟩
    have A1 := hide (A0.out.step b1)
    clear b1 A0
    obtain ⟨z0, z1, z2, z3⟩ := (A1.out.atBox 0 rfl).c4
    have y0 := (A1.out.atBox 0 rfl).frozen 0
    have y1 := (A1.out.atBox 0 rfl).frozen 1
    have y2 := (A1.out.atBox 0 rfl).frozen 2
    have y3 := (A1.out.atBox 0 rfl).frozen 3
    have A9 := hide (A1.out.store4 0 rfl (.int .i64 0) (.slice none 0 0) (.slice none 0 0) (.int .i64 0))
    clear A1
    go_wp2
    exact bodyPost_ret (res_tb2 rfl _ _ (w.heap.size + 1) _ _ _ _ (0, 0) rfl (A9.out.atBox 0 rfl)) rfl ⟨_, _, rfl, TabV.nil _ _ _, A9.out.below⟩
  | true =>
    cases kb with
    | false =>
      obtain ⟨rfl, rfl, rfl, rfl, rfl⟩ : X = [] ∧ Y = [] ∧ sX = 0 ∧ mX = 0 ∧ ok = false := by
        rcases HF.out with h | h
        · exact absurd h.2.1 (nf KB.out)
        · exact h.2
      clear HF
      go_enter Try.func109, Try.ntmps109
      go_wp2_with fail
      refine (GD.out _ (RL.out.below A0.out.below) (RR.out.below A0.out.below)).mono ?_
      rintro e w1 ⟨rfl, b1⟩
      have A1 := hide (A0.out.step b1)
      clear b1 A0
      obtain ⟨z0, z1, z2, z3⟩ := (A1.out.atBox 0 rfl).c4
      have y0 := (A1.out.atBox 0 rfl).frozen 0
      have y1 := (A1.out.atBox 0 rfl).frozen 1
      have y2 := (A1.out.atBox 0 rfl).frozen 2
      have y3 := (A1.out.atBox 0 rfl).frozen 3
      have A9 := hide (A1.out.store4 0 rfl (.int .i64 0) (.slice none 0 0) (.slice none 0 0) (.int .i64 0))
      clear A1
      go_wp2_with (go_at_call 79; refine (KY.out _).mono ?_; rintro e w' ⟨rfl, rfl⟩)
      exact bodyPost_ret (res_tb2 rfl _ _ (w.heap.size + 1) _ _ _ _ (0, 0) rfl (A9.out.atBox 0 rfl)) rfl ⟨_, _, rfl, TabV.nil _ _ _, A9.out.below⟩
    | true =>
      have OK := hide (GB.out.1 rfl)
      have HK := hide (KB.out.1 rfl)
      have hm := OK.out.many
      obtain ⟨t, ht⟩ := bol_ex (isL s ls k)
      obtain ⟨u, hu⟩ := bol_ex (isR s rs k)
      have HT := hide ht
      have HU := hide hu
      clear ht hu
      have l1 : 0 < ls.length := by have := OK.out.2.1.1; omega
      have l2 : 0 < rs.length := by have := OK.out.2.2.1.1; omega
      have l3 : ls.length ≤ 1048576 := by have := OK.out.2.1.1; omega
      have l4 : rs.length ≤ 1048576 := by have := OK.out.2.2.1.1; omega
      obtain ⟨p, hp, hp2⟩ := fsN s k
      obtain ⟨q, hq, hq2⟩ := snN s k
      have hpn : p < ls.length := by have := OK.out.2.1.1; omega
      have hqn : q < rs.length := by have := OK.out.2.2.1.1; omega
      have HP := hide hp
      have HQ := hide hq
      clear hp hq
      have CS : Hid ((t = true ∧ X = ls.set p sl0 ∧ Y = rs ∧ sX = s ∧ mX = m - 1 ∧ ok = true) ∨ (t = false ∧ u = true ∧ X = ls ∧ Y = rs.set q sl0 ∧ sX = s ∧ mX = m - 1 ∧ ok = true) ∨ (t = false ∧ u = false ∧ X = [] ∧ Y = [] ∧ sX = 0 ∧ mX = 0 ∧ ok = false)) := by
        have e1 := HP.out
        have e2 := HQ.out
        rcases HF.out with ⟨_, _, h, h3, h4, h5⟩ | ⟨h, h3, h4, h5, h6, h7⟩
        · rcases h with ⟨h, hx, hy⟩ | ⟨h, h', hx, hy⟩
          · rw [e1, Int.toNat_natCast] at hx
            exact .inl ⟨HT.out.2 h, hx, hy, h3, h4, h5⟩
          · rw [e2, Int.toNat_natCast] at hy
            exact .inr (.inl ⟨not_t HT.out h, HU.out.2 h', hx, hy, h3, h4, h5⟩)
        · right; right
          have h8 : NotIn s ls rs k := Classical.byContradiction fun hn => h ⟨OK.out, HK.out, hn⟩
          exact ⟨not_t HT.out h8.1, not_t HU.out h8.2, h3, h4, h5, h6, h7⟩
      clear HF
      go_enter Try.func109, Try.ntmps109
      go_wp2_with fail
      refine (GD.out _ (RL.out.below A0.out.below) (RR.out.below A0.out.below)).mono ?_
      rintro e w1 ⟨rfl, b1⟩
      have A1 := hide (A0.out.step b1)
      clear b1 A0
      obtain ⟨c0, c1, c2, c3⟩ := (A1.out.atBox 1 rfl).c4
      go_wp2_with fail
      refine (KY.out _).mono ?_
      rintro e w' ⟨rfl, rfl⟩
      go_wp2_with fail
      refine (copyTable_calls s m _ _ ls rs _ (RL.out.below A1.out.below) (RR.out.below A1.out.below) l1 l2 l3 l4).mono ?_
      rintro e w2 ⟨l', r', rfl, d, b2⟩
      obtain ⟨gl, cl', gr, cr', rfl, rfl⟩ := d.form l1 l2
      have A3 := hide ((A1.out.add b2 (TTab.st _ _ _ _) d).box #[.int .i64 s, .slice (some ⟨gl, 0, none⟩) ls.length cl', .slice (some ⟨gr, 0, none⟩) rs.length cr', .int .i64 m] 28)
      clear b2 A1 d c0 c1 c2 c3
      obtain ⟨c0, c1, c2, c3⟩ := (A3.out.atBox 0 rfl).c4
      go_wp2_with fail
      rcases CS.out with ⟨rfl, rfl, rfl, rfl, rfl, rfl⟩ | ⟨rfl, rfl, rfl, rfl, rfl, rfl, rfl⟩ | ⟨rfl, rfl, rfl, rfl, rfl, rfl, rfl⟩
      · refine (slotWith_calls sX m k gl 0 cl' gr 0 cr' ls Y true u (some ⟨gl, 0 + p * 3, none⟩) _ (TabV.rl (A3.out.tab 1 rfl)) (TabV.rr (A3.out.tab 1 rfl)) OK.out.1 HK.out OK.out.2.1.1 OK.out.2.2.1.1 HT.out HU.out (fun _ => by rw [HP.out, Int.toNat_natCast]) (fun h => by simp at h) (fun h => by simp at h)).mono ?_
        rw [Nat.zero_add]
        rintro e w4 ⟨rfl, b4⟩
        have A4 := hide (A3.out.step b4)
        clear b4 A3 c0 c1 c2 c3
        have A5 : Hid (Hand w (((w4.setCell ⟨gl, p * 3, none⟩ (.bool false)).setCell ⟨gl, p * 3 + 1, none⟩ (.int .i64 0)).setCell ⟨gl, p * 3 + 2, none⟩ (.int .i64 0)) _) := A4.out.putL 1 rfl p hpn sl0
        have A6 := hide (A5.out.setBoxT 0 rfl 3 (.int .i64 (m - 1)))
        have A7 := hide (A6.out.store4 2 rfl (.int .i64 sX) (.slice (some ⟨gl, 0, none⟩) ls.length cl') (.slice (some ⟨gr, 0, none⟩) Y.length cr') (.int .i64 (m - 1)))
        obtain ⟨⟨d0, d1, d2⟩, d3, d4, d5⟩ := TabV.cellsL (A4.out.tab 1 rfl) p hpn
        obtain ⟨e0, e1, e2, e3⟩ := (A5.out.atBox 0 rfl).c4
        have f3 := (A5.out.atBox 0 rfl).frozen 3
        obtain ⟨h0, h1, h2, h3⟩ := (A6.out.atBox 0 rfl).c4
        obtain ⟨i0, i1, i2, i3⟩ := (A6.out.atBox 2 rfl).c4
        have j0 := (A6.out.atBox 2 rfl).frozen 0
        have j1 := (A6.out.atBox 2 rfl).frozen 1
        have j2 := (A6.out.atBox 2 rfl).frozen 2
        have j3 := (A6.out.atBox 2 rfl).frozen 3
        go_wp2
        exact bodyPost_ret (res_tb2 rfl _ _ (w.heap.size + 1) _ _ _ _ (0, 0) rfl (A7.out.atBox 2 rfl)) rfl ⟨_, _, rfl, A7.out.tab 1 rfl, A7.out.below⟩
      · refine (slotWith_calls sX m k gl 0 cl' gr 0 cr' X rs false true (some ⟨gr, 0 + q * 3, none⟩) _ (TabV.rl (A3.out.tab 1 rfl)) (TabV.rr (A3.out.tab 1 rfl)) OK.out.1 HK.out OK.out.2.1.1 OK.out.2.2.1.1 HT.out HU.out (fun h => by simp at h) (fun _ _ => by rw [HQ.out, Int.toNat_natCast]) (fun _ h => by simp at h)).mono ?_
        rw [Nat.zero_add]
        rintro e w4 ⟨rfl, b4⟩
        have A4 := hide (A3.out.step b4)
        clear b4 A3 c0 c1 c2 c3
        have A5 : Hid (Hand w (((w4.setCell ⟨gr, q * 3, none⟩ (.bool false)).setCell ⟨gr, q * 3 + 1, none⟩ (.int .i64 0)).setCell ⟨gr, q * 3 + 2, none⟩ (.int .i64 0)) _) := A4.out.putR 1 rfl q hqn sl0
        have A6 := hide (A5.out.setBoxT 0 rfl 3 (.int .i64 (m - 1)))
        have A7 := hide (A6.out.store4 2 rfl (.int .i64 sX) (.slice (some ⟨gl, 0, none⟩) X.length cl') (.slice (some ⟨gr, 0, none⟩) rs.length cr') (.int .i64 (m - 1)))
        obtain ⟨⟨d0, d1, d2⟩, d3, d4, d5⟩ := TabV.cellsR (A4.out.tab 1 rfl) q hqn
        obtain ⟨e0, e1, e2, e3⟩ := (A5.out.atBox 0 rfl).c4
        have f3 := (A5.out.atBox 0 rfl).frozen 3
        obtain ⟨h0, h1, h2, h3⟩ := (A6.out.atBox 0 rfl).c4
        obtain ⟨i0, i1, i2, i3⟩ := (A6.out.atBox 2 rfl).c4
        have j0 := (A6.out.atBox 2 rfl).frozen 0
        have j1 := (A6.out.atBox 2 rfl).frozen 1
        have j2 := (A6.out.atBox 2 rfl).frozen 2
        have j3 := (A6.out.atBox 2 rfl).frozen 3
        go_wp2
        exact bodyPost_ret (res_tb2 rfl _ _ (w.heap.size + 1) _ _ _ _ (0, 0) rfl (A7.out.atBox 2 rfl)) rfl ⟨_, _, rfl, A7.out.tab 1 rfl, A7.out.below⟩
      · refine (slotWith_calls s m k gl 0 cl' gr 0 cr' ls rs false false none _ (TabV.rl (A3.out.tab 1 rfl)) (TabV.rr (A3.out.tab 1 rfl)) OK.out.1 HK.out OK.out.2.1.1 OK.out.2.2.1.1 HT.out HU.out (fun h => by simp at h) (fun _ h => by simp at h) (fun _ _ => rfl)).mono ?_
        rintro e w4 ⟨rfl, b4⟩
        have A4 := hide (A3.out.step b4)
        clear b4 A3 c0 c1 c2 c3
        obtain ⟨z0, z1, z2, z3⟩ := (A4.out.atBox 2 rfl).c4
        have y0 := (A4.out.atBox 2 rfl).frozen 0
        have y1 := (A4.out.atBox 2 rfl).frozen 1
        have y2 := (A4.out.atBox 2 rfl).frozen 2
        have y3 := (A4.out.atBox 2 rfl).frozen 3
        have A9 := hide (A4.out.store4 2 rfl (.int .i64 0) (.slice none 0 0) (.slice none 0 0) (.int .i64 0))
        clear A4
        go_wp2
        exact bodyPost_ret (res_tb2 rfl _ _ (w.heap.size + 1) _ _ _ _ (0, 0) rfl (A9.out.atBox 2 rfl)) rfl ⟨_, _, rfl, TabV.nil _ _ _, A9.out.below⟩
end Go.Proofs.Ytehjfjplajimfaa

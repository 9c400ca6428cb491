/-
  A key put on a table of one's own: l12Put of the model. The contract says what it asks.
-/
import Derived.Test.YtehjfjplajimfaaTse
namespace Go.Proofs.Ytehjfjplajimfaa
open Go.RowKit
set_option linter.unusedVariables false

section
variable {w : World} {lo hi gl gr n n' cl cr : Nat} {ls rs : List Sl}
theorem TabV.put2L (d : TabV w lo hi (.slice (some ⟨gl, 0, none⟩) n cl) (.slice (some ⟨gr, 0, none⟩) n' cr) ls rs) (p : Nat) (hp : p < ls.length) (u : Bool) (x y z : Int) (hx : ls.getD p sl0 = (u, x, y)) :
    TabV (w.setCell ⟨gl, p * 3 + 2, none⟩ (.int .i64 z)) lo hi (.slice (some ⟨gl, 0, none⟩) n cl) (.slice (some ⟨gr, 0, none⟩) n' cr) (ls.set p (u, x, z)) rs ∧ Chg lo hi w (w.setCell ⟨gl, p * 3 + 2, none⟩ (.int .i64 z)) := by
  obtain ⟨o, g⟩ := OwnS.put2 d.left p hp z
  rw [hx] at o
  exact ⟨d.setL o g, d.chgL g⟩
theorem TabV.put2R (d : TabV w lo hi (.slice (some ⟨gl, 0, none⟩) n cl) (.slice (some ⟨gr, 0, none⟩) n' cr) ls rs) (p : Nat) (hp : p < rs.length) (u : Bool) (x y z : Int) (hx : rs.getD p sl0 = (u, x, y)) :
    TabV (w.setCell ⟨gr, p * 3 + 2, none⟩ (.int .i64 z)) lo hi (.slice (some ⟨gl, 0, none⟩) n cl) (.slice (some ⟨gr, 0, none⟩) n' cr) ls (rs.set p (u, x, z)) ∧ Chg lo hi w (w.setCell ⟨gr, p * 3 + 2, none⟩ (.int .i64 z)) := by
  obtain ⟨o, g⟩ := OwnS.put2 d.right p hp z
  rw [hx] at o
  exact ⟨d.setR o g, d.chgR g⟩
end
/-- What comes of a put on good rows. -/
def PtTo (s m : Int) (ls rs : List Sl) (k v : Int) (X Y : List Sl) (mX n : Int) (ok : Bool) : Prop :=
  (ok = true ∧ ∃ a, PutTo s ls rs k v X Y n a ∧ mX = m + a) ∨ (ok = false ∧ NoRoom s ls rs k v ∧ n = 0 ∧ mX = m + 1)
theorem isL_at {s : Int} {ls : List Sl} {k : Int} {p : Nat} (h : isL s ls k) (hp : fs s k = (p : Int)) : ∃ y, ls.getD p sl0 = (true, k, y) := by
  unfold isL at h
  rw [hp, Int.toNat_natCast] at h
  exact ⟨(ls.getD p sl0).2.2, Prod.ext h.1 (Prod.ext h.2 rfl)⟩
theorem isR_at {s : Int} {rs : List Sl} {k : Int} {p : Nat} (h : isR s rs k) (hp : sn s k = (p : Int)) : ∃ y, rs.getD p sl0 = (true, k, y) := by
  unfold isR at h
  rw [hp, Int.toNat_natCast] at h
  exact ⟨(rs.getD p sl0).2.2, Prod.ext h.1 (Prod.ext h.2 rfl)⟩
/-- The ways of a put: at its first place, at its second one, by kicks. -/
theorem PtTo.ways {s m : Int} {ls rs : List Sl} {k v : Int} {X Y : List Sl} {mX n : Int} {ok : Bool} (h : PtTo s m ls rs k v X Y mX n ok) (h1 : rowOk (fs s) ls) (h2 : rowOk (sn s) rs) (hk : kOk k) (hv : kOk v) :
    (isL s ls k ∧ X = ls.set (fs s k).toNat (true, k, v) ∧ Y = rs ∧ n = 0 ∧ mX = m ∧ ok = true) ∨ (¬ isL s ls k ∧ isR s rs k ∧ X = ls ∧ Y = rs.set (sn s k).toNat (true, k, v) ∧ n = 0 ∧ mX = m ∧ ok = true) ∨
    (¬ isL s ls k ∧ ¬ isR s rs k ∧ mX = m + 1 ∧ ∃ R, OnWay s R 0 ls rs k v ∧ n = nR R ∧ ok = R.isSome ∧ (ok = true → R = some (X, Y, n.toNat))) := by
  rcases h with ⟨rfl, a, h, rfl⟩ | ⟨rfl, h, rfl, rfl⟩
  · rcases h with ⟨a1, rfl, rfl, rfl, rfl⟩ | ⟨a1, a2, rfl, rfl, rfl, rfl⟩ | ⟨a1, a2, rfl, N, rfl, a3⟩
    · exact .inl ⟨a1, rfl, rfl, rfl, by omega, rfl⟩
    · exact .inr (.inl ⟨a1, a2, rfl, rfl, rfl, by omega, rfl⟩)
    · exact .inr (.inr ⟨a1, a2, rfl, _, ⟨by omega, h1, h2, hk, hv, a3⟩, rfl, rfl, fun _ => by rw [Int.toNat_natCast]⟩)
  · exact .inr (.inr ⟨h.1, h.2.1, rfl, none, ⟨by omega, h1, h2, hk, hv, h.2.2⟩, rfl, rfl, fun e => by simp at e⟩)

set_option linter.unusedSimpArgs false in
set_option maxRecDepth 100000 in
set_option maxHeartbeats 3200000 in
theorem sl12Put_calls (s m k v : Int) (gl cl gr cr : Nat) (ls rs X Y : List Sl) (mX n : Int) (ok : Bool) (lo hi : Nat) (w : World) (d : TabV w lo hi (.slice (some ⟨gl, 0, none⟩) 11 cl) (.slice (some ⟨gr, 0, none⟩) 11 cr) ls rs) (hh : hi ≤ w.heap.size) (hs : sdOk s) (hk : kOk k) (hv : kOk v) (h1 : rowOk (fs s) ls) (h2 : rowOk (sn s) rs) (hm : 0 ≤ m ∧ m ≤ 22) (hP : PtTo s m ls rs k v X Y mX n ok) :
    Calls Try.prog 59 #[.agg #[.int .i64 s, (.slice (some ⟨gl, 0, none⟩) 11 cl), (.slice (some ⟨gr, 0, none⟩) 11 cr), .int .i64 m], .int .i64 k, .int .i64 v] w fun e w' => e = .returned (.tuple #[.agg #[.int .i64 s, (.slice (some ⟨gl, 0, none⟩) 11 cl), (.slice (some ⟨gr, 0, none⟩) 11 cr), .int .i64 mX], .int .i64 n, .bool ok]) ∧ (∃ X' Y', TabV w' lo hi (.slice (some ⟨gl, 0, none⟩) 11 cl) (.slice (some ⟨gr, 0, none⟩) 11 cr) X' Y' ∧ (ok = true → X' = X ∧ Y' = Y)) ∧ Chg lo hi w w' := by
  obtain ⟨p, hp, hp2⟩ := fsN s k
  obtain ⟨q, hq, hq2⟩ := snN s k
  have hpn : p < ls.length := by rw [h1.1]; exact hp2
  have hqn : q < rs.length := by rw [h2.1]; exact hq2
  have hpl : (p : Int) < 11 := by omega
  have hql : (q : Int) < 11 := by omega
  have G0 := hide ((Hand.twoN w #[.int .i64 s, (.slice (some ⟨gl, 0, none⟩) 11 cl), (.slice (some ⟨gr, 0, none⟩) 11 cr), .int .i64 m] nilT 28 28).guest hh (TTab.st _ _ _ _) d)
  obtain ⟨t, ht⟩ := bol_ex (isL s ls k)
  obtain ⟨u, hu⟩ := bol_ex (isR s rs k)
  have AT0 := fun W (h3 : RdS W (.slice (some ⟨gl, 0, none⟩) ls.length cl) ls) (h4 : RdS W (.slice (some ⟨gr, 0, none⟩) rs.length cr) rs) => sl12At_calls s m k (.slice (some ⟨gl, 0, none⟩) ls.length cl) (.slice (some ⟨gr, 0, none⟩) rs.length cr) ls rs t u W h3 h4 hs hk h1.1 h2.1 ht hu
  rw [h1.1, h2.1] at AT0
  have AT := hide AT0
  have WY := hide (hP.ways h1 h2 hk hv)
  have HP := hide hp
  have HQ := hide hq
  have HS := hide hs
  have GO : Hid (∀ W L, Guest lo hi w W (TTab (.slice (some ⟨gl, 0, none⟩) 11 cl) (.slice (some ⟨gr, 0, none⟩) 11 cr) ls rs) L → RdS W (.slice (some ⟨gl, 0, none⟩) 11 cl) ls ∧ RdS W (.slice (some ⟨gr, 0, none⟩) 11 cr) rs) := fun W L G => ⟨TabV.rl G.it, TabV.rr G.it⟩
  have GO := hide (fun W {L : List Tg} (G : Guest lo hi w W (TTab (.slice (some ⟨gl, 0, none⟩) 11 cl) (.slice (some ⟨gr, 0, none⟩) 11 cr) ls rs) L) => GO.out W L G)
  have HT := hide ht
  have HU := hide hu
  obtain ⟨hm0, hm1⟩ := hm
  clear hp hq hP AT0 ht hu hs h1 h2 d hk hv
  rcases WY.out with ⟨h, hX, hY, rfl, hmX, rfl⟩ | ⟨h, h2, hX, hY, rfl, hmX, rfl⟩ | ⟨h, h2, rfl, R, ow, hn, hok, hxr⟩
  · rw [HP.out, Int.toNat_natCast] at hX
    obtain rfl := hX.symm
    obtain rfl := hY.symm
    obtain rfl := hmX.symm
    obtain rfl : t = true := HT.out.2 h
    clear WY HT HU
    rw [show at12 true u s k = (p : Int) from HP.out] at AT
    obtain ⟨y, hy⟩ := isL_at h (HP.out)
    have HY := hide hy
    clear hy
    go_enter Try.func59, Try.ntmps59
    go_wp2_with fail
    refine (AT.out _ (GO.out _ G0.out).1 (GO.out _ G0.out).2).mono ?_
    rintro e w1 ⟨rfl, b1⟩
    have G1 := hide (G0.out.step b1)
    clear b1 G0
    have G2 : Hid (Guest lo hi w (w1.setCell ⟨gl, p * 3 + 2, none⟩ (.int .i64 v)) (TTab _ _ (ls.set p (true, k, v)) rs) _) := G1.out.low (TTab.st _ _ _ _) (TabV.put2L G1.out.it p hpn true k y v HY.out).1 (TabV.put2L G1.out.it p hpn true k y v HY.out).2
    obtain ⟨c0, c1, c2, c3⟩ := (G1.out.atBox 1 rfl).c4
    obtain ⟨⟨d0, d1, d2⟩, d3, d4, d5⟩ := TabV.cellsL G1.out.it p hpn
    rw [HY.out] at d0 d1 d2
    simp only at d0 d1 d2
    obtain ⟨e0, e1, e2, e3⟩ := (G2.out.atBox 1 rfl).c4
    obtain ⟨z0, z1, z2, z3⟩ := (G2.out.atBox 0 rfl).c4
    have y0 := (G2.out.atBox 0 rfl).frozen 0
    have y1 := (G2.out.atBox 0 rfl).frozen 1
    have y2 := (G2.out.atBox 0 rfl).frozen 2
    have y3 := (G2.out.atBox 0 rfl).frozen 3
    have G4 := hide (G2.out.store4 0 rfl (.int .i64 s) (.slice (some ⟨gl, 0, none⟩) 11 cl) (.slice (some ⟨gr, 0, none⟩) 11 cr) (.int .i64 m))
    go_wp2
    exact bodyPost_ret (res_tb3 rfl _ _ (w.heap.size + 1) _ _ _ _ (0, 0) rfl (G4.out.atBox 0 rfl)) rfl ⟨rfl, ⟨_, _, G4.out.it, fun _ => ⟨rfl, rfl⟩⟩, G4.out.chg⟩
  · rw [HQ.out, Int.toNat_natCast] at hY
    obtain rfl := hX.symm
    obtain rfl := hY.symm
    obtain rfl := hmX.symm
    obtain rfl : t = false := not_t HT.out h
    obtain rfl : u = true := HU.out.2 h2
    clear WY HT HU
    rw [show at12 false true s k = (q : Int) from HQ.out] at AT
    obtain ⟨y, hy⟩ := isR_at h2 (HQ.out)
    have HY := hide hy
    clear hy
    go_enter Try.func59, Try.ntmps59
    go_wp2_with fail
    refine (AT.out _ (GO.out _ G0.out).1 (GO.out _ G0.out).2).mono ?_
    rintro e w1 ⟨rfl, b1⟩
    have G1 := hide (G0.out.step b1)
    clear b1 G0
    have G2 : Hid (Guest lo hi w (w1.setCell ⟨gr, q * 3 + 2, none⟩ (.int .i64 v)) (TTab _ _ ls (rs.set q (true, k, v))) _) := G1.out.low (TTab.st _ _ _ _) (TabV.put2R G1.out.it q hqn true k y v HY.out).1 (TabV.put2R G1.out.it q hqn true k y v HY.out).2
    obtain ⟨c0, c1, c2, c3⟩ := (G1.out.atBox 1 rfl).c4
    obtain ⟨⟨d0, d1, d2⟩, d3, d4, d5⟩ := TabV.cellsR G1.out.it q hqn
    rw [HY.out] at d0 d1 d2
    simp only at d0 d1 d2
    obtain ⟨e0, e1, e2, e3⟩ := (G2.out.atBox 1 rfl).c4
    obtain ⟨z0, z1, z2, z3⟩ := (G2.out.atBox 0 rfl).c4
    have y0 := (G2.out.atBox 0 rfl).frozen 0
    have y1 := (G2.out.atBox 0 rfl).frozen 1
    have y2 := (G2.out.atBox 0 rfl).frozen 2
    have y3 := (G2.out.atBox 0 rfl).frozen 3
    have G4 := hide (G2.out.store4 0 rfl (.int .i64 s) (.slice (some ⟨gl, 0, none⟩) 11 cl) (.slice (some ⟨gr, 0, none⟩) 11 cr) (.int .i64 m))
    go_wp2
    exact bodyPost_ret (res_tb3 rfl _ _ (w.heap.size + 1) _ _ _ _ (0, 0) rfl (G4.out.atBox 0 rfl)) rfl ⟨rfl, ⟨_, _, G4.out.it, fun _ => ⟨rfl, rfl⟩⟩, G4.out.chg⟩
  · obtain rfl : t = false := not_t HT.out h
    obtain rfl : u = false := not_t HU.out h2
    rw [show at12 false false s k = 0 from rfl] at AT
    have OW0 := hide ow
    have NN := hide hn
    have OKR := hide hok
    have XR := hide hxr
    clear WY HT HU h h2 ow hn hok hxr
    go_enter Try.func59, Try.ntmps59
    go_wp2_with fail
    refine (AT.out _ (GO.out _ G0.out).1 (GO.out _ G0.out).2).mono ?_
    rintro e w1 ⟨rfl, b1⟩
    have G1 := hide ((G0.out.step b1).box #[.bool true, .int .i64 k, .int .i64 v] 81)
    clear b1 G0
    obtain ⟨c0, c1, c2, c3⟩ := (G1.out.atBox 2 rfl).c4
    have f3 := (G1.out.atBox 2 rfl).frozen 3
    have G2 : Hid (Guest lo hi w ((w1.alloc (.cells #[.bool true, .int .i64 k, .int .i64 v] 81)).setCell ⟨w.heap.size, 3, none⟩ (.int .i64 (m + 1))) _ [TBox w1.heap.size #[.bool true, .int .i64 k, .int .i64 v] 81, TBox (w.heap.size + 1) nilT 28, TBox w.heap.size #[.int .i64 s, (.slice (some ⟨gl, 0, none⟩) 11 cl), (.slice (some ⟨gr, 0, none⟩) 11 cr), .int .i64 (m + 1)] 28]) := G1.out.setBox 2 rfl 3 (.int .i64 (m + 1))
    clear G1
    go_wp2
    clear c0 c1 c2 c3 f3
    obtain ⟨gs, hgs⟩ : ∃ gs, gs = w1.heap.size := ⟨_, rfl⟩
    rw [← hgs] at G2 ⊢
    go_loopw [13] (fun vj wr => ∃ (j : Nat) (ls rs : List Sl) (k z : Int), vj = .int .i64 j ∧ OnWay s R j ls rs k z ∧ Guest lo hi w wr (TTab (.slice (some ⟨gl, 0, none⟩) 11 cl) (.slice (some ⟨gr, 0, none⟩) 11 cr) ls rs) [TBox gs #[.bool true, .int .i64 k, .int .i64 z] 81, TBox (w.heap.size + 1) nilT 28, TBox w.heap.size #[.int .i64 s, (.slice (some ⟨gl, 0, none⟩) 11 cl), (.slice (some ⟨gr, 0, none⟩) 11 cr), .int .i64 (m + 1)] 28]) (fun vj _ => 25 - (intOf vj).toNat)
    case atStart => exact ⟨0, ls, rs, k, v, rfl, OW0.out, G2.out⟩
    case round =>
      obtain ⟨j, ls, rs, k, z, rfl, ow, g⟩ := hrel
      have OW := hide ow
      have G := hide g
      clear ow g G2 hgs
      have hj25 : j ≤ 25 := OW.out.le
      clear hpn hqn hpl hql hp2 hq2
      by_cases hj : j < 25
      · have hj' : (j : Int) ≤ 24 := by omega
        by_cases hev : j % 2 = 0
        · have hrem : ((j : Int) % 2 == 0) = true := by simp; omega
          have hrem' : ((j : Int).tmod 2 == 0) = true := by rw [Int.tmod_eq_emod_of_nonneg (by omega)]; exact hrem
          obtain ⟨p, hp, hp2⟩ := fsN s k
          have PN := hide hp
          clear hp
          have hpl : (p : Int) < 11 := by omega
          have hpn : p < ls.length := by rw [OW.out.okL.1]; omega
          obtain ⟨⟨⟨u, x, y⟩, hx⟩⟩ : Nonempty { o : Sl // ls.getD p sl0 = o } := ⟨⟨_, rfl⟩⟩
          have CSE := hide (OW.out.left hj hev PN.out hx)
          have HX := hide hx
          clear hx
          have G1 := hide (G.out.box #[.bool false, .int .i64 0, .int .i64 0] 81)
          obtain ⟨c0, c1, c2, c3⟩ := (G.out.atBox 2 rfl).c4
          obtain ⟨b0, b1, b2⟩ := (G.out.atBox 0 rfl).c3
          obtain ⟨cc0, cc1, cc2, cc3⟩ := (G1.out.atBox 3 rfl).c4
          obtain ⟨bb0, bb1, bb2⟩ := (G1.out.atBox 1 rfl).c3
          clear G
          go_wp2_with fail
          refine (sl12First_calls s k _ HS.out OW.out.key).mono ?_
          rintro e w' ⟨rfl, rfl⟩
          rw [PN.out]
          generalize wr.alloc (.cells #[.bool false, .int .i64 0, .int .i64 0] 81) = V1 at *
          clear c0 c1 c2 c3 b0 b1 b2 cc0 cc1 cc2 cc3 bb0 bb1 bb2
          obtain ⟨⟨d0, d1, d2⟩, d3, d4, d5⟩ := TabV.cellsL G1.out.it p hpn
          rw [HX.out] at d0 d1 d2
          simp only at d0 d1 d2
          obtain ⟨cc0, cc1, cc2, cc3⟩ := (G1.out.atBox 3 rfl).c4
          obtain ⟨o0, o1, o2⟩ := (G1.out.atBox 0 rfl).c3
          have f0 := (G1.out.atBox 0 rfl).frozen 0
          have f1 := (G1.out.atBox 0 rfl).frozen 1
          have f2 := (G1.out.atBox 0 rfl).frozen 2
          have G2 : Hid (Guest lo hi w (((V1.setCell ⟨wr.heap.size, 0, none⟩ (.bool u)).setCell ⟨wr.heap.size, 1, none⟩ (.int .i64 x)).setCell ⟨wr.heap.size, 2, none⟩ (.int .i64 y)) _ _) := G1.out.store3 0 rfl (.bool u) (.int .i64 x) (.int .i64 y)
          obtain ⟨⟨e0, e1, e2⟩, e3, e4, e5⟩ := TabV.cellsL G2.out.it p hpn
          rw [HX.out] at e0 e1 e2
          simp only at e0 e1 e2
          obtain ⟨h0, h1, h2, h3⟩ := (G2.out.atBox 3 rfl).c4
          obtain ⟨i0, i1, i2⟩ := (G2.out.atBox 1 rfl).c3
          have G3 : Hid (Guest lo hi w ((((((V1.setCell ⟨wr.heap.size, 0, none⟩ (.bool u)).setCell ⟨wr.heap.size, 1, none⟩ (.int .i64 x)).setCell ⟨wr.heap.size, 2, none⟩ (.int .i64 y)).setCell ⟨gl, p * 3, none⟩ (.bool true)).setCell ⟨gl, p * 3 + 1, none⟩ (.int .i64 k)).setCell ⟨gl, p * 3 + 2, none⟩ (.int .i64 z)) (TTab _ _ (ls.set p (true, k, z)) rs) _) := G2.out.putL p hpn (true, k, z)
          obtain ⟨j0, j1, j2⟩ := (G3.out.atBox 0 rfl).c3
          obtain ⟨l0, l1, l2, l3⟩ := (G3.out.atBox 3 rfl).c4
          obtain ⟨m0, m1, m2⟩ := (G3.out.atBox 1 rfl).c3
          have n0 := (G3.out.atBox 1 rfl).frozen 0
          have n1 := (G3.out.atBox 1 rfl).frozen 1
          have n2 := (G3.out.atBox 1 rfl).frozen 2
          clear G1 G2
          rcases CSE.out with ⟨rfl, rfl, rfl, hR⟩ | ⟨rfl, ow⟩
          · have ER : Hid (nR R = (j : Int) ∧ R.isSome = true ∧ EndsIn R (ls.set p (true, k, z)) rs) := by
              show _ ∧ _
              rw [hR]
              exact ⟨rfl, rfl, fun a b n e => by simp only [Option.some.injEq, Prod.mk.injEq] at e; exact ⟨e.1, e.2.1⟩⟩
            clear CSE hR
            obtain ⟨z0, z1, z2, z3⟩ := (G3.out.atBox 2 rfl).c4
            have y0 := (G3.out.atBox 2 rfl).frozen 0
            have y1 := (G3.out.atBox 2 rfl).frozen 1
            have y2 := (G3.out.atBox 2 rfl).frozen 2
            have y3 := (G3.out.atBox 2 rfl).frozen 3
            have G4 := hide (G3.out.store4 2 rfl (.int .i64 s) (.slice (some ⟨gl, 0, none⟩) 11 cl) (.slice (some ⟨gr, 0, none⟩) 11 cr) (.int .i64 (m + 1)))
            go_wp2
            exact bodyPost_ret (res_tb3 rfl _ _ (w.heap.size + 1) _ _ _ _ (0, 0) rfl (G4.out.atBox 2 rfl)) rfl ⟨by rw [NN.out, OKR.out, ER.out.1, ER.out.2.1]; rfl, ⟨_, _, G4.out.it, fun h => ER.out.2.2 _ _ _ (XR.out h)⟩, G4.out.chg⟩
          · have OW2 := hide ow
            clear CSE ow
            have G4 : Hid (Guest lo hi w (((((((((V1.setCell ⟨wr.heap.size, 0, none⟩ (.bool true)).setCell ⟨wr.heap.size, 1, none⟩ (.int .i64 x)).setCell ⟨wr.heap.size, 2, none⟩ (.int .i64 y)).setCell ⟨gl, p * 3, none⟩ (.bool true)).setCell ⟨gl, p * 3 + 1, none⟩ (.int .i64 k)).setCell ⟨gl, p * 3 + 2, none⟩ (.int .i64 z)).setCell ⟨gs, 0, none⟩ (.bool true)).setCell ⟨gs, 1, none⟩ (.int .i64 x)).setCell ⟨gs, 2, none⟩ (.int .i64 y)) (TTab _ _ (ls.set p (true, k, z)) rs) _) := (G3.out.store3 1 rfl (.bool true) (.int .i64 x) (.int .i64 y)).drop
            go_wp2
            exact ⟨⟨j + 1, _, _, x, y, by go_num, OW2.out, G4.out⟩, by simp [intOf]; omega⟩
        · have hrem : ((j : Int) % 2 == 0) = false := by simp; omega
          have hrem' : ((j : Int).tmod 2 == 0) = false := by rw [Int.tmod_eq_emod_of_nonneg (by omega)]; exact hrem
          obtain ⟨p, hp, hp2⟩ := snN s k
          have PN := hide hp
          clear hp
          have hpl : (p : Int) < 11 := by omega
          have hpn : p < rs.length := by rw [OW.out.okR.1]; omega
          obtain ⟨⟨⟨u, x, y⟩, hx⟩⟩ : Nonempty { o : Sl // rs.getD p sl0 = o } := ⟨⟨_, rfl⟩⟩
          have CSE := hide (OW.out.right hj hev PN.out hx)
          have HX := hide hx
          clear hx
          have G1 := hide (G.out.box #[.bool false, .int .i64 0, .int .i64 0] 81)
          obtain ⟨c0, c1, c2, c3⟩ := (G.out.atBox 2 rfl).c4
          obtain ⟨b0, b1, b2⟩ := (G.out.atBox 0 rfl).c3
          obtain ⟨cc0, cc1, cc2, cc3⟩ := (G1.out.atBox 3 rfl).c4
          obtain ⟨bb0, bb1, bb2⟩ := (G1.out.atBox 1 rfl).c3
          clear G
          go_wp2_with fail
          refine (sl12Second_calls s k _ HS.out OW.out.key).mono ?_
          rintro e w' ⟨rfl, rfl⟩
          rw [PN.out]
          generalize wr.alloc (.cells #[.bool false, .int .i64 0, .int .i64 0] 81) = V1 at *
          clear c0 c1 c2 c3 b0 b1 b2 cc0 cc1 cc2 cc3 bb0 bb1 bb2
          obtain ⟨⟨d0, d1, d2⟩, d3, d4, d5⟩ := TabV.cellsR G1.out.it p hpn
          rw [HX.out] at d0 d1 d2
          simp only at d0 d1 d2
          obtain ⟨cc0, cc1, cc2, cc3⟩ := (G1.out.atBox 3 rfl).c4
          obtain ⟨o0, o1, o2⟩ := (G1.out.atBox 0 rfl).c3
          have f0 := (G1.out.atBox 0 rfl).frozen 0
          have f1 := (G1.out.atBox 0 rfl).frozen 1
          have f2 := (G1.out.atBox 0 rfl).frozen 2
          have G2 : Hid (Guest lo hi w (((V1.setCell ⟨wr.heap.size, 0, none⟩ (.bool u)).setCell ⟨wr.heap.size, 1, none⟩ (.int .i64 x)).setCell ⟨wr.heap.size, 2, none⟩ (.int .i64 y)) _ _) := G1.out.store3 0 rfl (.bool u) (.int .i64 x) (.int .i64 y)
          obtain ⟨⟨e0, e1, e2⟩, e3, e4, e5⟩ := TabV.cellsR G2.out.it p hpn
          rw [HX.out] at e0 e1 e2
          simp only at e0 e1 e2
          obtain ⟨h0, h1, h2, h3⟩ := (G2.out.atBox 3 rfl).c4
          obtain ⟨i0, i1, i2⟩ := (G2.out.atBox 1 rfl).c3
          have G3 : Hid (Guest lo hi w ((((((V1.setCell ⟨wr.heap.size, 0, none⟩ (.bool u)).setCell ⟨wr.heap.size, 1, none⟩ (.int .i64 x)).setCell ⟨wr.heap.size, 2, none⟩ (.int .i64 y)).setCell ⟨gr, p * 3, none⟩ (.bool true)).setCell ⟨gr, p * 3 + 1, none⟩ (.int .i64 k)).setCell ⟨gr, p * 3 + 2, none⟩ (.int .i64 z)) (TTab _ _ ls (rs.set p (true, k, z))) _) := G2.out.putR p hpn (true, k, z)
          obtain ⟨j0, j1, j2⟩ := (G3.out.atBox 0 rfl).c3
          obtain ⟨l0, l1, l2, l3⟩ := (G3.out.atBox 3 rfl).c4
          obtain ⟨m0, m1, m2⟩ := (G3.out.atBox 1 rfl).c3
          have n0 := (G3.out.atBox 1 rfl).frozen 0
          have n1 := (G3.out.atBox 1 rfl).frozen 1
          have n2 := (G3.out.atBox 1 rfl).frozen 2
          clear G1 G2
          rcases CSE.out with ⟨rfl, rfl, rfl, hR⟩ | ⟨rfl, ow⟩
          · have ER : Hid (nR R = (j : Int) ∧ R.isSome = true ∧ EndsIn R ls (rs.set p (true, k, z))) := by
              show _ ∧ _
              rw [hR]
              exact ⟨rfl, rfl, fun a b n e => by simp only [Option.some.injEq, Prod.mk.injEq] at e; exact ⟨e.1, e.2.1⟩⟩
            clear CSE hR
            obtain ⟨z0, z1, z2, z3⟩ := (G3.out.atBox 2 rfl).c4
            have y0 := (G3.out.atBox 2 rfl).frozen 0
            have y1 := (G3.out.atBox 2 rfl).frozen 1
            have y2 := (G3.out.atBox 2 rfl).frozen 2
            have y3 := (G3.out.atBox 2 rfl).frozen 3
            have G4 := hide (G3.out.store4 2 rfl (.int .i64 s) (.slice (some ⟨gl, 0, none⟩) 11 cl) (.slice (some ⟨gr, 0, none⟩) 11 cr) (.int .i64 (m + 1)))
            go_wp2
            exact bodyPost_ret (res_tb3 rfl _ _ (w.heap.size + 1) _ _ _ _ (0, 0) rfl (G4.out.atBox 2 rfl)) rfl ⟨by rw [NN.out, OKR.out, ER.out.1, ER.out.2.1]; rfl, ⟨_, _, G4.out.it, fun h => ER.out.2.2 _ _ _ (XR.out h)⟩, G4.out.chg⟩
          · have OW2 := hide ow
            clear CSE ow
            have G4 : Hid (Guest lo hi w (((((((((V1.setCell ⟨wr.heap.size, 0, none⟩ (.bool true)).setCell ⟨wr.heap.size, 1, none⟩ (.int .i64 x)).setCell ⟨wr.heap.size, 2, none⟩ (.int .i64 y)).setCell ⟨gr, p * 3, none⟩ (.bool true)).setCell ⟨gr, p * 3 + 1, none⟩ (.int .i64 k)).setCell ⟨gr, p * 3 + 2, none⟩ (.int .i64 z)).setCell ⟨gs, 0, none⟩ (.bool true)).setCell ⟨gs, 1, none⟩ (.int .i64 x)).setCell ⟨gs, 2, none⟩ (.int .i64 y)) (TTab _ _ ls (rs.set p (true, k, z))) _) := (G3.out.store3 1 rfl (.bool true) (.int .i64 x) (.int .i64 y)).drop
            go_wp2
            exact ⟨⟨j + 1, _, _, x, y, by go_num, OW2.out, G4.out⟩, by simp [intOf]; omega⟩
      · have hR := OW.out.last hj
        obtain rfl : R = none := hR
        have hj' : ¬ (j : Int) ≤ 24 := by omega
        have hj2 : decide ((j : Int) ≤ 24) = false := decide_eq_false hj'
        obtain ⟨c0, c1, c2, c3⟩ := (G.out.atBox 2 rfl).c4
        obtain ⟨z0, z1, z2, z3⟩ := (G.out.atBox 1 rfl).c4
        have y0 := (G.out.atBox 1 rfl).frozen 0
        have y1 := (G.out.atBox 1 rfl).frozen 1
        have y2 := (G.out.atBox 1 rfl).frozen 2
        have y3 := (G.out.atBox 1 rfl).frozen 3
        have G4 := hide (G.out.store4 1 rfl (.int .i64 s) (.slice (some ⟨gl, 0, none⟩) 11 cl) (.slice (some ⟨gr, 0, none⟩) 11 cr) (.int .i64 (m + 1)))
        go_wp2
        exact bodyPost_ret (res_tb3 rfl _ _ (w.heap.size + 1) _ _ _ _ (0, 0) rfl (G4.out.atBox 1 rfl)) rfl ⟨by rw [NN.out, OKR.out]; rfl, ⟨ls, rs, G4.out.it, fun h => by rw [OKR.out] at h; simp at h⟩, G4.out.chg⟩
end Go.Proofs.Ytehjfjplajimfaa

/-
  What goes by counts: the model's l10Less, call by call. The contract says what it asks.
-/
import Derived.Test.YtakhggnbhjoojaaGnm
namespace Go.Proofs.Ytakhggnbhjoojaa
open Go.RowKit
set_option linter.unusedVariables false

/-- Variables that are neither rows of integers, rows of nodes nor lists stay. -/
def KeepB (w w' : World) : Prop := ∀ (g : Nat) (cs : Array Value) (T : TypeId), T ≠ 84 → T ≠ 3 → T ≠ 23 → BoxAt w g cs T → BoxAt w' g cs T
theorem KeepB.refl (w : World) : KeepB w w := fun _ _ _ _ _ _ h => h
theorem KeepB.trans {a b c : World} (h : KeepB a b) (k : KeepB b c) : KeepB a c := fun g cs T h1 h2 h3 hx => k g cs T h1 h2 h3 (h g cs T h1 h2 h3 hx)
theorem KeepB.ofBelow {w w' : World} (h : Below w.heap.size w w') : KeepB w w' := fun g cs T h1 h2 h3 hx => hx.below h
theorem KeepB.ofInts {w w' : World} {lo n : Nat} {v : Value} {xs : List Value} (ho : w.ownsRow lo 3 1 v n xs) (hg : w.grownBy w' v.ownBlock) : KeepB w w' := fun g cs T h1 h2 h3 hx => hx.kept hg (hx.offT ho (fun e => h2 e.symm))
theorem KeepB.ofNodes {w w' : World} {lo n : Nat} {v : Value} {xs : List Value} (ho : w.ownsRow lo 84 2 v n xs) (hg : w.grownBy w' v.ownBlock) : KeepB w w' := fun g cs T h1 h2 h3 hx => hx.kept hg (hx.offT ho (fun e => h1 e.symm))
theorem NdV.lastE {w : World} {lo hi : Nat} {v u : Value} {es us : List Value} {qs : List (List Int)} {k : List Int} {xs : List Nd} (h : NdV w lo hi v (es ++ [u]) us (qs ++ [k]) xs) (hl : es.length = qs.length) : Own w lo u k := by
  have := h.rowE qs.length (by simp)
  have a1 := getD_app_right es [u] qs.length 0 nilRow hl
  have a2 := getD_app_right qs [k] qs.length 0 [] rfl
  rw [Nat.add_zero] at a1 a2
  rw [a1, a2] at this
  exact this

theorem BoxAt.offRowN {w : World} {g : Nat} {cs : Array Value} {T e : TypeId} {lo n s g' c : Nat} {xs : List Value} (h : BoxAt w g cs T) (ho : w.ownsRow lo e s (.slice (some ⟨g', 0, none⟩) n c) n xs) (hne : e ≠ T) : (some g' : Option Nat) ≠ some g := h.offT ho hne

set_option maxRecDepth 100000 in
set_option maxHeartbeats 3200000 in
theorem l10Less_calls (N : Nat) (hN : N ≤ 14) : ∀ (f n B : Nat) (p r c y : Value) (es us : List Value) (qs : List (List Int)) (rs cs gs : List Int) (m : List Nd) (lo : Nat) (w : World), n < f → n < N → LsOk N B 0 (m, cs, []) → B + lsT f ≤ 40000000000 → gs.length + lsT f ≤ 16000000000 →
    NdV w lo w.heap.size p (r :: c :: y :: es) us (rs :: cs :: gs :: qs) m → lo ≤ w.heap.size →
    Calls Try.prog 85 #[.agg #[p, r, c], .int .i64 (n : Int), y] w fun e w' => ∃ y' us', e = .returned y' ∧ NdV w' lo w'.heap.size p (r :: c :: y' :: es) us' (rs :: (lsF f m cs n).2.1 :: (gs ++ (lsF f m cs n).2.2) :: qs) (lsF f m cs n).1 ∧ Below lo w w' ∧ KeepB w w' := by
  intro f
  induction f with
  | zero => intro n B p r c y es us qs rs cs gs m lo w hn; omega
  | succ f ih =>
    intro n B p r c y es us qs rs cs gs m lo w hnf hnN hok hB hG hd hlo
    have IH := hide ih
    have OK := hide hok
    have hml : m.length = N := hok.lm
    have hcl : cs.length = N := hok.lc
    have hbd := hok.bd n (by show n < cs.length; omega)
    simp only at hbd
    have hT : lsT (f + 1) = 1 + 6 * lsT f := rfl
    obtain ⟨ar, kr, er⟩ := row_slice (hd.rowE 0 (by simp))
    obtain ⟨ay, ky, ey⟩ := row_slice (hd.rowE 2 (by simp))
    obtain ⟨gc, kc, ec, _⟩ := own_put (hd.rowE 1 (by simp)) (n := n) (by show n < cs.length; omega)
    obtain ⟨gp, kp, ep, _⟩ := hd.form (by omega)
    simp only [List.getD_cons_zero, List.getD_cons_succ] at er ey ec
    subst er ey ec ep
    -- the box of the argument
    obtain ⟨w1, hw1⟩ : ∃ w1, w1 = w.alloc (.cells #[.slice (some ⟨gp, 0, none⟩) m.length kp, .slice ar rs.length kr, .slice (some ⟨gc, 0, none⟩) cs.length kc] 27) := ⟨_, rfl⟩
    have b1 : Below w.heap.size w w1 := by rw [hw1]; exact below_box _ _
    have x1 : BoxAt w1 w.heap.size #[.slice (some ⟨gp, 0, none⟩) m.length kp, .slice ar rs.length kr, .slice (some ⟨gc, 0, none⟩) cs.length kc] 27 := by rw [hw1]; exact BoxAt.new _ _ _
    have W1 : Hid (w.alloc (.cells #[.slice (some ⟨gp, 0, none⟩) m.length kp, .slice ar rs.length kr, .slice (some ⟨gc, 0, none⟩) cs.length kc] 27) = w1) := hw1.symm
    have d1 := (hd.below b1).wider (Nat.le_refl _) b1.size
    -- one from the count
    have o1 := d1.rowE 1 (by simp)
    obtain ⟨g', k', he, n1, nf1, put1⟩ := own_put o1 (n := n) (by show n < cs.length; omega)
    simp only [List.getD_cons_zero, List.getD_cons_succ, Value.slice.injEq, Option.some.injEq, Addr.mk.injEq, and_true, true_and] at he
    obtain ⟨rfl, rfl⟩ := he
    have n1' : w1.cell? ⟨gc, n, none⟩ = some (.int .i64 (cs.getD n 0)) := n1
    obtain ⟨z, hz⟩ : ∃ z, z = cs.getD n 0 := ⟨_, rfl⟩
    rw [← hz] at n1' hbd
    have p1 := put1 (z - 1)
    have d2 := d1.writeE 1 (by simp) p1.1 p1.2
    simp only [List.set_cons_zero, List.set_cons_succ, List.getD_cons_zero, List.getD_cons_succ] at d2
    have x2 := x1.kept p1.2 (x1.offT o1 (by decide))
    have kb2 : KeepB w (w1.setCell ⟨gc, n, none⟩ (.int .i64 (z - 1))) := (KeepB.ofBelow b1).trans (KeepB.ofInts o1 p1.2)
    have bl2 : Below lo w (w1.setCell ⟨gc, n, none⟩ (.int .i64 (z - 1))) := (b1.mono hlo).grown p1.2 (Nat.le_trans hlo b1.size) (fun k hk => (World.ownsRow.lt o1 k hk).1)
    have o2 := d2.rowE 1 (by simp)
    have n2 : (w1.setCell ⟨gc, n, none⟩ (.int .i64 (z - 1))).cell? ⟨gc, n, none⟩ = some (.int .i64 (z - 1)) := by
      obtain ⟨g2, k2, he, n2, _⟩ := own_put o2 (n := n) (by simp; omega)
      simp only [List.getD_cons_zero, List.getD_cons_succ, Value.slice.injEq, Option.some.injEq, Addr.mk.injEq, and_true, true_and, List.length_set] at he
      obtain ⟨rfl, rfl⟩ := he
      simp only [List.getD_cons_zero, List.getD_cons_succ] at n2
      rw [n2, getD_set _ _ _ _ _ (by omega), if_pos rfl]
    obtain ⟨cx0, cx1, cx2⟩ := x1.c3
    obtain ⟨dx0, dx1, dx2⟩ := x2.c3
    have hnc : (n : Int) < (cs.length : Int) := by omega
    have hnm : (n : Int) < (m.length : Int) := by omega
    have hz0 := hbd.1
    have hz1 := hbd.2
    have hzB : -(40000000000 : Int) ≤ z := by omega
    have D2 := hide d2
    have X2 := hide x2
    have KB2 := hide kb2
    have BL2 := hide bl2
    have HZ := hide hz
    by_cases hpos : 0 < z - 1
    · have E : Hid (lsF (f + 1) m cs n = (m, cs.set n (z - 1), [])) := by
        show _ = _
        unfold lsF
        rw [← hz, if_pos hpos]
      rw [E.out]
      clear hd d1 d2 x1 x2 b1 o1 o2 p1 put1 hw1 kb2 bl2 hz hbd n1 hml hcl hok hT ih hz0
      go_enter Try.func85, Try.ntmps85
      go_upto_region 1 with fail
      rw [W1.out]
      go_wp2
      go_ret
      exact ⟨_, _, rfl, by rw [List.append_nil]; exact D2.out.wider (Nat.le_refl _) (by simp), BL2.out, KB2.out⟩
    · obtain ⟨ks, hks⟩ : ∃ ks, ks = (m.getD n nd0).1 := ⟨_, rfl⟩
      have E : Hid (lsF (f + 1) m cs n = lsFold (lsF f) (m.set n ([], true), cs.set n (z - 1), [(n : Int)]) ks) := by
        show _ = _
        conv => lhs; unfold lsF
        rw [← hz, if_neg hpos, hks]
      have hk6 : ks.length ≤ 6 := by rw [hks]; exact (hok.nd n (by show n < m.length; omega)).1
      have HKX : Hid (∀ i, i < ks.length → 0 ≤ ks.getD i 0 ∧ ks.getD i 0 < (n : Int)) := by rw [hks]; exact (hok.nd n (by show n < m.length; omega)).2
      have S0 : Hid (LsOk N (B + 1) 1 (m.set n ([], true), cs.set n (z - 1), [(n : Int)])) := by
        refine ⟨by simpa using hml, by simpa using hcl, hok.nd.set n, ?_, by simp⟩
        have := hok.bd.less n
        simp only [← hz] at this
        exact this
      -- what the node holds comes away
      obtain ⟨e1, e2, e3, e4⟩ := d2.cells n (by omega)
      obtain ⟨ua, uc, hu⟩ := row_slice (d2.row n (by omega))
      rw [← hks] at hu
      rw [hu] at e1
      have d3 := d2.detach n (by omega)
      rw [hu, ← hks] at d3
      obtain ⟨w2, hw2⟩ : ∃ w2, w2 = w1.setCell ⟨gc, n, none⟩ (.int .i64 (z - 1)) := ⟨_, rfl⟩
      have W2 : Hid (w1.setCell ⟨gc, n, none⟩ (.int .i64 (z - 1)) = w2) := hw2.symm
      rw [← hw2] at d2 d3 x2 kb2 bl2 n2 e1 e2 e3 e4 dx0 dx1 dx2
      have ho2 := d2.head
      have st := World.ownsRow.stored ho2 (n * 2) nilRow
      have st2 := World.ownsRow.stored st.1 (n * 2 + 1) (.bool true)
      have x3 := (x2.kept st.2 (x2.offRowN ho2 (by decide))).kept st2.2 ((x2.kept st.2 (x2.offRowN ho2 (by decide))).offRowN st.1 (by decide))
      have kb3 := (kb2.trans (KeepB.ofNodes ho2 st.2)).trans (KeepB.ofNodes st.1 st2.2)
      have hgl : lo ≤ gp := (World.ownsRow.lt ho2 gp rfl).1
      have bl3 := (bl2.setCell (p := ⟨gp, n * 2, none⟩) (by exact hgl) nilRow).setCell (p := ⟨gp, n * 2 + 1, none⟩) (by exact hgl) (.bool true)
      obtain ⟨w3, hw3⟩ : ∃ w3, w3 = (w2.setCell ⟨gp, n * 2, none⟩ nilRow).setCell ⟨gp, n * 2 + 1, none⟩ (.bool true) := ⟨_, rfl⟩
      have s3 : w3.heap.size = w2.heap.size := by rw [hw3]; simp
      have s2 : w2.heap.size = w1.heap.size := by rw [hw2]; simp
      rw [← hw3] at d3 x3 kb3 bl3
      -- gone
      obtain ⟨w4, hw4⟩ : ∃ w4, w4 = w3.alloc (.cells #[.int .i64 (n : Int)] 3) := ⟨_, rfl⟩
      have b4 : Below w3.heap.size w3 w4 := by rw [hw4]; exact below_box _ _
      have S4 : Hid (w4.heap.size = w2.heap.size + 1) := by show _ = _; rw [hw4, World.size_alloc, s3]
      have x4n : BoxAt w4 w3.heap.size #[.int .i64 (n : Int)] 3 := by rw [hw4]; exact BoxAt.new _ _ _
      rw [s3] at x4n
      have RX := hide (rd_one x4n)
      have W4 : Hid (((w2.setCell ⟨gp, n * 2, none⟩ nilRow).setCell ⟨gp, n * 2 + 1, none⟩ (.bool true)).alloc (.cells #[.int .i64 (n : Int)] 3) = w4) := by show _ = _; rw [hw4, hw3]
      have D4 := hide ((d3.below b4).wider (hi' := w4.heap.size) (Nat.le_refl _) (by have := b4.size; omega))
      have X4 := hide (x3.below b4)
      have KB4 := hide (kb3.trans (KeepB.ofBelow b4))
      have BL4 := hide (bl3.trans (b4.mono (Nat.le_trans hlo bl3.size)))
      have S3 := hide s3
      have S2 := hide s2
      have hgs : gs.length ≤ 16000000000 := by omega
      have HU := hide hu
      have HML := hide hml
      have HG : Hid (gs.length + (1 + 6 * lsT f) ≤ 16000000000) := by show _ ≤ _; omega
      have HB : Hid (B + (1 + 6 * lsT f) ≤ 40000000000) := by show _ ≤ _; omega
      have HKS := hide hks
      have hesl : es.length = qs.length := by have := hd.lenE; simpa using this
      have HESL := hide hesl
      rw [E.out]
      clear hd d1 d2 d3 x1 x2 x3 b1 o1 o2 p1 put1 hw1 hw2 hw3 hw4 kb2 kb3 bl2 bl3 hz hbd n1 hml hcl hok hT ih hz0 st st2 ho2 b4 x4n hu hks hgl D2 X2 KB2 BL2 hG hB s3 s2 hesl
      go_enter Try.func85, Try.ntmps85
      go_upto_region 1 with fail
      rw [W1.out]
      go_upto_region 2 with fail
      rw [W2.out]
      go_wp2_with (at_builtin; refine wpList_app_int rfl _ _ rfl lo (.slice ay gs.length ky) rfl gs (by rw [W4.out]; exact D4.out.rowE 2 (by simp)) (.slice (some ⟨w2.heap.size, 0, none⟩) 1 1) rfl [(n : Int)] (by rw [W4.out]; exact RX.out) (by simp only [List.length_singleton]; omega) (by rw [W4.out]; exact Nat.le_trans hlo BL4.out.size) ?_)
      rw [W4.out]
      intro v5 w5 o5 g5 at5
      obtain ⟨a5, k5, hv5⟩ := row_slice o5
      obtain ⟨L5, hL5⟩ : ∃ L, L = (gs ++ [(n : Int)]).length := ⟨_, rfl⟩
      rw [← hL5] at hv5
      subst hv5
      clear hL5
      have oy := D4.out.rowE 2 (by simp)
      have d5 := D4.out.appE 2 (by simp) o5 g5 (by rw [S4.out]; exact at5) (Nat.le_refl _)
      simp only [List.set_cons_zero, List.set_cons_succ, List.cons_append] at d5
      have D5 := hide d5
      have X5 := hide (X4.out.kept g5 (X4.out.offT oy (by decide)))
      have KB5 := hide (KB4.out.trans (KeepB.ofInts oy g5))
      have BL5 := hide (BL4.out.grown g5 (Nat.le_trans hlo BL4.out.size) (fun k hk => (World.ownsRow.lt oy k hk).1))
      clear d5 oy o5 g5 at5 D4 X4 KB4 BL4 RX
      go_wp2
      go_loopw [2, 41] (fun vy vi wr => ∃ (j : Nat) (ya : Option Addr) (yl yc : Nat) (us' : List Value), j ≤ ks.length ∧ vi = .int .i64 j ∧ vy = .slice ya yl yc ∧
        NdV wr lo wr.heap.size (.slice (some ⟨gp, 0, none⟩) m.length kp) (.slice ar rs.length kr :: .slice (some ⟨gc, 0, none⟩) cs.length kc :: .slice ya yl yc :: (es ++ [.slice ua ks.length uc])) us' (rs :: (lsFold (lsF f) (m.set n ([], true), cs.set n (z - 1), [(n : Int)]) (ks.take j)).2.1 :: (gs ++ (lsFold (lsF f) (m.set n ([], true), cs.set n (z - 1), [(n : Int)]) (ks.take j)).2.2) :: (qs ++ [ks])) (lsFold (lsF f) (m.set n ([], true), cs.set n (z - 1), [(n : Int)]) (ks.take j)).1 ∧
        BoxAt wr w.heap.size #[.slice (some ⟨gp, 0, none⟩) m.length kp, .slice ar rs.length kr, .slice (some ⟨gc, 0, none⟩) cs.length kc] 27 ∧ Below lo w wr ∧ KeepB w wr) (fun _ vi _ => ks.length - (intOf vi).toNat)
      case atStart => exact ⟨0, a5, L5, k5, _, Nat.zero_le _, rfl, rfl, by simpa [lsFold] using D5.out, X5.out, BL5.out, KB5.out⟩
      case round =>
        obtain ⟨j, ya, yl, yc, us', hj, rfl, rfl, hd, hx, hbl, hkb⟩ := hrel
        have hst := lsFold_ok N (lsT f) (lsF f) (fun m cs n B h => lsF_ok N f m cs n B h) (ks.take j) _ _ _ S0.out
        have htl : (ks.take j).length = j := by simp; omega
        rw [htl] at hst
        by_cases hlj : j < ks.length
        · obtain ⟨s, hs⟩ : ∃ s, s = lsFold (lsF f) (m.set n ([], true), cs.set n (z - 1), [(n : Int)]) (ks.take j) := ⟨_, rfl⟩
          have hsucc := lsFold_succ (lsF f) (m.set n ([], true), cs.set n (z - 1), [(n : Int)]) ks j hlj
          rw [← hs] at hd hst hsucc
          have HX := HKX.out j hlj
          obtain ⟨x, hxx⟩ : ∃ x : Nat, ks.getD j 0 = (x : Int) := ⟨(ks.getD j 0).toNat, by omega⟩
          rw [hxx, Int.toNat_natCast] at hsucc
          have hru : Rd wr (.slice ua ks.length uc) ks := (NdV.lastE (es := .slice ar rs.length kr :: .slice (some ⟨gc, 0, none⟩) cs.length kc :: .slice ya yl yc :: es) (qs := rs :: s.2.1 :: (gs ++ s.2.2) :: qs) hd (by simp [HESL.out])).rd
          obtain ⟨hb, hof, rfl, hc1⟩ := hru.cellAt j hlj
          rw [hxx] at hc1 HX
          obtain ⟨cx0, cx1, cx2⟩ := hx.c3
          have hlj' : (j : Int) < (ks.length : Int) := by omega
          have hj6 : j * lsT f + lsT f ≤ 6 * lsT f := by
            have : (j + 1) * lsT f ≤ 6 * lsT f := Nat.mul_le_mul_right _ (by omega)
            rw [Nat.add_mul, Nat.one_mul] at this
            exact this
          have hgl := hst.gl
          have hg1 := HG.out
          have hb1 := HB.out
          have CC : Hid (Calls Try.prog 85 #[.agg #[.slice (some ⟨gp, 0, none⟩) m.length kp, .slice ar rs.length kr, .slice (some ⟨gc, 0, none⟩) cs.length kc], .int .i64 (x : Int), .slice ya yl yc] wr _) :=
            IH.out x (B + 1 + j * lsT f) _ _ _ _ (es ++ [.slice (some ⟨hb, hof, none⟩) ks.length uc]) us' (qs ++ [ks]) rs s.2.1 (gs ++ s.2.2) s.1 lo wr (by omega) (by omega) ⟨hst.lm, hst.lc, hst.nd, hst.bd, by simp⟩ (by omega) (by simp only [List.length_append]; omega) hd (Nat.le_trans hlo hbl.size)
          have BL := hide hbl
          have KB := hide hkb
          have X := hide hx
          have SU := hide hsucc
          clear hd hx hbl hkb hst hru hs hsucc hgl hg1 hb1 hj6 htl D5 X5 KB5 BL5 HX hxx
          go_wp2_with fail
          refine CC.out.mono ?_
          rintro e w6 ⟨y6, us6, rfl, d6, bl6, kb6⟩
          obtain ⟨a6, k6, hy6⟩ := row_slice (d6.rowE 2 (by simp))
          simp only [List.getD_cons_zero, List.getD_cons_succ] at hy6
          subst hy6
          have X6 := hide (kb6 _ _ _ (by decide) (by decide) (by decide) X.out)
          have BL6 := hide (BL.out.trans bl6)
          have KB6 := hide (KB.out.trans kb6)
          have D6 := hide d6
          clear d6 bl6 kb6 CC
          go_wp2
          go_roundw
          case rel => exact ⟨j + 1, _, _, _, us6, by omega, by go_num, rfl, by rw [SU.out]; simpa [List.append_assoc] using D6.out, X6.out, BL6.out, KB6.out⟩
          case measure => simp [intOf]; omega
        · obtain rfl : j = ks.length := by omega
          rw [List.take_length] at hd
          have D6 := hide (NdV.dropE (es := .slice ar rs.length kr :: .slice (some ⟨gc, 0, none⟩) cs.length kc :: .slice ya yl yc :: es) (qs := rs :: _ :: _ :: qs) hd (by simp [HESL.out]))
          have BL := hide hbl
          have KB := hide hkb
          clear hd hx hbl hkb hst htl D5 X5 KB5 BL5
          go_wp2
          go_ret
          exact ⟨_, _, rfl, D6.out, BL.out, KB.out⟩
end Go.Proofs.Ytakhggnbhjoojaa

/-
  What goes by counts: the program's loseName, with its closure that calls itself, call by call. Each contract says what it asks.
-/
import Derived.Test.YtakhggnbhjoojaaGnn
import Derived.Laws.EntriesVeiled
namespace Go.Proofs.Ytakhggnbhjoojaa
open Go.RowKit
set_option linter.unusedVariables false

theorem NdV.keptG {w : World} {lo hi : Nat} {v : Value} {es us : List Value} {qs : List (List Int)} {xs : List Nd} {g : Nat} {cs : Array Value} {T : TypeId} (h : NdV w lo hi v es us qs xs) (hx : BoxAt w g cs T) (h1 : 84 ≠ T) (h2 : 3 ≠ T) (x : Value) : NdV (w.setCell ⟨g, 0, none⟩ x) lo hi v es us qs xs := h.atBox hx h1 h2 0 x
theorem BoxAt.neT {w : World} {g g' : Nat} {cs cs' : Array Value} {T T' : TypeId} (h : BoxAt w g cs T) (h' : BoxAt w g' cs' T') (hne : T ≠ T') : g ≠ g' := by
  intro e
  subst e
  unfold BoxAt at h h'
  rw [h] at h'
  simp only [Option.some.injEq, Obj.cells.injEq] at h'
  exact hne h'.2.1
/-- A row more behind the rows besides. -/
theorem NdV.addLast {w : World} {lo hi hi2 : Nat} {v u : Value} {es us : List Value} {qs : List (List Int)} {xs : List Nd} {r : List Int} (h : NdV w lo hi v es us qs xs) (ho : Own w lo u r) (hh : hi ≤ hi2) (hu : ∀ b, u.ownBlock = some b → b < hi2 ∧ hi ≤ b) : NdV w lo hi2 v (es ++ [u]) us (qs ++ [r]) xs := by
  have h1 := h.addE ho hh hu
  refine ⟨h1.head, h1.top, by simp [h.lenE], h1.rws.pick (by simp [h.lenE, h.len]) (fun j => if j < qs.length then j + 1 else if j = qs.length then 0 else j) ?_ ?_⟩
  · intro j hj
    simp only [List.length_append, List.length_singleton, List.length_map] at hj
    right
    by_cases c1 : j < qs.length
    · rw [if_pos c1]
      refine ⟨by simp; omega, ?_, ?_⟩
      · rw [List.append_assoc, getD_app_left es _ j _ (by rw [h.lenE]; exact c1)]
        show _ = (es ++ us).getD j nilRow
        rw [getD_app_left es us j _ (by rw [h.lenE]; exact c1)]
      · rw [List.append_assoc, getD_app_left qs _ j _ c1]
        show _ = (qs ++ xs.map Prod.fst).getD j []
        rw [getD_app_left qs _ j _ c1]
    · by_cases c2 : j = qs.length
      · subst c2
        rw [if_neg (by omega), if_pos rfl]
        have a1 := getD_app_right es ([u] ++ us) qs.length 0 nilRow h.lenE
        have a2 := getD_app_right qs ([r] ++ xs.map Prod.fst) qs.length 0 [] rfl
        rw [Nat.add_zero] at a1 a2
        refine ⟨by simp, ?_, ?_⟩
        · rw [List.append_assoc, a1]; rfl
        · rw [List.append_assoc, a2]; rfl
      · obtain ⟨i, rfl⟩ : ∃ i, j = qs.length + (i + 1) := ⟨j - qs.length - 1, by omega⟩
        rw [if_neg c1, if_neg c2]
        refine ⟨by simp; omega, ?_, ?_⟩
        · rw [List.append_assoc, getD_app_right es _ _ (i + 1) _ h.lenE]
          show us.getD i nilRow = (es ++ us).getD (qs.length + i) nilRow
          rw [getD_app_right es us _ i _ h.lenE]
        · rw [List.append_assoc, getD_app_right qs _ _ (i + 1) _ rfl]
          show (xs.map Prod.fst).getD i [] = (qs ++ xs.map Prod.fst).getD (qs.length + i) []
          rw [getD_app_right qs _ _ i _ rfl]
  · intro j k hj hk e
    (repeat' split at e) <;> omega
abbrev loseF (bg bo bl : Nat) : Value := .func (.func 122) #[] #[.pointer (some ⟨bg, 0, none⟩), .pointer (some ⟨bo, 0, none⟩), .pointer (some ⟨bl, 0, none⟩)]

set_option maxRecDepth 100000 in
set_option maxHeartbeats 3200000 in
theorem lose_calls (N : Nat) (hN : N ≤ 14) : ∀ (f n B : Nat) (p r c y : Value) (es us : List Value) (qs : List (List Int)) (rs cs gs : List Int) (m : List Nd) (lo bg bo bl : Nat) (w : World), n < f → n < N → LsOk N B 0 (m, cs, []) → B + lsT f ≤ 40000000000 → gs.length + lsT f ≤ 16000000000 →
    NdV w lo w.heap.size p (r :: c :: y :: es) us (rs :: cs :: gs :: qs) m → lo ≤ w.heap.size → BoxAt w bg #[p, r, c] 27 → BoxAt w bo #[y] 23 → BoxAt w bl #[loseF bg bo bl] 132 → lo ≤ bo →
    Calls Try.prog 122 #[.int .i64 (n : Int), .pointer (some ⟨bg, 0, none⟩), .pointer (some ⟨bo, 0, none⟩), .pointer (some ⟨bl, 0, none⟩)] w fun e w' => ∃ y' us', e = .returned (.tuple #[]) ∧ NdV w' lo w'.heap.size p (r :: c :: y' :: es) us' (rs :: (lsF f m cs n).2.1 :: (gs ++ (lsF f m cs n).2.2) :: qs) (lsF f m cs n).1 ∧ BoxAt w' bo #[y'] 23 ∧ Below lo w w' ∧ KeepB w w' := by
  intro f
  induction f with
  | zero => intro n B p r c y es us qs rs cs gs m lo bg bo bl w hn; omega
  | succ f ih =>
    intro n B p r c y es us qs rs cs gs m lo bg bo bl w hnf hnN hok hB hG hd hlo hxg hxo hxl hlbo
    have IH := hide ih
    have hml : m.length = N := hok.lm
    have hcl : cs.length = N := hok.lc
    have hbd := hok.bd n (by show n < cs.length; omega)
    simp only at hbd
    have hT : lsT (f + 1) = 1 + 6 * lsT f := rfl
    obtain ⟨ar, kr, er⟩ := row_slice (hd.rowE 0 (by simp))
    obtain ⟨ay, ky, ey⟩ := row_slice (hd.rowE 2 (by simp))
    obtain ⟨gc, kc, ec, n1, nf1, put1⟩ := own_put (hd.rowE 1 (by simp)) (n := n) (by show n < cs.length; omega)
    obtain ⟨gp, kp, ep, _⟩ := hd.form (by omega)
    simp only [List.getD_cons_zero, List.getD_cons_succ] at er ey ec
    subst er ey ec ep
    have o1 := hd.rowE 1 (by simp)
    have n1' : w.cell? ⟨gc, n, none⟩ = some (.int .i64 (cs.getD n 0)) := n1
    obtain ⟨z, hz⟩ : ∃ z, z = cs.getD n 0 := ⟨_, rfl⟩
    rw [← hz] at n1' hbd
    have p1 := put1 (z - 1)
    have d2 := hd.writeE 1 (by simp) p1.1 p1.2
    simp only [List.set_cons_zero, List.set_cons_succ, List.getD_cons_zero, List.getD_cons_succ] at d2
    have xg2 := hxg.kept p1.2 (hxg.offT o1 (by decide))
    have xo2 := hxo.kept p1.2 (hxo.offT o1 (by decide))
    have xl2 := hxl.kept p1.2 (hxl.offT o1 (by decide))
    have kb2 : KeepB w (w.setCell ⟨gc, n, none⟩ (.int .i64 (z - 1))) := KeepB.ofInts o1 p1.2
    have bl2 : Below lo w (w.setCell ⟨gc, n, none⟩ (.int .i64 (z - 1))) := (Below.refl lo w).grown p1.2 hlo (fun k hk => (World.ownsRow.lt o1 k hk).1)
    have o2 := d2.rowE 1 (by simp)
    have n2 : (w.setCell ⟨gc, n, none⟩ (.int .i64 (z - 1))).cell? ⟨gc, n, none⟩ = some (.int .i64 (z - 1)) := by
      obtain ⟨g2, k2, he, n2, _⟩ := own_put o2 (n := n) (by simp; omega)
      simp only [List.getD_cons_zero, List.getD_cons_succ, Value.slice.injEq, Option.some.injEq, Addr.mk.injEq, and_true, true_and, List.length_set] at he
      obtain ⟨rfl, rfl⟩ := he
      simp only [List.getD_cons_zero, List.getD_cons_succ] at n2
      rw [n2, getD_set _ _ _ _ _ (by omega), if_pos rfl]
    obtain ⟨cx0, cx1, cx2⟩ := hxg.c3
    obtain ⟨dx0, dx1, dx2⟩ := xg2.c3
    have hnc : (n : Int) < (cs.length : Int) := by omega
    have hnm : (n : Int) < (m.length : Int) := by omega
    have hz0 := hbd.1
    have hz1 := hbd.2
    have hzB : -(40000000000 : Int) ≤ z := by omega
    by_cases hpos : 0 < z - 1
    · have E : Hid (lsF (f + 1) m cs n = (m, cs.set n (z - 1), [])) := by
        show _ = _
        unfold lsF
        rw [← hz, if_pos hpos]
      have D2 := hide d2
      have KB2 := hide kb2
      have BL2 := hide bl2
      have XO2 := hide xo2
      rw [E.out]
      clear hd d2 xg2 xo2 xl2 o1 o2 p1 put1 kb2 bl2 hz hbd n1 hml hcl hok hT ih hz0 hxg hxo hxl hB hG
      go_enter Try.func122, Try.ntmps122
      go_wp2
      refine bodyPost_ret (results_none rfl _ _ _) rfl ⟨_, _, rfl, by rw [List.append_nil]; exact D2.out.wider (Nat.le_refl _) (by simp), XO2.out, BL2.out, KB2.out⟩
    · obtain ⟨ks, hks⟩ : ∃ ks, ks = (m.getD n nd0).1 := ⟨_, rfl⟩
      have E : Hid (lsF (f + 1) m cs n = lsFold (lsF f) (m.set n ([], true), cs.set n (z - 1), [(n : Int)]) ks) := by
        show _ = _
        conv => lhs; unfold lsF
        rw [← hz, if_neg hpos, hks]
      have hk6 : ks.length ≤ 6 := by rw [hks]; exact (hok.nd n (by show n < m.length; omega)).1
      have HKX : Hid (∀ i, i < ks.length → 0 ≤ ks.getD i 0 ∧ ks.getD i 0 < (n : Int)) := by rw [hks]; exact (hok.nd n (by show n < m.length; omega)).2
      have S0 : Hid (LsOk N (B + 1) 1 (m.set n ([], true), cs.set n (z - 1), [(n : Int)])) := by
        refine ⟨by simpa using hml, by simpa using hcl, hok.nd.set n, ?_, by simp⟩
        have := hok.bd.less n
        simp only [← hz] at this
        exact this
      obtain ⟨w2, hw2⟩ : ∃ w2, w2 = w.setCell ⟨gc, n, none⟩ (.int .i64 (z - 1)) := ⟨_, rfl⟩
      have W2 : Hid (w.setCell ⟨gc, n, none⟩ (.int .i64 (z - 1)) = w2) := hw2.symm
      have s2 : w2.heap.size = w.heap.size := by rw [hw2]; simp
      rw [← hw2] at d2 xg2 xo2 xl2 kb2 bl2 n2 dx0 dx1 dx2
      -- gone
      obtain ⟨w4, hw4⟩ : ∃ w4, w4 = w2.alloc (.cells #[.int .i64 (n : Int)] 3) := ⟨_, rfl⟩
      have b4 : Below w2.heap.size w2 w4 := by rw [hw4]; exact below_box _ _
      have x4n : BoxAt w4 w2.heap.size #[.int .i64 (n : Int)] 3 := by rw [hw4]; exact BoxAt.new _ _ _
      have S4 : Hid (w4.heap.size = w2.heap.size + 1) := by show _ = _; rw [hw4, World.size_alloc]
      have RX := hide (rd_one x4n)
      have W4 : Hid (w2.alloc (.cells #[.int .i64 (n : Int)] 3) = w4) := hw4.symm
      have D4 := hide ((d2.below b4).wider (hi' := w4.heap.size) (Nat.le_refl _) (by have := b4.size; omega))
      have XG4 := hide (xg2.below b4)
      have XO4 := hide (xo2.below b4)
      have XL4 := hide (xl2.below b4)
      have KB4 := hide (kb2.trans (KeepB.ofBelow b4))
      have BL4 := hide (bl2.trans (b4.mono (Nat.le_trans hlo bl2.size)))
      have cy := xo2.cell 0
      have cy' : w2.cell? ⟨bo, 0, none⟩ = some (.slice ay gs.length ky) := cy
      have hgs : gs.length ≤ 16000000000 := by omega
      have HG : Hid (gs.length + (1 + 6 * lsT f) ≤ 16000000000) := by show _ ≤ _; omega
      have HB : Hid (B + (1 + 6 * lsT f) ≤ 40000000000) := by show _ ≤ _; omega
      have HKS := hide hks
      have HML := hide hml
      have hesl : es.length = qs.length := by have := hd.lenE; simpa using this
      have HESL := hide hesl
      rw [E.out]
      clear hd d2 xg2 xo2 xl2 o1 o2 p1 put1 hw2 hw4 kb2 bl2 hz hbd n1 hml hcl hok hT ih hz0 b4 x4n hks hG hB s2 hesl hxg hxo hxl cy
      go_enter Try.func122, Try.ntmps122
      go_upto_region 1 with fail
      rw [W2.out]
      go_wp2_with (at_builtin; refine wpList_app_int rfl _ _ rfl lo (.slice ay gs.length ky) rfl gs (by rw [W4.out]; exact D4.out.rowE 2 (by simp)) (.slice (some ⟨w2.heap.size, 0, none⟩) 1 1) rfl [(n : Int)] (by rw [W4.out]; exact RX.out) (by simp only [List.length_singleton]; omega) (by rw [W4.out]; exact Nat.le_trans hlo BL4.out.size) ?_)
      rw [W4.out]
      intro v5 w5 o5 g5 at5
      obtain ⟨a5, k5, hv5⟩ := row_slice o5
      obtain ⟨L5, hL5⟩ : ∃ L, L = (gs ++ [(n : Int)]).length := ⟨_, rfl⟩
      rw [← hL5] at hv5
      subst hv5
      clear hL5
      have oy := D4.out.rowE 2 (by simp)
      have d5 := D4.out.appE 2 (by simp) o5 g5 (by rw [S4.out]; exact at5) (Nat.le_refl _)
      simp only [List.set_cons_zero, List.set_cons_succ] at d5
      have xg5 := XG4.out.kept g5 (XG4.out.offT oy (by decide))
      have xo5 := XO4.out.kept g5 (XO4.out.offT oy (by decide))
      have xl5 := XL4.out.kept g5 (XL4.out.offT oy (by decide))
      have kb5 := KB4.out.trans (KeepB.ofInts oy g5)
      have bl5 := BL4.out.grown g5 (Nat.le_trans hlo BL4.out.size) (fun k hk => (World.ownsRow.lt oy k hk).1)
      have fo5 := xo5.frozen 0
      have co5 := xo5.cell 0
      have co5' : w5.cell? ⟨bo, 0, none⟩ = some (.slice ay gs.length ky) := co5
      -- stored
      have d6 := d5.keptG xo5 (by decide) (by decide) (.slice a5 L5 k5)
      have xg6 := xg5.other (g' := bo) (j := 0) (x := .slice a5 L5 k5) (xg5.neT xo5 (by decide))
      have xl6 := xl5.other (g' := bo) (j := 0) (x := .slice a5 L5 k5) (xl5.neT xo5 (by decide))
      have xo6 : BoxAt (w5.setCell ⟨bo, 0, none⟩ (.slice a5 L5 k5)) bo #[.slice a5 L5 k5] 23 := by simpa using xo5.set 0 (.slice a5 L5 k5)
      have kb6 : KeepB w (w5.setCell ⟨bo, 0, none⟩ (.slice a5 L5 k5)) := kb5.trans (fun g cs T h1 h2 h3 hx => hx.other (hx.neT xo5 h3))
      have bl6 := bl5.setCell (p := ⟨bo, 0, none⟩) (by exact hlbo) (.slice a5 L5 k5)
      obtain ⟨w6, hw6⟩ : ∃ w6, w6 = w5.setCell ⟨bo, 0, none⟩ (.slice a5 L5 k5) := ⟨_, rfl⟩
      have W6 : Hid (w5.setCell ⟨bo, 0, none⟩ (.slice a5 L5 k5) = w6) := hw6.symm
      have s6 : w6.heap.size = w5.heap.size := by rw [hw6]; simp
      rw [← hw6] at d6 xg6 xl6 xo6 kb6 bl6
      -- what the node holds comes away
      have hnm6 : n < m.length := by have := HML.out; omega
      obtain ⟨e1, e2, e3, e4⟩ := d6.cells n hnm6
      obtain ⟨ua, uc, hu⟩ := row_slice (d6.row n hnm6)
      rw [← HKS.out] at hu
      rw [hu] at e1
      have d7 := d6.detach n hnm6
      rw [hu, ← HKS.out] at d7
      have ho2 := d6.head
      have st := World.ownsRow.stored ho2 (n * 2) nilRow
      have st2 := World.ownsRow.stored st.1 (n * 2 + 1) (.bool true)
      have kp : ∀ {g : Nat} {cs : Array Value} {T : TypeId}, BoxAt w6 g cs T → 84 ≠ T → BoxAt ((w6.setCell ⟨gp, n * 2, none⟩ nilRow).setCell ⟨gp, n * 2 + 1, none⟩ (.bool true)) g cs T := fun hx hne => (hx.kept st.2 (hx.offRowN ho2 hne)).kept st2.2 ((hx.kept st.2 (hx.offRowN ho2 hne)).offRowN st.1 hne)
      have hgl : lo ≤ gp := (World.ownsRow.lt ho2 gp rfl).1
      obtain ⟨gx0, gx1, gx2⟩ := xg6.c3
      have XG7 := hide (kp xg6 (by decide))
      have XO7 := hide (kp xo6 (by decide))
      have XL7 := hide (kp xl6 (by decide))
      have KB7 := hide ((kb6.trans (KeepB.ofNodes ho2 st.2)).trans (KeepB.ofNodes st.1 st2.2))
      have BL7 := hide ((bl6.setCell (p := ⟨gp, n * 2, none⟩) (by exact hgl) nilRow).setCell (p := ⟨gp, n * 2 + 1, none⟩) (by exact hgl) (.bool true))
      have D7 := hide (d7.wider (hi' := ((w6.setCell ⟨gp, n * 2, none⟩ nilRow).setCell ⟨gp, n * 2 + 1, none⟩ (.bool true)).heap.size) (Nat.le_refl _) (by simp; omega))
      clear d5 d6 d7 oy o5 g5 at5 D4 XG4 XO4 XL4 KB4 BL4 RX xg5 xo5 xl5 kb5 bl5 xg6 xl6 xo6 kb6 bl6 hw6 s6 co5 ho2 st st2 kp hgl hu cy' hnm6
      go_upto_region 3 with fail
      rw [W6.out]
      clear co5' fo5
      go_wp2
      go_loopw [38] (fun vi wr => ∃ (j : Nat) (ya : Option Addr) (yl yc : Nat) (us' : List Value), j ≤ ks.length ∧ vi = .int .i64 j ∧
        NdV wr lo wr.heap.size (.slice (some ⟨gp, 0, none⟩) m.length kp) (.slice ar rs.length kr :: .slice (some ⟨gc, 0, none⟩) cs.length kc :: .slice ya yl yc :: (es ++ [.slice ua ks.length uc])) us' (rs :: (lsFold (lsF f) (m.set n ([], true), cs.set n (z - 1), [(n : Int)]) (ks.take j)).2.1 :: (gs ++ (lsFold (lsF f) (m.set n ([], true), cs.set n (z - 1), [(n : Int)]) (ks.take j)).2.2) :: (qs ++ [ks])) (lsFold (lsF f) (m.set n ([], true), cs.set n (z - 1), [(n : Int)]) (ks.take j)).1 ∧
        BoxAt wr bg #[.slice (some ⟨gp, 0, none⟩) m.length kp, .slice ar rs.length kr, .slice (some ⟨gc, 0, none⟩) cs.length kc] 27 ∧ BoxAt wr bo #[.slice ya yl yc] 23 ∧ BoxAt wr bl #[loseF bg bo bl] 132 ∧ Below lo w wr ∧ KeepB w wr) (fun vi _ => ks.length - (intOf vi).toNat)
      case atStart => exact ⟨0, a5, L5, k5, _, Nat.zero_le _, rfl, by simpa [lsFold] using D7.out, XG7.out, XO7.out, XL7.out, BL7.out, KB7.out⟩
      case round =>
        obtain ⟨j, ya, yl, yc, us', hj, rfl, hd, hxg, hxo, hxl, hbl, hkb⟩ := hrel
        have hst := lsFold_ok N (lsT f) (lsF f) (fun m cs n B h => lsF_ok N f m cs n B h) (ks.take j) _ _ _ S0.out
        have htl : (ks.take j).length = j := by simp; omega
        rw [htl] at hst
        by_cases hlj : j < ks.length
        · obtain ⟨s, hs⟩ : ∃ s, s = lsFold (lsF f) (m.set n ([], true), cs.set n (z - 1), [(n : Int)]) (ks.take j) := ⟨_, rfl⟩
          have hsucc := lsFold_succ (lsF f) (m.set n ([], true), cs.set n (z - 1), [(n : Int)]) ks j hlj
          rw [← hs] at hd hst hsucc
          have HX := HKX.out j hlj
          obtain ⟨x, hxx⟩ : ∃ x : Nat, ks.getD j 0 = (x : Int) := ⟨(ks.getD j 0).toNat, by omega⟩
          rw [hxx, Int.toNat_natCast] at hsucc
          have hru : Rd wr (.slice ua ks.length uc) ks := (NdV.lastE (es := .slice ar rs.length kr :: .slice (some ⟨gc, 0, none⟩) cs.length kc :: .slice ya yl yc :: es) (qs := rs :: s.2.1 :: (gs ++ s.2.2) :: qs) hd (by simp [HESL.out])).rd
          obtain ⟨hb, hof, rfl, hc1⟩ := hru.cellAt j hlj
          rw [hxx] at hc1 HX
          have cl0 : wr.cell? ⟨bl, 0, none⟩ = some (loseF bg bo bl) := hxl.cell 0
          have hlj' : (j : Int) < (ks.length : Int) := by omega
          have hj6 : j * lsT f + lsT f ≤ 6 * lsT f := by
            have : (j + 1) * lsT f ≤ 6 * lsT f := Nat.mul_le_mul_right _ (by omega)
            rw [Nat.add_mul, Nat.one_mul] at this
            exact this
          have hgl := hst.gl
          have hg1 := HG.out
          have hb1 := HB.out
          have CC : Hid (Calls Try.prog 122 #[.int .i64 (x : Int), .pointer (some ⟨bg, 0, none⟩), .pointer (some ⟨bo, 0, none⟩), .pointer (some ⟨bl, 0, none⟩)] wr _) :=
            IH.out x (B + 1 + j * lsT f) _ _ _ _ (es ++ [.slice (some ⟨hb, hof, none⟩) ks.length uc]) us' (qs ++ [ks]) rs s.2.1 (gs ++ s.2.2) s.1 lo bg bo bl wr (by omega) (by omega) ⟨hst.lm, hst.lc, hst.nd, hst.bd, by simp⟩ (by omega) (by simp only [List.length_append]; omega) hd (Nat.le_trans hlo hbl.size) hxg hxo hxl hlbo
          have BL := hide hbl
          have KB := hide hkb
          have XG := hide hxg
          have XL := hide hxl
          have SU := hide hsucc
          clear hd hxg hxo hxl hbl hkb hst hru hs hsucc hgl hg1 hb1 hj6 htl D7 XG7 XO7 XL7 KB7 BL7 HX hxx
          go_wp2_with fail
          refine CC.out.mono ?_
          rintro e w8 ⟨y8, us8, rfl, d8, xo8, bl8, kb8⟩
          obtain ⟨a8, k8, hy8⟩ := row_slice (d8.rowE 2 (by simp))
          simp only [List.getD_cons_zero, List.getD_cons_succ] at hy8
          subst hy8
          have XG8 := hide (kb8 _ _ _ (by decide) (by decide) (by decide) XG.out)
          have XL8 := hide (kb8 _ _ _ (by decide) (by decide) (by decide) XL.out)
          have XO8 := hide xo8
          have BL8 := hide (BL.out.trans bl8)
          have KB8 := hide (KB.out.trans kb8)
          have D8 := hide d8
          clear d8 xo8 bl8 kb8 CC
          go_wp2
          go_roundw
          case rel => exact ⟨j + 1, _, _, _, us8, by omega, by go_num, by rw [SU.out]; simpa [List.append_assoc] using D8.out, XG8.out, by simpa [List.append_assoc] using XO8.out, XL8.out, BL8.out, KB8.out⟩
          case measure => simp [intOf]; omega
        · obtain rfl : j = ks.length := by omega
          rw [List.take_length] at hd
          have D8 := hide (NdV.dropE (es := .slice ar rs.length kr :: .slice (some ⟨gc, 0, none⟩) cs.length kc :: .slice ya yl yc :: es) (qs := rs :: _ :: _ :: qs) hd (by simp [HESL.out]))
          have BL := hide hbl
          have KB := hide hkb
          have XO := hide hxo
          clear hd hxg hxo hxl hbl hkb hst htl D7 XG7 XO7 XL7 KB7 BL7
          go_wp2
          exact bodyPost_end (results_none rfl _ _ _) rfl ⟨_, _, rfl, D8.out, XO.out, BL.out, KB.out⟩

set_option maxRecDepth 100000 in
set_option maxHeartbeats 1600000 in
theorem loseName_calls (N : Nat) (hN : N ≤ 14) (n B : Nat) (p r c : Value) (us : List Value) (rs cs : List Int) (m : List Nd) (lo : Nat) (w : World) (hn : n < N) (hok : LsOk N B 0 (m, cs, [])) (hB : B ≤ 1000) (h : NdV w lo w.heap.size p [r, c] us [rs, cs] m) (hlo : lo ≤ w.heap.size) :
    Calls Try.prog 88 #[.agg #[p, r, c], .int .i64 (n : Int)] w fun e w' => ∃ y us', e = .returned y ∧ NdV w' lo w'.heap.size p [r, c, y] us' [rs, (lsF 14 m cs n).2.1, (lsF 14 m cs n).2.2] (lsF 14 m cs n).1 ∧ Below lo w w' ∧ KeepB w w' := by
  have hd := h
  obtain ⟨ap, kp, ep⟩ := h.slice
  obtain ⟨ar, kr, er⟩ := row_slice (h.rowE 0 (by simp))
  obtain ⟨ac, kc, ec⟩ := row_slice (h.rowE 1 (by simp))
  simp only [List.getD_cons_zero, List.getD_cons_succ] at er ec
  subst ep er ec
  obtain ⟨w1, hw1⟩ : ∃ w1, w1 = w.alloc (.cells #[.slice ap m.length kp, .slice ar rs.length kr, .slice ac cs.length kc] 27) := ⟨_, rfl⟩
  obtain ⟨w2, hw2⟩ : ∃ w2, w2 = w1.alloc (.cells #[] 3) := ⟨_, rfl⟩
  obtain ⟨w3, hw3⟩ : ∃ w3, w3 = w2.alloc (.cells #[.slice (some ⟨w.heap.size + 1, 0, none⟩) 0 0] 23) := ⟨_, rfl⟩
  obtain ⟨w4, hw4⟩ : ∃ w4, w4 = w3.alloc (.cells #[.nilFunc] 132) := ⟨_, rfl⟩
  have s1 : w1.heap.size = w.heap.size + 1 := by rw [hw1]; simp
  have s2 : w2.heap.size = w.heap.size + 1 + 1 := by rw [hw2, World.size_alloc, s1]
  have s3 : w3.heap.size = w.heap.size + 1 + 1 + 1 := by rw [hw3, World.size_alloc, s2]
  have b1 : Below w.heap.size w w1 := by rw [hw1]; exact below_box _ _
  have b2 : Below w1.heap.size w1 w2 := by rw [hw2]; exact below_box _ _
  have b3 : Below w2.heap.size w2 w3 := by rw [hw3]; exact below_box _ _
  have b4 : Below w3.heap.size w3 w4 := by rw [hw4]; exact below_box _ _
  have xg : BoxAt w4 w.heap.size #[.slice ap m.length kp, .slice ar rs.length kr, .slice ac cs.length kc] 27 := by
    have : BoxAt w1 w.heap.size #[.slice ap m.length kp, .slice ar rs.length kr, .slice ac cs.length kc] 27 := by rw [hw1]; exact BoxAt.new _ _ _
    exact ((this.below b2).below b3).below b4
  have oy : Own w2 lo (.slice (some ⟨w.heap.size + 1, 0, none⟩) 0 0) [] := by
    have := World.ownsRow_lit (base := lo) (e := 3) (size := 1) w1 #[] 0 (by omega) (Nat.zero_le _) rfl
    rw [s1] at this
    rw [hw2]
    exact this
  have xo : BoxAt w4 (w.heap.size + 1 + 1) #[.slice (some ⟨w.heap.size + 1, 0, none⟩) 0 0] 23 := by
    have : BoxAt w3 w2.heap.size #[.slice (some ⟨w.heap.size + 1, 0, none⟩) 0 0] 23 := by rw [hw3]; exact BoxAt.new _ _ _
    rw [s2] at this
    exact this.below b4
  have xl : BoxAt w4 (w.heap.size + 1 + 1 + 1) #[.nilFunc] 132 := by
    have : BoxAt w4 w3.heap.size #[.nilFunc] 132 := by rw [hw4]; exact BoxAt.new _ _ _
    rw [s3] at this
    exact this
  have d2 := ((hd.below b1).below b2).addLast (u := .slice (some ⟨w.heap.size + 1, 0, none⟩) 0 0) (r := []) (hi2 := w2.heap.size) oy (by omega) (fun b hb => by
    have e8 : w.heap.size + 1 = b := by simpa [Value.ownBlock] using hb
    omega)
  have d4 := (d2.below b3).below b4
  have d5 := d4.keptG xl (by decide) (by decide) (loseF w.heap.size (w.heap.size + 1 + 1) (w.heap.size + 1 + 1 + 1))
  have xl5 : BoxAt (w4.setCell ⟨w.heap.size + 1 + 1 + 1, 0, none⟩ (loseF w.heap.size (w.heap.size + 1 + 1) (w.heap.size + 1 + 1 + 1))) (w.heap.size + 1 + 1 + 1) #[loseF w.heap.size (w.heap.size + 1 + 1) (w.heap.size + 1 + 1 + 1)] 132 := by simpa using xl.set 0 (loseF w.heap.size (w.heap.size + 1 + 1) (w.heap.size + 1 + 1 + 1))
  have xg5 := xg.other (g' := w.heap.size + 1 + 1 + 1) (j := 0) (x := loseF w.heap.size (w.heap.size + 1 + 1) (w.heap.size + 1 + 1 + 1)) (by omega)
  have xo5 := xo.other (g' := w.heap.size + 1 + 1 + 1) (j := 0) (x := loseF w.heap.size (w.heap.size + 1 + 1) (w.heap.size + 1 + 1 + 1)) (by omega)
  have bw4 : Below w.heap.size w w4 := ((b1.trans (b2.mono (by omega))).trans (b3.mono (by omega))).trans (b4.mono (by omega))
  have bw5 : Below w.heap.size w (w4.setCell ⟨w.heap.size + 1 + 1 + 1, 0, none⟩ (loseF w.heap.size (w.heap.size + 1 + 1) (w.heap.size + 1 + 1 + 1))) := bw4.setCell (by show w.heap.size ≤ w.heap.size + 1 + 1 + 1; omega) _
  have cl := xl.cell 0
  have cl' : w4.cell? ⟨w.heap.size + 1 + 1 + 1, 0, none⟩ = some .nilFunc := cl
  have fl := xl.frozen 0
  have cm : (w4.setCell ⟨w.heap.size + 1 + 1 + 1, 0, none⟩ (loseF w.heap.size (w.heap.size + 1 + 1) (w.heap.size + 1 + 1 + 1))).cell? ⟨w.heap.size + 1 + 1 + 1, 0, none⟩ = some (loseF w.heap.size (w.heap.size + 1 + 1) (w.heap.size + 1 + 1 + 1)) := xl5.cell 0
  have W4 : Hid ((((w.alloc (.cells #[.slice ap m.length kp, .slice ar rs.length kr, .slice ac cs.length kc] 27)).alloc (.cells #[] 3)).alloc (.cells #[.slice (some ⟨w.heap.size + 1, 0, none⟩) 0 0] 23)).alloc (.cells #[.nilFunc] 132) = w4) := by show _ = _; rw [hw4, hw3, hw2, hw1]
  have D5 := hide (d5.wider (hi' := (w4.setCell ⟨w.heap.size + 1 + 1 + 1, 0, none⟩ (loseF w.heap.size (w.heap.size + 1 + 1) (w.heap.size + 1 + 1 + 1))).heap.size) (Nat.le_refl _) (by have := b3.size; have := b4.size; simp; omega))
  have XG := hide xg5
  have XO := hide xo5
  have XL := hide xl5
  have BW := hide bw5
  have OK := hide hok
  clear h hd d2 d4 d5 xg xo xl xg5 xo5 xl5 oy b1 b2 b3 b4 s1 s2 s3 hw1 hw2 hw3 hw4 bw4 bw5 hok cl
  go_enter Try.func88, Try.ntmps88
  go_upto_region 3 with fail
  rw [W4.out]
  go_upto_region 4 with fail
  obtain ⟨w5, hw5⟩ : ∃ w5, w5 = w4.setCell ⟨w.heap.size + 1 + 1 + 1, 0, none⟩ (loseF w.heap.size (w.heap.size + 1 + 1) (w.heap.size + 1 + 1 + 1)) := ⟨_, rfl⟩
  rw [← hw5] at D5 XG XO XL BW cm
  have W5 : Hid (w4.setCell ⟨w.heap.size + 1 + 1 + 1, 0, none⟩ (loseF w.heap.size (w.heap.size + 1 + 1) (w.heap.size + 1 + 1 + 1)) = w5) := hw5.symm
  rw [W5.out]
  clear hw5 cl' fl
  go_wp2_with fail
  refine (lose_calls N hN 14 n B _ _ _ _ [] us [] rs cs [] m lo _ _ _ _ (by omega) hn OK.out (by rw [lsT_14]; omega) (by rw [lsT_14]; simp) D5.out (Nat.le_trans hlo BW.out.size) XG.out XO.out XL.out (by omega)).mono ?_
  rintro e w6 ⟨y6, us6, rfl, d6, xo6, bl6, kb6⟩
  obtain ⟨a6, k6, hy6⟩ := row_slice (d6.rowE 2 (by simp))
  simp only [List.getD_cons_zero, List.getD_cons_succ, List.nil_append] at hy6 d6
  subst hy6
  have c6 := xo6.cell 0
  have c6' : w6.cell? ⟨w.heap.size + 1 + 1, 0, none⟩ = some (.slice a6 (lsF 14 m cs n).2.2.length k6) := c6
  have D6 := hide d6
  have BL6 := hide ((BW.out.mono hlo).trans bl6)
  have KB6 := hide ((KeepB.ofBelow BW.out).trans kb6)
  clear d6 xo6 bl6 kb6 c6 cm
  go_wp2
  go_ret
  exact ⟨_, _, rfl, D6.out, BL6.out, KB6.out⟩
end Go.Proofs.Ytakhggnbhjoojaa

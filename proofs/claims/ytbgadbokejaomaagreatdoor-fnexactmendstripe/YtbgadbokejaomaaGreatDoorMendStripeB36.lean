/-
  A stripe mended by the model, on a disk of the caller's own: l8Mend. The contract says what it asks.
-/
import Derived.Test.YtbgadbokejaomaaGreatDoorMendStripeB35
namespace Go.Proofs.YtbgadbokejaomaaGreatDoor
open Go.RowKit
open Gf (ci nat)
set_option linter.unusedVariables false

theorem HeldG.low {W w w' : World} {a b : Nat} (hc : Chg a b w w') (hb : b ≤ W.heap.size) : ∀ {top : Nat} {L : List Tg}, HeldG W w top L → HeldG W w' top L
  | _, [], h => h
  | _, _ :: _, ⟨lo, hi, h0, h1, h2, h⟩ => ⟨lo, hi, ⟨h0.1, h0.1 _ _ _ _ _ _ h0.2 hc (.inr (Nat.le_trans hb h.base))⟩, h1, h2, HeldG.low hc hb h⟩
/-- A thing that was there ahead of the call and that the call writes; and what is the call's own. -/
structure Guest (lo hi : Nat) (W w : World) (t : Tg) (L : List Tg) : Prop where
  base : hi ≤ W.heap.size
  chg : Chg lo hi W w
  st : t.st
  it : t lo hi w
  held : HeldG W w w.heap.size L
theorem Hand.guest {lo hi : Nat} {W w : World} {L : List Tg} {t : Tg} (h : Hand W w L) (hb : hi ≤ W.heap.size) (hs : t.st) (ht : t lo hi W) : Guest lo hi W w t L :=
  ⟨hb, Chg.ofBelow h.below, hs, hs _ _ _ _ _ _ ht (Chg.ofBelow (lo := W.heap.size) (hi := W.heap.size) h.below) (.inl hb), h.held⟩
theorem Guest.step {lo hi : Nat} {W w w' : World} {t : Tg} {L : List Tg} (G : Guest lo hi W w t L) (hb : Below w.heap.size w w') : Guest lo hi W w' t L :=
  ⟨G.base, G.chg.trans (Chg.ofBelow hb), G.st, G.st _ _ _ _ _ _ G.it (Chg.ofBelow (lo := w.heap.size) (hi := w.heap.size) hb) (.inl (Nat.le_trans G.base G.chg.size)), (HeldG.chg (a := w.heap.size) (b := w.heap.size) (Chg.ofBelow hb) G.held (Nat.le_refl _)).up hb.size⟩
theorem Guest.box {lo hi : Nat} {W w : World} {t : Tg} {L : List Tg} (G : Guest lo hi W w t L) (cs : Array Value) (T : TypeId) : Guest lo hi W (w.alloc (.cells cs T)) t (TBox w.heap.size cs T :: L) :=
  ⟨G.base, (G.step (below_box w _)).chg, G.st, (G.step (below_box w _)).it, w.heap.size, (w.alloc (.cells cs T)).heap.size, ⟨TBox.st _ _ _, Nat.le_refl _, by simp, BoxAt.new w cs T⟩, (below_box w (.cells cs T)).size, Nat.le_refl _, HeldG.chg (a := w.heap.size) (b := w.heap.size) (Chg.ofBelow (below_box w _)) G.held (Nat.le_refl _)⟩
theorem Guest.low {lo hi : Nat} {W w w' : World} {t t' : Tg} {L : List Tg} (G : Guest lo hi W w t L) (hs : t'.st) (ht : t' lo hi w') (hc : Chg lo hi w w') : Guest lo hi W w' t' L :=
  ⟨G.base, G.chg.trans hc, hs, ht, (HeldG.low hc G.base G.held).up hc.size⟩
theorem Guest.drop {lo hi : Nat} {W w : World} {t u : Tg} {L : List Tg} (G : Guest lo hi W w t (u :: L)) : Guest lo hi W w t L :=
  ⟨G.base, G.chg, G.st, G.it, by obtain ⟨a, b, _, h1, h2, h⟩ := G.held; exact h.up (Nat.le_trans h1 h2)⟩
theorem Guest.get {lo hi : Nat} {W w : World} {t u : Tg} {L : List Tg} (G : Guest lo hi W w t L) (i : Nat) (h : L[i]? = some u) : ∃ a b, u a b w := by
  obtain ⟨a, b, ok, _⟩ := HeldG.open G.held h
  exact ⟨a, b, ok⟩
theorem Guest.atBox {lo hi : Nat} {W w : World} {t : Tg} {L : List Tg} {g : Nat} {cs : Array Value} {T : TypeId} (G : Guest lo hi W w t L) (i : Nat) (h : L[i]? = some (TBox g cs T)) : BoxAt w g cs T := by
  obtain ⟨_, _, _, _, h⟩ := G.get i h
  exact h
theorem Guest.store3 {lo hi : Nat} {W w : World} {t : Tg} {L : List Tg} {g : Nat} {a b c : Value} {T : TypeId} (G : Guest lo hi W w t L) (i : Nat) (h : L[i]? = some (TBox g #[a, b, c] T)) (v0 v1 v2 : Value) :
    Guest lo hi W (((w.setCell ⟨g, 0, none⟩ v0).setCell ⟨g, 1, none⟩ v1).setCell ⟨g, 2, none⟩ v2) t (L.set i (TBox g #[v0, v1, v2] T)) := by
  obtain ⟨lo', hi2, ⟨b1, b2, b3⟩, hb, ht, put⟩ := HeldG.open G.held h
  have hc := Chg.store3 (lo := lo') (hi := hi2) w g v0 v1 v2 b1 b2
  exact ⟨G.base, chg_new G.chg hc hb, G.st, G.st _ _ _ _ _ _ G.it hc (.inl (Nat.le_trans G.base hb)), (put _ (TBox g #[v0, v1, v2] T) (TBox.st _ _ _) ⟨b1, b2, b3.store3 v0 v1 v2⟩ hc).up hc.size⟩
/-- Rows and a row of the call's own. -/
def TMO (vm vo : Value) (vs : List Value) (m : List (List Int)) (os : List Int) : Tg := fun lo hi w => MatV w lo hi vm vs m ∧ Own w lo vo os ∧ ∀ k, vo.ownBlock = some k → k < hi
theorem TMO.st (vm vo : Value) (vs : List Value) (m : List (List Int)) (os : List Int) : (TMO vm vo vs m os).st := fun lo hi a b w w' h hc hd => ⟨h.1.chg hc hd, Own.chg h.2.1 h.2.2 hc hd, h.2.2⟩

set_option linter.unusedSimpArgs false in
set_option maxRecDepth 100000 in
set_option maxHeartbeats 3200000 in
theorem l8Mend_calls (p h b : Value) (P H : List ByteArray) (B : List Bool) (a : Nat) (least : Int) (lo hi : Nat) (w : World) (gk : gkP P H B) (ha5 : a + 5 ≤ P.length) (hr : 0 ≤ rtX (skL P H B least a)) (d : DskV w lo hi p h b P H B) (hhi : hi ≤ w.heap.size) :
    Calls Tryz.prog 109 #[.agg #[p, h, b], .int .i64 (a : Int), .int .i64 least] w fun e w' => e = .returned (.tuple #[.agg #[p, h, b], .int .i64 ((mdL B (a : Int) (skL P H B least a)).length : Int)]) ∧ DskV w' lo hi p h b P (mdH H B (a : Int) (skL P H B least a)) B ∧ Chg lo hi w w' := by
  obtain ⟨ap, cp, ah, ch, ab, cb, rfl, rfl, rfl⟩ := d.sl
  have C3 := hide (fun W h1 h2 h3 => l8Read_calls (.slice ap P.length cp) (.slice ah H.length ch) (.slice ab B.length cb) P H B a least W gk ha5 h1 h2 h3)
  have n24 : P.length ≤ 24 := gk.1.2
  obtain ⟨xs, hxs⟩ : ∃ xs, xs = skL P H B least a := ⟨_, rfl⟩
  have xl : xs.length = 5 := by rw [hxs, skL_length]
  have xok : ∀ k, okP (xs.getD k none) := by rw [hxs]; exact skL_ok _ _ _ _ _
  rw [← hxs] at C3 hr ⊢
  rw [if_pos hr, ← othN_ci] at C3
  have r16 := (tf_r16 (dc_tf xl xok hr)).1
  have hE : 0 ≤ rtX xs ∧ rtX xs ≤ 60000 := ⟨hr, rtX_le xok⟩
  have PC := hide (dcN_ci r16)
  have PO := hide (dcN_ok r16)
  have PL := hide (dcN_length r16)
  have EL : Hid (mdL B (a : Int) xs = lfN B a (othN xs) (othN xs).length) := by show lfN B (a : Int).toNat _ _ = _; rw [Int.toNat_natCast]
  have EH : Hid (mdH H B (a : Int) xs = mdW H B a (rtX xs) (dcN xs) (othN xs) (othN xs).length) := by show mdW H B (a : Int).toNat _ _ _ _ = _; rw [Int.toNat_natCast]
  rw [EL.out, EH.out]
  have OLt := hide (othN_lt xs)
  have OLe := othN_le xs
  have S28 := hide gk.2.2.2.1
  have LH := hide gk.2.1
  have LB := hide gk.2.2.1
  generalize rtX xs = r at *
  generalize othN xs = on at *
  have LW := hide (mdW_length H B a r (dcN xs) on)
  have LF := hide (lfN_le B a on)
  generalize dcN xs = m at *
  rw [← PC.out] at C3
  have A0 : Hid (Hand w ((w.alloc (.cells #[.slice ap P.length cp, .slice ah H.length ch, .slice ab B.length cb] 26)).alloc (.cells nil3 26)) [TBox (w.heap.size + 1) nil3 26, TBox w.heap.size #[.slice ap P.length cp, .slice ah H.length ch, .slice ab B.length cb] 26]) := by
    show Hand _ _ _
    have := ((Hand.start w).box #[.slice ap P.length cp, .slice ah H.length ch, .slice ab B.length cb] 26).box nil3 26
    simpa using this
  have D0 := hide d
  obtain ⟨np, hnp⟩ : ∃ x, x = P.length := ⟨_, rfl⟩
  obtain ⟨nh, hnh⟩ : ∃ x, x = H.length := ⟨_, rfl⟩
  obtain ⟨nb, hnb⟩ : ∃ x, x = B.length := ⟨_, rfl⟩
  rw [← hnp, ← hnh, ← hnb] at C3 A0 D0
  rw [← hnp, ← hnh, ← hnb]
  have hnp5 : a + 5 ≤ np := by rw [hnp]; exact ha5
  have hnp24 : np ≤ 24 := by rw [hnp]; exact n24
  have NP := hide hnp
  have NH : Hid (H.length = np) := by show _ = _; rw [hnp]; exact LH.out
  have NB : Hid (B.length = np) := by show _ = _; rw [hnp]; exact LB.out
  obtain ⟨c0, c1, c2⟩ := (A0.out.atBox 1 rfl).c3
  clear d EL EH xl xok r16 hxs PC gk hnp hnh hnb ha5 n24
  go_enter Tryz.func109, Tryz.ntmps109
  go_wp2_with fail
  refine (C3.out _ (D0.out.below A0.out.below).rp (D0.out.below A0.out.below).rh (D0.out.below A0.out.below).rb).mono ?_
  rintro e w1 ⟨vm, vo, rfl, m1, o1, q⟩
  obtain ⟨vs, mv⟩ := m1 hr
  have G0 := hide ((A0.out.add q (TMO.st vm vo vs (m.map ci) (ci on)) ⟨mv, o1, row_top o1⟩).guest hhi (TDsk.st _ _ _ _ _ _) D0.out)
  obtain ⟨gm, cm, hvm, _⟩ := mv.open (by rw [List.length_map, PL.out]; omega)
  rw [List.length_map, PL.out] at hvm
  subst hvm
  obtain ⟨ao, co, hvo⟩ := row_slice o1
  rw [Gf.ci_length] at hvo
  subst hvo
  clear A0 D0 m1 o1 q mv c0 c1 c2 C3
  go_wp2
  go_loopw [11, 26] (fun vn vi wr => ∃ k : Nat, k ≤ on.length ∧ vi = .int .i64 k ∧ vn = .int .i64 ((lfN B a on k).length : Int) ∧ Guest lo hi w wr (TDsk (.slice ap np cp) (.slice ah nh ch) (.slice ab nb cb) P (mdW H B a r m on k) B) [TMO (.slice (some ⟨gm, 0, none⟩) 5 cm) (.slice ao on.length co) vs (m.map ci) (ci on), TBox (w.heap.size + 1) nil3 26, TBox w.heap.size #[.slice ap np cp, .slice ah nh ch, .slice ab nb cb] 26]) (fun _ vi _ => on.length - (intOf vi).toNat)
  case atStart => exact ⟨0, Nat.zero_le _, rfl, rfl, G0.out⟩
  case round =>
    clear G0
    obtain ⟨k, hk, rfl, rfl, hG⟩ := hrel
    have G := hide hG
    clear hG
    by_cases hlt : k < on.length
    · have hlt' : (k : Int) < (on.length : Int) := by omega
      obtain ⟨x1, x2, mm, oo, ot⟩ := G.out.get 0 rfl
      obtain ⟨kb, ko, hka, hkc⟩ := oo.rd.nth k (by rw [Gf.ci_length]; exact hlt)
      subst hka
      rw [Gf.ci_getD] at hkc
      have hz5 := OLt.out k hlt
      have WB : Hid (B.getD (a + on.getD k 0) false = true → lfN B a on (k + 1) = lfN B a on k ∧ mdW H B a r m on (k + 1) = mdW H B a r m on k) := fun e => ⟨lfN_bad e, mdW_bad e⟩
      have WG : Hid (B.getD (a + on.getD k 0) false = false → (lfN B a on (k + 1)).length = (lfN B a on k).length + 1 ∧ mdW H B a r m on (k + 1) = (mdW H B a r m on k).set (a + on.getD k 0) (scT (a + on.getD k 0) r (m.getD (on.getD k 0) []))) := fun e => ⟨by rw [lfN_good e, List.length_append]; rfl, mdW_good e⟩
      have LK := LF.out k
      have LWK := hide (LW.out k)
      generalize on.getD k 0 = z at *
      have hzi : (z : Int) < 5 := by omega
      have hmg : (m.map ci).getD z [] = ci (m.getD z []) := by
        simp only [List.getD_eq_getElem?_getD]
        rw [List.getElem?_map, List.getElem?_eq_getElem (by rw [PL.out]; exact hz5)]
        rfl
      have hrow := mm.row z (by rw [List.length_map, PL.out]; exact hz5)
      rw [hmg] at hrow
      obtain ⟨r1, r2⟩ := PO.out z hz5
      have hu := hrow.rd
      obtain ⟨ua, uc, hu2, _⟩ := hu
      rw [Gf.ci_length, r1] at hu2
      have ROW : Hid (∀ w' t L, Guest lo hi w w' t (TMO (.slice (some ⟨gm, 0, none⟩) 5 cm) (.slice (some ⟨kb, ko, none⟩) on.length co) vs (m.map ci) (ci on) :: L) → w'.cell? ⟨gm, z, none⟩ = some (.slice ua 16 uc) ∧ Rd w' (.slice ua 16 uc) (ci (m.getD z []))) := fun w' t L g => by
        obtain ⟨x1, x2, mm, _⟩ := g.get 0 rfl
        have c := mm.cell z (by rw [List.length_map, PL.out]; exact hz5)
        have rr := mm.row z (by rw [List.length_map, PL.out]; exact hz5)
        rw [hmg] at rr
        rw [hu2] at c rr
        exact ⟨c, rr.rd⟩
      have E5 : Hid (IntKind.i64.wrap ((a : Int) + (z : Int)) = ((a + z : Nat) : Int)) := by show _ = _; rw [Gf.wrap_i64]; omega
      clear ot mm oo hrow hmg x1 x2
      cases hy : B.getD (a + z) false with
      | false =>
        have WW := WG.out hy
        have C5 := hide (fun W (D : DskV W lo hi (.slice ap np cp) (.slice ah nh ch) (.slice ab nb cb) P (mdW H B a r m on k) B) hw U => l8Put_good (.slice ap np cp) (.slice ah nh ch) (.slice ab nb cb) P (mdW H B a r m on k) B (a + z) r (.slice ua 16 uc) (m.getD z []) lo hi np W D hw NP.out.symm (by rw [LWK.out, NH.out]) NB.out ⟨by omega, hnp24⟩ (by omega) hE U r1 r2 hy)
        generalize mdW H B a r m on k = Hk at *
        generalize scT (a + z) r (m.getD z []) = TT at *
        generalize (lfN B a on k).length = cn at *
        have WW := hide WW
        clear WB WG LWK LW LF r1 r2 hu2 hy
        go_wp2
        refine wp_region_noPanic ?_
        refine wp_region_held_drew (S := fun w' => w'.cell? ⟨w.heap.size, 0, none⟩ = some (.slice ap np cp) ∧ w'.cell? ⟨w.heap.size, 1, none⟩ = some (.slice ah nh ch) ∧ w'.cell? ⟨w.heap.size, 2, none⟩ = some (.slice ab nb cb) ∧ w'.cell? ⟨gm, z, none⟩ = some (.slice ua 16 uc)) (by kernel_rfl) (⟨((G.out.step (Below.refl _ _).drew).atBox 2 rfl).c3.1, ((G.out.step (Below.refl _ _).drew).atBox 2 rfl).c3.2.1, ((G.out.step (Below.refl _ _).drew).atBox 2 rfl).c3.2.2, (ROW.out _ _ _ (G.out.step (Below.refl _ _).drew)).1⟩) (fun hHeld => ?_)
        have G1 := hide (G.out.step (Below.refl _ _).drew)
        clear G hkc
        generalize wr.drew = V0 at *
        refine wpAnyH_take (i := 0) (v := ?v1) rfl (by kernel_rfl) (by kernel_rfl) (by kernel_rfl) (fun _ _ _ h => h) (Or.inl ⟨by rfl, ?hy1⟩) (by assumption) ?rest1
        case hy1 => (intro w' hSw; dsimp only [List.getElem_toArray, List.getElem_cons_zero, List.getElem_cons_succ] at hSw ⊢; go_simp; try (with_reducible rfl))
        try simp only [Act.put, List.getElem_toArray, List.getElem_cons_zero, List.getElem_cons_succ, List.setIfInBounds_toArray, List.set_cons_zero, List.set_cons_succ]
        refine wpAnyH_take (i := 1) (v := ?v2) rfl (by kernel_rfl) (by kernel_rfl) (by kernel_rfl) (fun _ _ _ h => h) (Or.inl ⟨by rfl, ?hy2⟩) (by assumption) ?rest2
        case hy2 => (intro w' hSw; dsimp only [List.getElem_toArray, List.getElem_cons_zero, List.getElem_cons_succ] at hSw ⊢; go_simp; try (with_reducible rfl))
        try simp only [Act.put, List.getElem_toArray, List.getElem_cons_zero, List.getElem_cons_succ, List.setIfInBounds_toArray, List.set_cons_zero, List.set_cons_succ]
        refine wpAnyH_take (i := 2) (v := ?v3) rfl (by kernel_rfl) (by kernel_rfl) (by kernel_rfl) (fun _ _ _ h => h) (Or.inl ⟨by rfl, ?hy3⟩) (by assumption) ?rest3
        case hy3 => (intro w' hSw; dsimp only [List.getElem_toArray, List.getElem_cons_zero, List.getElem_cons_succ] at hSw ⊢; go_simp; try (with_reducible rfl))
        try simp only [Act.put, List.getElem_toArray, List.getElem_cons_zero, List.getElem_cons_succ, List.setIfInBounds_toArray, List.set_cons_zero, List.set_cons_succ]
        refine wpAnyH_take (i := 3) (v := ?v4) rfl (by kernel_rfl) (by kernel_rfl) (by kernel_rfl) (fun _ _ _ h => h) (Or.inl ⟨by rfl, ?hy4⟩) (by assumption) ?rest4
        case hy4 => (intro w' hSw; dsimp only [List.getElem_toArray, List.getElem_cons_zero, List.getElem_cons_succ] at hSw ⊢; go_simp; try (with_reducible rfl))
        try simp only [Act.put, List.getElem_toArray, List.getElem_cons_zero, List.getElem_cons_succ, List.setIfInBounds_toArray, List.set_cons_zero, List.set_cons_succ]
        refine wpAnyH_take (i := 4) (v := ?v5) rfl (by kernel_rfl) (by kernel_rfl) (by kernel_rfl) (fun _ _ _ h => h) (Or.inl ⟨by rfl, ?hy5⟩) (by assumption) ?rest5
        case hy5 => (intro w' hSw; dsimp only [List.getElem_toArray, List.getElem_cons_zero, List.getElem_cons_succ] at hSw ⊢; go_simp; try (with_reducible rfl))
        try simp only [Act.put, List.getElem_toArray, List.getElem_cons_zero, List.getElem_cons_succ, List.setIfInBounds_toArray, List.set_cons_zero, List.set_cons_succ]
        refine wpAnyH_take (i := 5) (v := ?v6) rfl (by kernel_rfl) (by kernel_rfl) (by kernel_rfl) (fun _ _ _ h => h) (Or.inl ⟨by rfl, ?hy6⟩) (by assumption) ?rest6
        case hy6 => (intro w' hSw; dsimp only [List.getElem_toArray, List.getElem_cons_zero, List.getElem_cons_succ] at hSw ⊢; go_simp; try (with_reducible rfl))
        try simp only [Act.put, List.getElem_toArray, List.getElem_cons_zero, List.getElem_cons_succ, List.setIfInBounds_toArray, List.set_cons_zero, List.set_cons_succ]
        refine wpAnyH_take (i := 6) (v := ?v7) rfl (by kernel_rfl) (by kernel_rfl) (by kernel_rfl) (fun _ _ _ h => h) (Or.inl ⟨by rfl, ?hy7⟩) (by assumption) ?rest7
        case hy7 => (intro w' hSw; dsimp only [List.getElem_toArray, List.getElem_cons_zero, List.getElem_cons_succ] at hSw ⊢; go_simp; try (with_reducible rfl))
        try simp only [Act.put, List.getElem_toArray, List.getElem_cons_zero, List.getElem_cons_succ, List.setIfInBounds_toArray, List.set_cons_zero, List.set_cons_succ]
        refine wpAnyH_take (i := 7) (v := ?v8) rfl (by kernel_rfl) (by kernel_rfl) (by kernel_rfl) (fun _ _ _ h => h) (Or.inl ⟨by rfl, ?hy8⟩) (by assumption) ?rest8
        case hy8 => (intro w' hSw; dsimp only [List.getElem_toArray, List.getElem_cons_zero, List.getElem_cons_succ] at hSw ⊢; go_simp; try (with_reducible rfl))
        try simp only [Act.put, List.getElem_toArray, List.getElem_cons_zero, List.getElem_cons_succ, List.setIfInBounds_toArray, List.set_cons_zero, List.set_cons_succ]
        refine wpAnyH_take (i := 8) (v := ?v9) rfl (by kernel_rfl) (by kernel_rfl) (by kernel_rfl) (fun _ _ _ h => h) (Or.inl ⟨by rfl, ?hy9⟩) (by assumption) ?rest9
        case hy9 => (intro w' hSw; dsimp only [List.getElem_toArray, List.getElem_cons_zero, List.getElem_cons_succ] at hSw ⊢; go_simp; try (with_reducible rfl))
        try simp only [Act.put, List.getElem_toArray, List.getElem_cons_zero, List.getElem_cons_succ, List.setIfInBounds_toArray, List.set_cons_zero, List.set_cons_succ]
        refine wpAnyH_ready (rs := [9, 13]) (by kernel_rfl) (by simp) ?_
        refine AllReadyH.cons rfl (fun K hK => ?_) (AllReadyH.cons rfl (fun K hK => ?_) AllReadyH.nil)
        · dsimp only [List.getElem_toArray, List.getElem_cons_zero, List.getElem_cons_succ]
          go_simp
          rw [E5.out]
          refine (C5.out _ G1.out.it (Nat.le_trans G1.out.base G1.out.chg.size) (ROW.out _ _ _ G1.out).2).mono ?_
          rintro e' V1 ⟨rfl, sp1, sp2⟩
          have G2 := hide (G1.out.low (TDsk.st _ _ _ _ _ _) (by first | exact sp1 rfl | exact sp1 trivial) sp2)
          clear sp1 sp2 hHeld
          clear G1
          refine hK.out _ _ (⟨((G2.out).atBox 2 rfl).c3.1, ((G2.out).atBox 2 rfl).c3.2.1, ((G2.out).atBox 2 rfl).c3.2.2, (ROW.out _ _ _ (G2.out)).1⟩) (fun hHeld => ?_)
          clear hK K
          try simp only [Act.put, List.getElem_toArray, List.getElem_cons_zero, List.getElem_cons_succ, List.setIfInBounds_toArray, List.set_cons_zero, List.set_cons_succ]
          refine wpAnyH_take (i := 10) (v := ?v10) rfl (by kernel_rfl) (by kernel_rfl) (by kernel_rfl) (fun _ _ _ h => h) (Or.inl ⟨by rfl, ?hy10⟩) (by assumption) ?rest10
          case hy10 => (intro w' hSw; dsimp only [List.getElem_toArray, List.getElem_cons_zero, List.getElem_cons_succ] at hSw ⊢; go_simp; try (with_reducible rfl))
          try simp only [Act.put, List.getElem_toArray, List.getElem_cons_zero, List.getElem_cons_succ, List.setIfInBounds_toArray, List.set_cons_zero, List.set_cons_succ]
          refine wpAnyH_take (i := 11) (v := ?v11) rfl (by kernel_rfl) (by kernel_rfl) (by kernel_rfl) (fun _ _ _ h => h) (Or.inl ⟨by rfl, ?hy11⟩) (by assumption) ?rest11
          case hy11 => (intro w' hSw; dsimp only [List.getElem_toArray, List.getElem_cons_zero, List.getElem_cons_succ] at hSw ⊢; go_simp; try (with_reducible rfl))
          try simp only [Act.put, List.getElem_toArray, List.getElem_cons_zero, List.getElem_cons_succ, List.setIfInBounds_toArray, List.set_cons_zero, List.set_cons_succ]
          refine wpAnyH_take (i := 12) (v := ?v12) rfl (by kernel_rfl) (by kernel_rfl) (by kernel_rfl) (fun _ _ _ h => h) (Or.inl ⟨by rfl, ?hy12⟩) (by assumption) ?rest12
          case hy12 => (intro w' hSw; dsimp only [List.getElem_toArray, List.getElem_cons_zero, List.getElem_cons_succ] at hSw ⊢; go_simp; try (with_reducible rfl))
          try simp only [Act.put, List.getElem_toArray, List.getElem_cons_zero, List.getElem_cons_succ, List.setIfInBounds_toArray, List.set_cons_zero, List.set_cons_succ]
          refine wpAnyH_ready (rs := [13]) (by kernel_rfl) (by simp) ?_
          refine AllReadyH.cons rfl (fun K hK => ?_) AllReadyH.nil
          dsimp only [List.getElem_toArray, List.getElem_cons_zero, List.getElem_cons_succ]
          go_simp
          have G3 := hide (G2.out.box nil3 26)
          clear hHeld
          refine hK.out _ _ (⟨((G3.out).drop.atBox 2 rfl).c3.1, ((G3.out).drop.atBox 2 rfl).c3.2.1, ((G3.out).drop.atBox 2 rfl).c3.2.2, (ROW.out _ _ _ (G3.out).drop).1⟩) (fun hHeld => ?_)
          clear hK K
          try simp only [Act.put, List.getElem_toArray, List.getElem_cons_zero, List.getElem_cons_succ, List.setIfInBounds_toArray, List.set_cons_zero, List.set_cons_succ]
          refine wpAnyH_ready (rs := [14]) (by kernel_rfl) (by simp) ?_
          refine AllReadyH.cons rfl (fun K hK => ?_) AllReadyH.nil
          have xr := G3.out.atBox 0 rfl
          obtain ⟨d0, d1, d2⟩ := xr.c3
          have g0 := xr.frozen 0
          have g1 := xr.frozen 1
          have g2 := xr.frozen 2
          have G4 := hide (G2.out.box #[.slice ap np cp, .slice ah nh ch, .slice ab nb cb] 26)
          clear xr hHeld
          dsimp only [List.getElem_toArray, List.getElem_cons_zero, List.getElem_cons_succ]
          go_simp
          clear d0 d1 d2 g0 g1 g2
          refine hK.out _ _ (⟨((G4.out).drop.atBox 2 rfl).c3.1, ((G4.out).drop.atBox 2 rfl).c3.2.1, ((G4.out).drop.atBox 2 rfl).c3.2.2, (ROW.out _ _ _ (G4.out).drop).1⟩) (fun hHeld => ?_)
          clear hK K
          try simp only [Act.put, List.getElem_toArray, List.getElem_cons_zero, List.getElem_cons_succ, List.setIfInBounds_toArray, List.set_cons_zero, List.set_cons_succ]
          refine wpAnyH_ready (rs := [15]) (by kernel_rfl) (by simp) ?_
          refine AllReadyH.cons rfl (fun K hK => ?_) AllReadyH.nil
          dsimp only [List.getElem_toArray, List.getElem_cons_zero, List.getElem_cons_succ]
          go_simp
          refine hK.out _ _ (⟨((G4.out).drop.atBox 2 rfl).c3.1, ((G4.out).drop.atBox 2 rfl).c3.2.1, ((G4.out).drop.atBox 2 rfl).c3.2.2, (ROW.out _ _ _ (G4.out).drop).1⟩) (fun hHeld => ?_)
          clear hK K
          try simp only [Act.put, List.getElem_toArray, List.getElem_cons_zero, List.getElem_cons_succ, List.setIfInBounds_toArray, List.set_cons_zero, List.set_cons_succ]
          refine wpAnyH_done (by kernel_rfl) ?_ _
          refine NoPanic.normal ?_
          clear hHeld
          obtain ⟨x0, x1, x2⟩ := (G4.out.atBox 0 rfl).c3
          obtain ⟨d0, d1, d2⟩ := (G4.out.atBox 3 rfl).c3
          have g0 := (G4.out.atBox 3 rfl).frozen 0
          have g1 := (G4.out.atBox 3 rfl).frozen 1
          have g2 := (G4.out.atBox 3 rfl).frozen 2
          have GZ := hide (G4.out.store3 3 rfl (.slice ap np cp) (.slice ah nh ch) (.slice ab nb cb))
          go_wp2
          go_roundw
          case rel =>
            refine ⟨k + 1, by omega, by go_num, ?_, ?_⟩
            · rw [WW.out.1]; go_num
            · rw [WW.out.2]
              exact GZ.out.drop
          case measure => simp [intOf]; omega
        · dsimp only [List.getElem_toArray, List.getElem_cons_zero, List.getElem_cons_succ]
          go_simp
          have G2 := hide (G1.out.box nil3 26)
          clear hHeld
          refine hK.out _ _ (⟨((G2.out).drop.atBox 2 rfl).c3.1, ((G2.out).drop.atBox 2 rfl).c3.2.1, ((G2.out).drop.atBox 2 rfl).c3.2.2, (ROW.out _ _ _ (G2.out).drop).1⟩) (fun hHeld => ?_)
          clear hK K
          try simp only [Act.put, List.getElem_toArray, List.getElem_cons_zero, List.getElem_cons_succ, List.setIfInBounds_toArray, List.set_cons_zero, List.set_cons_succ]
          refine wpAnyH_ready (rs := [9]) (by kernel_rfl) (by simp) ?_
          refine AllReadyH.cons rfl (fun K hK => ?_) AllReadyH.nil
          dsimp only [List.getElem_toArray, List.getElem_cons_zero, List.getElem_cons_succ]
          go_simp
          rw [E5.out]
          refine (C5.out _ G2.out.it (Nat.le_trans G2.out.base G2.out.chg.size) (ROW.out _ _ _ G2.out.drop).2).mono ?_
          rintro e' V1 ⟨rfl, sp1, sp2⟩
          have G3 := hide (G2.out.low (TDsk.st _ _ _ _ _ _) (by first | exact sp1 rfl | exact sp1 trivial) sp2)
          clear sp1 sp2 hHeld
          clear G2
          refine hK.out _ _ (⟨((G3.out).drop.atBox 2 rfl).c3.1, ((G3.out).drop.atBox 2 rfl).c3.2.1, ((G3.out).drop.atBox 2 rfl).c3.2.2, (ROW.out _ _ _ (G3.out).drop).1⟩) (fun hHeld => ?_)
          clear hK K
          try simp only [Act.put, List.getElem_toArray, List.getElem_cons_zero, List.getElem_cons_succ, List.setIfInBounds_toArray, List.set_cons_zero, List.set_cons_succ]
          refine wpAnyH_take (i := 10) (v := ?v13) rfl (by kernel_rfl) (by kernel_rfl) (by kernel_rfl) (fun _ _ _ h => h) (Or.inl ⟨by rfl, ?hy13⟩) (by assumption) ?rest13
          case hy13 => (intro w' hSw; dsimp only [List.getElem_toArray, List.getElem_cons_zero, List.getElem_cons_succ] at hSw ⊢; go_simp; try (with_reducible rfl))
          try simp only [Act.put, List.getElem_toArray, List.getElem_cons_zero, List.getElem_cons_succ, List.setIfInBounds_toArray, List.set_cons_zero, List.set_cons_succ]
          refine wpAnyH_take (i := 11) (v := ?v14) rfl (by kernel_rfl) (by kernel_rfl) (by kernel_rfl) (fun _ _ _ h => h) (Or.inl ⟨by rfl, ?hy14⟩) (by assumption) ?rest14
          case hy14 => (intro w' hSw; dsimp only [List.getElem_toArray, List.getElem_cons_zero, List.getElem_cons_succ] at hSw ⊢; go_simp; try (with_reducible rfl))
          try simp only [Act.put, List.getElem_toArray, List.getElem_cons_zero, List.getElem_cons_succ, List.setIfInBounds_toArray, List.set_cons_zero, List.set_cons_succ]
          refine wpAnyH_take (i := 12) (v := ?v15) rfl (by kernel_rfl) (by kernel_rfl) (by kernel_rfl) (fun _ _ _ h => h) (Or.inl ⟨by rfl, ?hy15⟩) (by assumption) ?rest15
          case hy15 => (intro w' hSw; dsimp only [List.getElem_toArray, List.getElem_cons_zero, List.getElem_cons_succ] at hSw ⊢; go_simp; try (with_reducible rfl))
          try simp only [Act.put, List.getElem_toArray, List.getElem_cons_zero, List.getElem_cons_succ, List.setIfInBounds_toArray, List.set_cons_zero, List.set_cons_succ]
          refine wpAnyH_ready (rs := [14]) (by kernel_rfl) (by simp) ?_
          refine AllReadyH.cons rfl (fun K hK => ?_) AllReadyH.nil
          have xr := G3.out.atBox 0 rfl
          obtain ⟨d0, d1, d2⟩ := xr.c3
          have g0 := xr.frozen 0
          have g1 := xr.frozen 1
          have g2 := xr.frozen 2
          have G4 := hide (G3.out.store3 0 rfl (.slice ap np cp) (.slice ah nh ch) (.slice ab nb cb))
          clear xr hHeld
          dsimp only [List.getElem_toArray, List.getElem_cons_zero, List.getElem_cons_succ]
          go_simp
          clear d0 d1 d2 g0 g1 g2
          refine hK.out _ _ (⟨((G4.out).drop.atBox 2 rfl).c3.1, ((G4.out).drop.atBox 2 rfl).c3.2.1, ((G4.out).drop.atBox 2 rfl).c3.2.2, (ROW.out _ _ _ (G4.out).drop).1⟩) (fun hHeld => ?_)
          clear hK K
          try simp only [Act.put, List.getElem_toArray, List.getElem_cons_zero, List.getElem_cons_succ, List.setIfInBounds_toArray, List.set_cons_zero, List.set_cons_succ]
          refine wpAnyH_ready (rs := [15]) (by kernel_rfl) (by simp) ?_
          refine AllReadyH.cons rfl (fun K hK => ?_) AllReadyH.nil
          dsimp only [List.getElem_toArray, List.getElem_cons_zero, List.getElem_cons_succ]
          go_simp
          refine hK.out _ _ (⟨((G4.out).drop.atBox 2 rfl).c3.1, ((G4.out).drop.atBox 2 rfl).c3.2.1, ((G4.out).drop.atBox 2 rfl).c3.2.2, (ROW.out _ _ _ (G4.out).drop).1⟩) (fun hHeld => ?_)
          clear hK K
          try simp only [Act.put, List.getElem_toArray, List.getElem_cons_zero, List.getElem_cons_succ, List.setIfInBounds_toArray, List.set_cons_zero, List.set_cons_succ]
          refine wpAnyH_done (by kernel_rfl) ?_ _
          refine NoPanic.normal ?_
          clear hHeld
          obtain ⟨x0, x1, x2⟩ := (G4.out.atBox 0 rfl).c3
          obtain ⟨d0, d1, d2⟩ := (G4.out.atBox 3 rfl).c3
          have g0 := (G4.out.atBox 3 rfl).frozen 0
          have g1 := (G4.out.atBox 3 rfl).frozen 1
          have g2 := (G4.out.atBox 3 rfl).frozen 2
          have GZ := hide (G4.out.store3 3 rfl (.slice ap np cp) (.slice ah nh ch) (.slice ab nb cb))
          go_wp2
          go_roundw
          case rel =>
            refine ⟨k + 1, by omega, by go_num, ?_, ?_⟩
            · rw [WW.out.1]; go_num
            · rw [WW.out.2]
              exact GZ.out.drop
          case measure => simp [intOf]; omega
      | true =>
        have WW := WB.out hy
        have C5 := hide (fun W (D : DskV W lo hi (.slice ap np cp) (.slice ah nh ch) (.slice ab nb cb) P (mdW H B a r m on k) B) hw U => l8Put_bad (.slice ap np cp) (.slice ah nh ch) (.slice ab nb cb) P (mdW H B a r m on k) B (a + z) r (.slice ua 16 uc) (m.getD z []) lo hi np W D hw NP.out.symm (by rw [LWK.out, NH.out]) NB.out ⟨by omega, hnp24⟩ (by omega) hE U r1 r2 hy)
        generalize mdW H B a r m on k = Hk at *
        have WW := hide WW
        clear WB WG LWK LW LF r1 r2 hu2 hy
        go_wp2
        refine wp_region_noPanic ?_
        refine wp_region_held_drew (S := fun w' => w'.cell? ⟨w.heap.size, 0, none⟩ = some (.slice ap np cp) ∧ w'.cell? ⟨w.heap.size, 1, none⟩ = some (.slice ah nh ch) ∧ w'.cell? ⟨w.heap.size, 2, none⟩ = some (.slice ab nb cb) ∧ w'.cell? ⟨gm, z, none⟩ = some (.slice ua 16 uc)) (by kernel_rfl) (⟨((G.out.step (Below.refl _ _).drew).atBox 2 rfl).c3.1, ((G.out.step (Below.refl _ _).drew).atBox 2 rfl).c3.2.1, ((G.out.step (Below.refl _ _).drew).atBox 2 rfl).c3.2.2, (ROW.out _ _ _ (G.out.step (Below.refl _ _).drew)).1⟩) (fun hHeld => ?_)
        have G1 := hide (G.out.step (Below.refl _ _).drew)
        clear G hkc
        generalize wr.drew = V0 at *
        refine wpAnyH_take (i := 0) (v := ?v16) rfl (by kernel_rfl) (by kernel_rfl) (by kernel_rfl) (fun _ _ _ h => h) (Or.inl ⟨by rfl, ?hy16⟩) (by assumption) ?rest16
        case hy16 => (intro w' hSw; dsimp only [List.getElem_toArray, List.getElem_cons_zero, List.getElem_cons_succ] at hSw ⊢; go_simp; try (with_reducible rfl))
        try simp only [Act.put, List.getElem_toArray, List.getElem_cons_zero, List.getElem_cons_succ, List.setIfInBounds_toArray, List.set_cons_zero, List.set_cons_succ]
        refine wpAnyH_take (i := 1) (v := ?v17) rfl (by kernel_rfl) (by kernel_rfl) (by kernel_rfl) (fun _ _ _ h => h) (Or.inl ⟨by rfl, ?hy17⟩) (by assumption) ?rest17
        case hy17 => (intro w' hSw; dsimp only [List.getElem_toArray, List.getElem_cons_zero, List.getElem_cons_succ] at hSw ⊢; go_simp; try (with_reducible rfl))
        try simp only [Act.put, List.getElem_toArray, List.getElem_cons_zero, List.getElem_cons_succ, List.setIfInBounds_toArray, List.set_cons_zero, List.set_cons_succ]
        refine wpAnyH_take (i := 2) (v := ?v18) rfl (by kernel_rfl) (by kernel_rfl) (by kernel_rfl) (fun _ _ _ h => h) (Or.inl ⟨by rfl, ?hy18⟩) (by assumption) ?rest18
        case hy18 => (intro w' hSw; dsimp only [List.getElem_toArray, List.getElem_cons_zero, List.getElem_cons_succ] at hSw ⊢; go_simp; try (with_reducible rfl))
        try simp only [Act.put, List.getElem_toArray, List.getElem_cons_zero, List.getElem_cons_succ, List.setIfInBounds_toArray, List.set_cons_zero, List.set_cons_succ]
        refine wpAnyH_take (i := 3) (v := ?v19) rfl (by kernel_rfl) (by kernel_rfl) (by kernel_rfl) (fun _ _ _ h => h) (Or.inl ⟨by rfl, ?hy19⟩) (by assumption) ?rest19
        case hy19 => (intro w' hSw; dsimp only [List.getElem_toArray, List.getElem_cons_zero, List.getElem_cons_succ] at hSw ⊢; go_simp; try (with_reducible rfl))
        try simp only [Act.put, List.getElem_toArray, List.getElem_cons_zero, List.getElem_cons_succ, List.setIfInBounds_toArray, List.set_cons_zero, List.set_cons_succ]
        refine wpAnyH_take (i := 4) (v := ?v20) rfl (by kernel_rfl) (by kernel_rfl) (by kernel_rfl) (fun _ _ _ h => h) (Or.inl ⟨by rfl, ?hy20⟩) (by assumption) ?rest20
        case hy20 => (intro w' hSw; dsimp only [List.getElem_toArray, List.getElem_cons_zero, List.getElem_cons_succ] at hSw ⊢; go_simp; try (with_reducible rfl))
        try simp only [Act.put, List.getElem_toArray, List.getElem_cons_zero, List.getElem_cons_succ, List.setIfInBounds_toArray, List.set_cons_zero, List.set_cons_succ]
        refine wpAnyH_take (i := 5) (v := ?v21) rfl (by kernel_rfl) (by kernel_rfl) (by kernel_rfl) (fun _ _ _ h => h) (Or.inl ⟨by rfl, ?hy21⟩) (by assumption) ?rest21
        case hy21 => (intro w' hSw; dsimp only [List.getElem_toArray, List.getElem_cons_zero, List.getElem_cons_succ] at hSw ⊢; go_simp; try (with_reducible rfl))
        try simp only [Act.put, List.getElem_toArray, List.getElem_cons_zero, List.getElem_cons_succ, List.setIfInBounds_toArray, List.set_cons_zero, List.set_cons_succ]
        refine wpAnyH_take (i := 6) (v := ?v22) rfl (by kernel_rfl) (by kernel_rfl) (by kernel_rfl) (fun _ _ _ h => h) (Or.inl ⟨by rfl, ?hy22⟩) (by assumption) ?rest22
        case hy22 => (intro w' hSw; dsimp only [List.getElem_toArray, List.getElem_cons_zero, List.getElem_cons_succ] at hSw ⊢; go_simp; try (with_reducible rfl))
        try simp only [Act.put, List.getElem_toArray, List.getElem_cons_zero, List.getElem_cons_succ, List.setIfInBounds_toArray, List.set_cons_zero, List.set_cons_succ]
        refine wpAnyH_take (i := 7) (v := ?v23) rfl (by kernel_rfl) (by kernel_rfl) (by kernel_rfl) (fun _ _ _ h => h) (Or.inl ⟨by rfl, ?hy23⟩) (by assumption) ?rest23
        case hy23 => (intro w' hSw; dsimp only [List.getElem_toArray, List.getElem_cons_zero, List.getElem_cons_succ] at hSw ⊢; go_simp; try (with_reducible rfl))
        try simp only [Act.put, List.getElem_toArray, List.getElem_cons_zero, List.getElem_cons_succ, List.setIfInBounds_toArray, List.set_cons_zero, List.set_cons_succ]
        refine wpAnyH_take (i := 8) (v := ?v24) rfl (by kernel_rfl) (by kernel_rfl) (by kernel_rfl) (fun _ _ _ h => h) (Or.inl ⟨by rfl, ?hy24⟩) (by assumption) ?rest24
        case hy24 => (intro w' hSw; dsimp only [List.getElem_toArray, List.getElem_cons_zero, List.getElem_cons_succ] at hSw ⊢; go_simp; try (with_reducible rfl))
        try simp only [Act.put, List.getElem_toArray, List.getElem_cons_zero, List.getElem_cons_succ, List.setIfInBounds_toArray, List.set_cons_zero, List.set_cons_succ]
        refine wpAnyH_ready (rs := [9, 13]) (by kernel_rfl) (by simp) ?_
        refine AllReadyH.cons rfl (fun K hK => ?_) (AllReadyH.cons rfl (fun K hK => ?_) AllReadyH.nil)
        · dsimp only [List.getElem_toArray, List.getElem_cons_zero, List.getElem_cons_succ]
          go_simp
          rw [E5.out]
          refine (C5.out _ G1.out.it (Nat.le_trans G1.out.base G1.out.chg.size) (ROW.out _ _ _ G1.out).2).mono ?_
          rintro e' V1 ⟨rfl, sp2⟩
          have G2 := hide (G1.out.step sp2)
          clear sp2 hHeld
          clear G1
          refine hK.out _ _ (⟨((G2.out).atBox 2 rfl).c3.1, ((G2.out).atBox 2 rfl).c3.2.1, ((G2.out).atBox 2 rfl).c3.2.2, (ROW.out _ _ _ (G2.out)).1⟩) (fun hHeld => ?_)
          clear hK K
          try simp only [Act.put, List.getElem_toArray, List.getElem_cons_zero, List.getElem_cons_succ, List.setIfInBounds_toArray, List.set_cons_zero, List.set_cons_succ]
          refine wpAnyH_take (i := 10) (v := ?v25) rfl (by kernel_rfl) (by kernel_rfl) (by kernel_rfl) (fun _ _ _ h => h) (Or.inl ⟨by rfl, ?hy25⟩) (by assumption) ?rest25
          case hy25 => (intro w' hSw; dsimp only [List.getElem_toArray, List.getElem_cons_zero, List.getElem_cons_succ] at hSw ⊢; go_simp; try (with_reducible rfl))
          try simp only [Act.put, List.getElem_toArray, List.getElem_cons_zero, List.getElem_cons_succ, List.setIfInBounds_toArray, List.set_cons_zero, List.set_cons_succ]
          refine wpAnyH_take (i := 11) (v := ?v26) rfl (by kernel_rfl) (by kernel_rfl) (by kernel_rfl) (fun _ _ _ h => h) (Or.inl ⟨by rfl, ?hy26⟩) (by assumption) ?rest26
          case hy26 => (intro w' hSw; dsimp only [List.getElem_toArray, List.getElem_cons_zero, List.getElem_cons_succ] at hSw ⊢; go_simp; try (with_reducible rfl))
          try simp only [Act.put, List.getElem_toArray, List.getElem_cons_zero, List.getElem_cons_succ, List.setIfInBounds_toArray, List.set_cons_zero, List.set_cons_succ]
          refine wpAnyH_take (i := 12) (v := ?v27) rfl (by kernel_rfl) (by kernel_rfl) (by kernel_rfl) (fun _ _ _ h => h) (Or.inl ⟨by rfl, ?hy27⟩) (by assumption) ?rest27
          case hy27 => (intro w' hSw; dsimp only [List.getElem_toArray, List.getElem_cons_zero, List.getElem_cons_succ] at hSw ⊢; go_simp; try (with_reducible rfl))
          try simp only [Act.put, List.getElem_toArray, List.getElem_cons_zero, List.getElem_cons_succ, List.setIfInBounds_toArray, List.set_cons_zero, List.set_cons_succ]
          refine wpAnyH_ready (rs := [13]) (by kernel_rfl) (by simp) ?_
          refine AllReadyH.cons rfl (fun K hK => ?_) AllReadyH.nil
          dsimp only [List.getElem_toArray, List.getElem_cons_zero, List.getElem_cons_succ]
          go_simp
          have G3 := hide (G2.out.box nil3 26)
          clear hHeld
          refine hK.out _ _ (⟨((G3.out).drop.atBox 2 rfl).c3.1, ((G3.out).drop.atBox 2 rfl).c3.2.1, ((G3.out).drop.atBox 2 rfl).c3.2.2, (ROW.out _ _ _ (G3.out).drop).1⟩) (fun hHeld => ?_)
          clear hK K
          try simp only [Act.put, List.getElem_toArray, List.getElem_cons_zero, List.getElem_cons_succ, List.setIfInBounds_toArray, List.set_cons_zero, List.set_cons_succ]
          refine wpAnyH_ready (rs := [14]) (by kernel_rfl) (by simp) ?_
          refine AllReadyH.cons rfl (fun K hK => ?_) AllReadyH.nil
          have xr := G3.out.atBox 0 rfl
          obtain ⟨d0, d1, d2⟩ := xr.c3
          have g0 := xr.frozen 0
          have g1 := xr.frozen 1
          have g2 := xr.frozen 2
          have G4 := hide (G2.out.box #[.slice ap np cp, .slice ah nh ch, .slice ab nb cb] 26)
          clear xr hHeld
          dsimp only [List.getElem_toArray, List.getElem_cons_zero, List.getElem_cons_succ]
          go_simp
          clear d0 d1 d2 g0 g1 g2
          refine hK.out _ _ (⟨((G4.out).drop.atBox 2 rfl).c3.1, ((G4.out).drop.atBox 2 rfl).c3.2.1, ((G4.out).drop.atBox 2 rfl).c3.2.2, (ROW.out _ _ _ (G4.out).drop).1⟩) (fun hHeld => ?_)
          clear hK K
          try simp only [Act.put, List.getElem_toArray, List.getElem_cons_zero, List.getElem_cons_succ, List.setIfInBounds_toArray, List.set_cons_zero, List.set_cons_succ]
          refine wpAnyH_ready (rs := [15]) (by kernel_rfl) (by simp) ?_
          refine AllReadyH.cons rfl (fun K hK => ?_) AllReadyH.nil
          dsimp only [List.getElem_toArray, List.getElem_cons_zero, List.getElem_cons_succ]
          go_simp
          refine hK.out _ _ (⟨((G4.out).drop.atBox 2 rfl).c3.1, ((G4.out).drop.atBox 2 rfl).c3.2.1, ((G4.out).drop.atBox 2 rfl).c3.2.2, (ROW.out _ _ _ (G4.out).drop).1⟩) (fun hHeld => ?_)
          clear hK K
          try simp only [Act.put, List.getElem_toArray, List.getElem_cons_zero, List.getElem_cons_succ, List.setIfInBounds_toArray, List.set_cons_zero, List.set_cons_succ]
          refine wpAnyH_done (by kernel_rfl) ?_ _
          refine NoPanic.normal ?_
          clear hHeld
          go_wp2
          go_roundw
          case rel =>
            refine ⟨k + 1, by omega, by go_num, ?_, ?_⟩
            · rw [WW.out.1]
            · rw [WW.out.2]
              exact G4.out.drop
          case measure => simp [intOf]; omega
        · dsimp only [List.getElem_toArray, List.getElem_cons_zero, List.getElem_cons_succ]
          go_simp
          have G2 := hide (G1.out.box nil3 26)
          clear hHeld
          refine hK.out _ _ (⟨((G2.out).drop.atBox 2 rfl).c3.1, ((G2.out).drop.atBox 2 rfl).c3.2.1, ((G2.out).drop.atBox 2 rfl).c3.2.2, (ROW.out _ _ _ (G2.out).drop).1⟩) (fun hHeld => ?_)
          clear hK K
          try simp only [Act.put, List.getElem_toArray, List.getElem_cons_zero, List.getElem_cons_succ, List.setIfInBounds_toArray, List.set_cons_zero, List.set_cons_succ]
          refine wpAnyH_ready (rs := [9]) (by kernel_rfl) (by simp) ?_
          refine AllReadyH.cons rfl (fun K hK => ?_) AllReadyH.nil
          dsimp only [List.getElem_toArray, List.getElem_cons_zero, List.getElem_cons_succ]
          go_simp
          rw [E5.out]
          refine (C5.out _ G2.out.it (Nat.le_trans G2.out.base G2.out.chg.size) (ROW.out _ _ _ G2.out.drop).2).mono ?_
          rintro e' V1 ⟨rfl, sp2⟩
          have G3 := hide (G2.out.step sp2)
          clear sp2 hHeld
          clear G2
          refine hK.out _ _ (⟨((G3.out).drop.atBox 2 rfl).c3.1, ((G3.out).drop.atBox 2 rfl).c3.2.1, ((G3.out).drop.atBox 2 rfl).c3.2.2, (ROW.out _ _ _ (G3.out).drop).1⟩) (fun hHeld => ?_)
          clear hK K
          try simp only [Act.put, List.getElem_toArray, List.getElem_cons_zero, List.getElem_cons_succ, List.setIfInBounds_toArray, List.set_cons_zero, List.set_cons_succ]
          refine wpAnyH_take (i := 10) (v := ?v28) rfl (by kernel_rfl) (by kernel_rfl) (by kernel_rfl) (fun _ _ _ h => h) (Or.inl ⟨by rfl, ?hy28⟩) (by assumption) ?rest28
          case hy28 => (intro w' hSw; dsimp only [List.getElem_toArray, List.getElem_cons_zero, List.getElem_cons_succ] at hSw ⊢; go_simp; try (with_reducible rfl))
          try simp only [Act.put, List.getElem_toArray, List.getElem_cons_zero, List.getElem_cons_succ, List.setIfInBounds_toArray, List.set_cons_zero, List.set_cons_succ]
          refine wpAnyH_take (i := 11) (v := ?v29) rfl (by kernel_rfl) (by kernel_rfl) (by kernel_rfl) (fun _ _ _ h => h) (Or.inl ⟨by rfl, ?hy29⟩) (by assumption) ?rest29
          case hy29 => (intro w' hSw; dsimp only [List.getElem_toArray, List.getElem_cons_zero, List.getElem_cons_succ] at hSw ⊢; go_simp; try (with_reducible rfl))
          try simp only [Act.put, List.getElem_toArray, List.getElem_cons_zero, List.getElem_cons_succ, List.setIfInBounds_toArray, List.set_cons_zero, List.set_cons_succ]
          refine wpAnyH_take (i := 12) (v := ?v30) rfl (by kernel_rfl) (by kernel_rfl) (by kernel_rfl) (fun _ _ _ h => h) (Or.inl ⟨by rfl, ?hy30⟩) (by assumption) ?rest30
          case hy30 => (intro w' hSw; dsimp only [List.getElem_toArray, List.getElem_cons_zero, List.getElem_cons_succ] at hSw ⊢; go_simp; try (with_reducible rfl))
          try simp only [Act.put, List.getElem_toArray, List.getElem_cons_zero, List.getElem_cons_succ, List.setIfInBounds_toArray, List.set_cons_zero, List.set_cons_succ]
          refine wpAnyH_ready (rs := [14]) (by kernel_rfl) (by simp) ?_
          refine AllReadyH.cons rfl (fun K hK => ?_) AllReadyH.nil
          have xr := G3.out.atBox 0 rfl
          obtain ⟨d0, d1, d2⟩ := xr.c3
          have g0 := xr.frozen 0
          have g1 := xr.frozen 1
          have g2 := xr.frozen 2
          have G4 := hide (G3.out.store3 0 rfl (.slice ap np cp) (.slice ah nh ch) (.slice ab nb cb))
          clear xr hHeld
          dsimp only [List.getElem_toArray, List.getElem_cons_zero, List.getElem_cons_succ]
          go_simp
          clear d0 d1 d2 g0 g1 g2
          refine hK.out _ _ (⟨((G4.out).drop.atBox 2 rfl).c3.1, ((G4.out).drop.atBox 2 rfl).c3.2.1, ((G4.out).drop.atBox 2 rfl).c3.2.2, (ROW.out _ _ _ (G4.out).drop).1⟩) (fun hHeld => ?_)
          clear hK K
          try simp only [Act.put, List.getElem_toArray, List.getElem_cons_zero, List.getElem_cons_succ, List.setIfInBounds_toArray, List.set_cons_zero, List.set_cons_succ]
          refine wpAnyH_ready (rs := [15]) (by kernel_rfl) (by simp) ?_
          refine AllReadyH.cons rfl (fun K hK => ?_) AllReadyH.nil
          dsimp only [List.getElem_toArray, List.getElem_cons_zero, List.getElem_cons_succ]
          go_simp
          refine hK.out _ _ (⟨((G4.out).drop.atBox 2 rfl).c3.1, ((G4.out).drop.atBox 2 rfl).c3.2.1, ((G4.out).drop.atBox 2 rfl).c3.2.2, (ROW.out _ _ _ (G4.out).drop).1⟩) (fun hHeld => ?_)
          clear hK K
          try simp only [Act.put, List.getElem_toArray, List.getElem_cons_zero, List.getElem_cons_succ, List.setIfInBounds_toArray, List.set_cons_zero, List.set_cons_succ]
          refine wpAnyH_done (by kernel_rfl) ?_ _
          refine NoPanic.normal ?_
          clear hHeld
          go_wp2
          go_roundw
          case rel =>
            refine ⟨k + 1, by omega, by go_num, ?_, ?_⟩
            · rw [WW.out.1]
            · rw [WW.out.2]
              exact G4.out.drop
          case measure => simp [intOf]; omega
    · obtain rfl : k = on.length := by omega
      obtain ⟨c0, c1, c2⟩ := (G.out.atBox 2 rfl).c3
      obtain ⟨d0, d1, d2⟩ := (G.out.atBox 1 rfl).c3
      have g0 := (G.out.atBox 1 rfl).frozen 0
      have g1 := (G.out.atBox 1 rfl).frozen 1
      have g2 := (G.out.atBox 1 rfl).frozen 2
      have GZ := hide (G.out.store3 1 rfl (.slice ap np cp) (.slice ah nh ch) (.slice ab nb cb))
      go_wp2
      exact bodyPost_ret (res_dsk2 rfl _ _ (w.heap.size + 1) _ _ _ (0, 0) rfl (GZ.out.atBox 1 rfl)) rfl ⟨rfl, GZ.out.it, GZ.out.chg⟩
end Go.Proofs.YtbgadbokejaomaaGreatDoor

/-
  A room is given back on rooms of the call's own: of the model. Each contract says what it asks.
-/
import Derived.Test.YtjffjoednmlkiaaPlayRoomsB24
namespace Go.Proofs.Ytjffjoednmlkiaa
open Go.RowKit Go.Maps Go.MapKept Go.ChangeMaps
set_option linter.unusedVariables false
set_option linter.unusedSimpArgs false

/-- Where l14Give stands, behind the held rooms' change. -/
structure Tgv (w wr : World) (lo hi t g : Nat) (f h : Value) (us : List Value) (m' : List (List Int)) (hs : List Hl) : Prop where
  arg : BoxAt wr w.heap.size #[f, h] 29
  res : BoxAt wr (w.heap.size + 1) nilR 29
  mat : MatV wr lo wr.heap.size f us m'
  held : OwnH wr lo h hs
  chg : Chg g (g + 1) w wr
  gl : lo ≤ g
  gh : g < hi
  lh : hi ≤ w.heap.size
  nt : ∀ i, i < m'.length → (us.getD i nilRow).ownBlock ≠ some t
  tw : t < w.heap.size
section
variable {w wr w1 : World} {lo hi t g : Nat} {f h : Value} {us : List Value} {m' : List (List Int)} {hs : List Hl}
theorem Tgv.below (d : Tgv w wr lo hi t g f h us m' hs) (hb : Below wr.heap.size wr w1) : Tgv w w1 lo hi t g f h us m' hs :=
  ⟨d.arg.below hb, d.res.below hb, (d.mat.below hb).wider (Nat.le_refl _) hb.size, rowsBelow d.held hb, d.chg.trans (Chg.ofBelow hb), d.gl, d.gh, d.lh, d.nt, d.tw⟩
theorem Tgv.lay {cap n : Nat} {u : Value} {r : List Int} (d : Tgv w wr lo hi t g (.slice (some ⟨g, 0, none⟩) n cap) h us m' hs) (i : Nat) (hi' : i < m'.length) (hb : Below wr.heap.size wr w1) (ho : Own w1 wr.heap.size u r) :
    Tgv w (w1.setCell ⟨g, i, none⟩ u) lo hi t g (.slice (some ⟨g, 0, none⟩) n cap) h (us.set i u) (m'.set i r) hs := by
  have hl : lo ≤ wr.heap.size := by have := d.gl; have := d.gh; have := d.lh; have := d.chg.size; omega
  have L := d.mat.lay i hi' hb u r ho hl (Nat.le_refl _)
  have d1 := d.below hb
  have gh := d.gh
  have lh := d.lh
  have c1 : Chg g (g + 1) w1 (w1.setCell ⟨g, i, none⟩ u) := Chg.ofSetCell w1 g i u (Nat.le_refl g) (Nat.lt_succ_self g)
  refine ⟨d1.arg.kept L.2 (by simp; omega), d1.res.kept L.2 (by simp; omega), L.1, ?_, d1.chg.trans c1, d.gl, d.gh, d.lh, ?_, d.tw⟩
  rotate_left
  · intro j hj e
    rw [List.length_set] at hj
    rw [getD_set _ _ _ _ _ (by rw [d.mat.len]; exact hi')] at e
    split at e
    · have := (World.ownsRow.lt ho t e).1
      have := d.tw
      have := d.chg.size
      omega
    · exact d.nt j hj e
  exact World.ownsRow.kept d1.held L.2 (by
    cases e : h.ownBlock with
    | none => exact .inl rfl
    | some k =>
      right
      intro e2
      obtain rfl : k = g := by simpa using e2
      exact (types_apart d1.mat.head d1.held (by decide)).elim (fun x => by simp [Value.ownBlock] at x) (fun x => x (by rw [e]; rfl)))
theorem Tgv.fz {cap n : Nat} (d : Tgv w wr lo hi t g (.slice (some ⟨g, 0, none⟩) n cap) h us m' hs) (i : Nat) : wr.frozen? ⟨g, i, none⟩ = false := by
  have e := d.mat.lenEq
  subst e
  exact World.ownsRow.frozenAt d.mat.head i
theorem Tgv.fin (d : Tgv w wr lo hi t g f h us m' hs) : ∀ V, V = (wr.setCell ⟨w.heap.size + 1, 0, none⟩ f).setCell ⟨w.heap.size + 1, 1, none⟩ h →
    BoxAt V (w.heap.size + 1) #[f, h] 29 ∧ RomT V lo V.heap.size t f h m' hs ∧ Chg g (g + 1) w V := by
  rintro V rfl
  have g11 := grown_tr (grown_setCell wr (w.heap.size + 1) 0 f) (grown_setCell _ (w.heap.size + 1) 1 h)
  have O11 := World.ownsRow.kept d.held g11 (.inr (d.res.offT d.held (by decide)))
  have bw : Below w.heap.size wr wr := Below.refl _ _
  exact ⟨(d.res.set 0 f).set 1 h, ⟨(MatT.keptBox ⟨_, d.mat, d.nt⟩ d.res (by decide) (by decide) g11).wider (Nat.le_refl _) g11.size, O11, OwnH.top O11⟩, d.chg.andBelow (bw.grown g11 d.chg.size (fun k hk => by cases hk; omega))⟩
end
theorem andNot_all : ∀ a : Nat, a < 32 → ∀ o : Nat, o < 5 → a % 2 ^ o = 0 → bits .andNot .i64 (a : Int) (pw o) = ((min a (budN a o) : Nat) : Int) := by decide +kernel
theorem shl_w (y : Nat) (hy : y ≤ 5) : wrap64 ((2 : Int) ^ y) = pw y := by
  have : y = 0 ∨ y = 1 ∨ y = 2 ∨ y = 3 ∨ y = 4 ∨ y = 5 := by omega
  rcases this with rfl | rfl | rfl | rfl | rfl | rfl <;> decide +kernel
/-- The held rooms without one. -/
theorem heldDrop (a o : Int) (hs : List Hl) (t : Nat) (hr : hs.Pairwise (fun x y => x.1 < y.1)) (ht : t < hs.length) (hx : hs.getD t hl0 = (a, o)) : hs.filter (fun x => decide (x.1 ≠ a)) = hs.take t ++ hs.drop (t + 1) := by
  have e1 : hs = hs.take t ++ hs.getD t hl0 :: hs.drop (t + 1) := by
    rw [List.getD_eq_getElem?_getD, List.getElem?_eq_getElem ht, Option.getD_some]
    rw [← List.drop_eq_getElem_cons ht]
    exact (List.take_append_drop t hs).symm
  rw [hx] at e1
  have hp := hr
  rw [e1] at hp
  obtain ⟨_, h2, h3⟩ := List.pairwise_append.1 hp
  have h4 := (List.pairwise_cons.1 h2).1
  conv => lhs; rw [e1]
  rw [List.filter_append, List.filter_cons, List.filter_eq_self.2 (fun x hx => by have := h3 x hx (a, o) (by simp); simp only at this; exact decide_eq_true (by omega)), if_neg (by simp), List.filter_eq_self.2 (fun x hx => by have := h4 x hx; simp only at this; exact decide_eq_true (by omega))]

set_option maxRecDepth 100000 in
set_option maxHeartbeats 6400000 in
theorem l14GiveT_calls (f h : Value) (m : List (List Int)) (hs : List Hl) (an on : Nat) (lo hi t0 : Nat) (w : World) (d : RomT w lo hi t0 f h m hs) (tw : t0 < w.heap.size) (hh : hi ≤ w.heap.size) (hk : RoomsOk m hs) (hin : ((an : Int), (on : Int)) ∈ hs) :
    Calls Try.prog 53 #[.agg #[f, h], .int .i64 (an : Int)] w fun e w' => ∃ h', e = .returned (.tuple #[.agg #[f, h'], .bool true]) ∧ RomT w' lo w'.heap.size t0 f h' (jwR (5 - on) an on m) (hs.filter fun x => decide (x.1 ≠ (an : Int))) ∧ ∀ l u, (∀ k, f.ownBlock = some k → l ≤ k ∧ k < u) → Chg l u w w' := by
  have OK := hide hk
  obtain ⟨hM, hN, h5, h32, hmod, _, _⟩ := give_is hk hin
  have HD := hide hk.heldIs
  obtain ⟨X, hX⟩ : ∃ X, X = jwR (5 - on) an on m := ⟨_, rfl⟩
  obtain ⟨Y, hY⟩ : ∃ Y, Y = hs.filter fun x => decide (x.1 ≠ (an : Int)) := ⟨_, rfl⟩
  rw [← hX, ← hY]
  have m6 := hk.len
  obtain ⟨vs, mv, nt⟩ := d.free
  obtain ⟨g, cap, rfl⟩ : ∃ g cap, f = .slice (some ⟨g, 0, none⟩) m.length cap := by
    rcases mv.head.2 with ⟨_, e⟩ | ⟨g, cap, cur, e, _⟩
    · omega
    · exact ⟨g, cap, e⟩
  have lg := World.ownsRow.lt mv.head g rfl
  have gtop := mv.top g rfl
  have h0 : 0 < hs.length := List.length_pos_of_mem hin
  have hs32 := hk.heldIs.short
  obtain ⟨b, ch, rfl, hb1, hb2, hb3, hb4⟩ := OwnH.form d.held h0
  have A0 := hide (Hand.twoN w #[.slice (some ⟨g, 0, none⟩) m.length cap, .slice (some ⟨b, 0, none⟩) hs.length ch] nilR 29 29)
  have R0 : Hid (Tgv w ((w.alloc (.cells #[.slice (some ⟨g, 0, none⟩) m.length cap, .slice (some ⟨b, 0, none⟩) hs.length ch] 29)).alloc (.cells nilR 29)) lo hi t0 g (.slice (some ⟨g, 0, none⟩) m.length cap) (.slice (some ⟨b, 0, none⟩) hs.length ch) vs m hs) :=
    ⟨A0.out.atBox 1 rfl, A0.out.atBox 0 rfl, (mv.below A0.out.below).wider (Nat.le_refl _) (Nat.le_trans hh A0.out.below.size), rowsBelow d.held A0.out.below, Chg.ofBelow A0.out.below, lg.1, gtop, hh, nt, tw⟩
  have H6 := hide m6
  have HX := hide hX
  have HY := hide hY
  have HIN := hide hin
  have HN := hide hN
  have HMOD := hide hmod
  have CM : Hid (hs.length ≤ ch ∧ ch ≤ maxLen) := ⟨hb3, hb4⟩
  have uq := hide (fun t (ht : t < hs.length) (x o : Int) (e : hs.getD t hl0 = (x, o)) (e2 : x = (an : Int)) => (show o = (on : Int) from by
    have h1 := (hk.heldIs.mem x o).1 (by rw [← e]; exact getD_memR hs t hl0 ht)
    have h2 := (hk.heldIs.mem (an : Int) (on : Int)).1 hin
    rw [e2, h2] at h1
    simpa using h1.symm))
  clear d mv nt hk hin hM hN hX hY m6 lg gtop A0 hmod hb1 hb2 hb3 hb4
  go_enter Try.func53, Try.ntmps53
  obtain ⟨w0, hw0⟩ : ∃ x, x = (w.alloc (.cells #[.slice (some ⟨g, 0, none⟩) m.length cap, .slice (some ⟨b, 0, none⟩) hs.length ch] 29)).alloc (.cells nilR 29) := ⟨_, rfl⟩
  have HW0 := hide hw0
  clear hw0
  go_wp2_with fail
  rw [← HW0.out]
  rw [← HW0.out] at R0
  have HR := hide (OwnH.rd R0.out.held)
  have y1 := R0.out.arg.c2.2
  go_loop [6] (fun v => ∃ t : Nat, t ≤ hs.length ∧ v = .int .i64 (t : Int) ∧ ∀ j, j < t → (hs.getD j hl0).1 ≠ (an : Int)) (fun v => hs.length - (intOf v).toNat)
  case atStart => exact ⟨0, Nat.zero_le _, rfl, fun j hj => by omega⟩
  case round =>
    obtain ⟨t, ht, rfl, hlow⟩ := hrel
    have HT := hide hlow
    clear hlow
    have hlt : t < hs.length := by
      apply Nat.lt_of_le_of_ne ht
      intro e
      obtain ⟨j, hj, he⟩ := List.getElem_of_mem HIN.out
      refine HT.out j (by omega) ?_
      rw [List.getD_eq_getElem?_getD, List.getElem?_eq_getElem hj, Option.getD_some, he]
    have hlt' : (t : Int) < (hs.length : Int) := by omega
    obtain ⟨b2, o2, x, z, e9, hx, _, d0, d1⟩ := HR.out.at t hlt
    simp only [Option.some.injEq, Addr.mk.injEq, and_true] at e9
    obtain ⟨rfl, rfl⟩ := e9
    rw [Nat.zero_add] at d0 d1
    have HXX := hide hx
    by_cases hxa : x = (an : Int)
    case neg =>
      have hxd : (x != (an : Int)) = true := by simpa using hxa
      clear hx d1
      go_wp2
      go_round
      case rel =>
        refine ⟨t + 1, by omega, by go_num, fun j hj => ?_⟩
        by_cases e : j = t
        · subst e; rw [HXX.out]; exact hxa
        · exact HT.out j (by omega)
      case measure => simp [intOf]; omega
    case pos =>
      have hz := uq.out t hlt x z hx hxa
      subst hz
      subst hxa
      have hxd : ((an : Int) != (an : Int)) = false := by simp
      have PE : Hid (Y = hs.take t ++ hs.drop (t + 1)) := by
        show Y = _
        rw [HY.out]
        exact heldDrop _ _ hs t HD.out.rise hlt HXX.out
      have nte : ((t : Int) == (hs.length : Int)) = false := by simp; omega
      have bb5 := below_box w0 (.cells #[] 136)
      have OL5 : Hid (OwnH (w0.alloc (.cells #[] 136)) w0.heap.size (.slice (some ⟨w0.heap.size, 0, none⟩) 0 0) []) := World.ownsRow_lit w0 #[] 0 (Nat.le_refl _) (Nat.zero_le _) rfl
      have R5 := hide (R0.out.below bb5)
      have SB5 := hide bb5.size
      have y5 := R5.out.arg.c2.2
      have ti : (t : Int) ≤ (hs.length : Int) := by omega
      have tc : (t : Int) ≤ (ch : Int) := by have := CM.out.1; omega
      have ti2 : (t : Int) + 1 ≤ (hs.length : Int) := by omega
      have tc2 : (t : Int) + 1 ≤ (ch : Int) := by have := CM.out.1; omega
      have BB5 := hide bb5
      clear bb5 hx
      go_wp2_with (at_builtin; refine wpList_app_hl rfl _ _ rfl w0.heap.size (.slice (some ⟨w0.heap.size, 0, none⟩) 0 0) rfl [] OL5.out (.slice (some ⟨b, 0, none⟩) t ch) rfl (hs.take t) ((OwnH.rd R5.out.held).cutTo t (by omega)) (by simp; omega) SB5.out ?_)
      intro v6 w6 o6 g6
      obtain ⟨a6, k6, hv6⟩ := o6.slice
      obtain ⟨l6, hl6⟩ : ∃ l, l = (hs.take t).length := ⟨_, rfl⟩
      have O6 : Hid (OwnH w6 w0.heap.size v6 (hs.take t)) := o6
      have hv6' : v6 = .slice a6 l6 k6 := by rw [hl6]; simpa using hv6
      subst hv6'
      have B6 := hide (BB5.out.grown g6 BB5.out.size (fun k hk => by have e2 : w0.heap.size = k := Option.some.inj hk; omega))
      have R6 := hide (R0.out.below B6.out)
      have y6 := R6.out.arg.c2.2
      have SB6 : Hid (w0.heap.size ≤ w6.heap.size) := B6.out.size
      clear o6 g6 hv6 hl6 OL5 R5 SB5 y5 BB5 d0 d1 hxd
      go_upto_region 8 with fail
      go_cut [] (fun wx => ∃ (a9 : Option Addr) (l9 k9 : Nat) (us9 : List Value), Tgv w wx lo hi t0 g (.slice (some ⟨g, 0, none⟩) m.length cap) (.slice a9 l9 k9) us9 m Y)
      case first =>
        by_cases hcc : t + 1 < ch
        · have hcc2 : (t : Int) + 1 < (ch : Int) := by omega
          have RX7 := hide ((OwnH.rd R6.out.held).cutFrom (t + 1) (by omega) ((t + 1) * 2) (fun _ => by omega))
          go_wp2_with (at_builtin; refine wpList_app_hl rfl _ _ rfl w0.heap.size (.slice a6 l6 k6) rfl (hs.take t) O6.out (.slice (some ⟨b, (t + 1) * 2, none⟩) (hs.length - (t + 1)) (ch - (t + 1))) rfl (hs.drop (t + 1)) RX7.out (by simp; omega) SB6.out ?_)
          intro v9 w9 o9 g9
          have B9 := hide (B6.out.grown g9 B6.out.size (fun k hk => (World.ownsRow.lt O6.out k hk).1))
          have R9 := hide (R0.out.below B9.out)
          have O9 : Hid (OwnH w9 w0.heap.size v9 Y) := by show OwnH w9 w0.heap.size v9 Y; rw [PE.out]; exact o9
          obtain ⟨a9, k9, hv9⟩ := O9.out.slice
          obtain ⟨l9, hl9⟩ : ∃ l, l = Y.length := ⟨_, rfl⟩
          rw [← hl9] at hv9
          subst hv9
          have gw := R9.out.arg.frozen 1
          have gv := R9.out.arg.c2.2
          have gx := grown_setCell w9 w.heap.size 1 (.slice a9 l9 k9)
          obtain ⟨us9, M10, NT10⟩ := MatT.keptBox ⟨_, R9.out.mat, R9.out.nt⟩ R9.out.arg (by decide) (by decide) gx
          have bw : Below w.heap.size w9 w9 := Below.refl _ _
          have LW : lo ≤ w0.heap.size := by have := R0.out.gl; have := R0.out.gh; have := R0.out.lh; have := R0.out.chg.size; omega
          have O10 := World.ownsRow.kept O9.out gx (.inr (R9.out.arg.offT O9.out (by decide)))
          have R10 : Hid (Tgv w (w9.setCell ⟨w.heap.size, 1, none⟩ (.slice a9 l9 k9)) lo hi t0 g (.slice (some ⟨g, 0, none⟩) m.length cap) (.slice a9 l9 k9) us9 m Y) := ⟨R9.out.arg.set 1 _, R9.out.res.kept gx (by simp), M10.wider (Nat.le_refl _) gx.size, rowsMono O10 LW, R9.out.chg.andBelow (bw.grown gx R9.out.chg.size (fun k hk => by cases hk; exact Nat.le_refl _)), R9.out.gl, R9.out.gh, R9.out.lh, NT10, R9.out.tw⟩
          clear gx M10 NT10 bw LW O10 O9 o9 g9 hl9 B9
          go_wp2
          go_meet
          exact ⟨_, _, _, _, R10.out⟩
        · obtain rfl : ch = t + 1 := by have := CM.out.1; omega
          have hnil : hs.drop (t + 1) = [] := List.drop_eq_nil_of_le (by have := CM.out.1; omega)
          have RX7 : Hid (∀ (q : Option Addr) (n c2 : Nat), n = hs.length - (t + 1) → c2 ≤ maxLen → (q = none → c2 = 0) → RdH w6 (.slice q n c2) (hs.drop (t + 1))) := by
            intro q n c2 e h1 h2
            obtain rfl : n = 0 := by have := CM.out.1; omega
            rw [hnil]
            exact ⟨_, c2, rfl, Nat.zero_le _, ⟨h1, h2⟩, .inl rfl⟩
          clear hnil
          go_wp2_with (at_builtin; refine wpList_app_hl rfl _ _ rfl w0.heap.size (.slice a6 l6 k6) rfl (hs.take t) O6.out _ rfl (hs.drop (t + 1)) (RX7.out _ _ _ (by first | rfl | omega) (by first | exact Nat.zero_le _ | exact Nat.le_trans (Nat.sub_le _ _) CM.out.2) (fun e => by cases e)) (by simp; omega) SB6.out ?_)
          intro v9 w9 o9 g9
          have B9 := hide (B6.out.grown g9 B6.out.size (fun k hk => (World.ownsRow.lt O6.out k hk).1))
          have R9 := hide (R0.out.below B9.out)
          have O9 : Hid (OwnH w9 w0.heap.size v9 Y) := by show OwnH w9 w0.heap.size v9 Y; rw [PE.out]; exact o9
          obtain ⟨a9, k9, hv9⟩ := O9.out.slice
          obtain ⟨l9, hl9⟩ : ∃ l, l = Y.length := ⟨_, rfl⟩
          rw [← hl9] at hv9
          subst hv9
          have gw := R9.out.arg.frozen 1
          have gv := R9.out.arg.c2.2
          have gx := grown_setCell w9 w.heap.size 1 (.slice a9 l9 k9)
          obtain ⟨us9, M10, NT10⟩ := MatT.keptBox ⟨_, R9.out.mat, R9.out.nt⟩ R9.out.arg (by decide) (by decide) gx
          have bw : Below w.heap.size w9 w9 := Below.refl _ _
          have LW : lo ≤ w0.heap.size := by have := R0.out.gl; have := R0.out.gh; have := R0.out.lh; have := R0.out.chg.size; omega
          have O10 := World.ownsRow.kept O9.out gx (.inr (R9.out.arg.offT O9.out (by decide)))
          have R10 : Hid (Tgv w (w9.setCell ⟨w.heap.size, 1, none⟩ (.slice a9 l9 k9)) lo hi t0 g (.slice (some ⟨g, 0, none⟩) m.length cap) (.slice a9 l9 k9) us9 m Y) := ⟨R9.out.arg.set 1 _, R9.out.res.kept gx (by simp), M10.wider (Nat.le_refl _) gx.size, rowsMono O10 LW, R9.out.chg.andBelow (bw.grown gx R9.out.chg.size (fun k hk => by cases hk; exact Nat.le_refl _)), R9.out.gl, R9.out.gh, R9.out.lh, NT10, R9.out.tw⟩
          clear gx M10 NT10 bw LW O10 O9 o9 g9 hl9 B9
          go_wp2
          go_meet
          exact ⟨_, _, _, _, R10.out⟩
      case rest =>
        obtain ⟨a9, l9, k9, us9, hR10⟩ := hcut
        have R10 := hide hR10
        clear hR10 O6 B6 SB6 y6 tc tc2 ti ti2 nte HT HR y1 R0 HW0
        go_wp2_with fail
        go_loopw [1, 7] (fun va vo wr => ∃ (a' o' : Nat) (G : Om) (m' : List (List Int)) (us : List Value), va = .int .i64 (a' : Int) ∧ vo = .int .i64 (o' : Int) ∧ o' ≤ 5 ∧ a' < 32 ∧ a' % 2 ^ o' = 0 ∧ AllRows G m' ∧ G.getD a' none = none ∧ jwR (5 - o') a' o' m' = X ∧ Tgv w wr lo hi t0 g (.slice (some ⟨g, 0, none⟩) m.length cap) (.slice a9 l9 k9) us m' Y) (fun _ vo _ => 5 - (intOf vo).toNat)
        case atStart => exact ⟨an, on, _, m, us9, rfl, rfl, h5, h32, HMOD.out, OK.out.all, HN.out, HX.out.symm, R10.out⟩
        case round =>
          obtain ⟨a', o', G, m', us, rfl, rfl, ho5, ha, hr, hG, hn, hj, htr⟩ := hrel
          have R3 := hide htr
          have JW := hide hj
          have GA := hide hG
          have GN := hide hn
          have HRR := hide hr
          clear htr hj hG hn hr R10
          have o6 : o' < m'.length := by rw [GA.out.six]; omega
          have om : (o' : Int) < (m.length : Int) := by have := H6.out; omega
          have hc := R3.out.mat.cell o' o6
          have ho := R3.out.mat.row o' o6
          have NI : Hid (¬ (a' : Int) ∈ m'.getD o' []) := fun hin => by
            have := ((GA.out.row o' (by omega)).mem _).1 hin
            rw [lkM_nat, GN.out] at this
            cases this
          obtain ⟨u, hu⟩ : ∃ u, u = us.getD o' nilRow := ⟨_, rfl⟩
          obtain ⟨xs, hxs⟩ : ∃ xs, xs = m'.getD o' [] := ⟨_, rfl⟩
          have xl := GA.out.short o' (by omega)
          rw [← hxs] at ho xl NI
          rw [← hu] at hc ho
          obtain ⟨au, cu, hus⟩ := row_slice ho
          obtain ⟨n0, hn0⟩ : ∃ n, n = xs.length := ⟨_, rfl⟩
          rw [← hn0] at hus
          subst hus
          have U := hide (Own.rd ho)
          have HXS := hide hxs
          clear ho hu hxs hn0
          by_cases h55 : o' = 5
          · subst h55
            have EX : Hid (m'.set 5 (putS (a' : Int) xs) = X) := by
              show _ = X
              rw [← JW.out, HXS.out]
              rfl
            have k5 : ¬ ((5 : Nat) : Int) < 5 := by omega
            have k5' : ¬ (5 : Int) < 5 := by omega
            have om5 : (5 : Int) < (m.length : Int) := by have := H6.out; omega
            go_wp2_with fail
            refine wp_region_noPanic ?_
            refine wp_region_held_drew (S := (fun w' => w'.cell? ⟨w.heap.size, 0, none⟩ = some (.slice (some ⟨g, 0, none⟩) m.length cap))) (by kernel_rfl) ((R3.out.below (Below.refl _ _).drew).arg.c2.1) (fun hHeld => ?_)
            have RD := hide (R3.out.below (Below.refl _ _).drew)
            have U1 := hide (U.out.below (Below.refl _ _).drew)
            have hc1 : (World.drew wr).cell? ⟨g, 5, none⟩ = some (.slice au n0 cu) := hc
            have HC1 := hide hc1
            clear hc hc1 U
            generalize World.drew wr = V0 at RD U1 HC1 hHeld ⊢
            refine wpAnyH_take (i := 0) (v := ?v1) rfl (by kernel_rfl) (by kernel_rfl) (by kernel_rfl) (fun _ _ _ h => h) (Or.inl ⟨by rfl, ?hy1⟩) (by assumption) ?rest1
            case hy1 => (intro w' hSw; dsimp only [List.getElem_toArray, List.getElem_cons_zero, List.getElem_cons_succ] at hSw ⊢; go_simp; try (with_reducible rfl))
            try simp only [Act.put, List.getElem_toArray, List.getElem_cons_zero, List.getElem_cons_succ, List.setIfInBounds_toArray, List.set_cons_zero, List.set_cons_succ]
            refine wpAnyH_take (i := 1) (v := ?v2) rfl (by kernel_rfl) (by kernel_rfl) (by kernel_rfl) (fun _ _ _ h => h) (Or.inl ⟨by rfl, ?hy2⟩) (by assumption) ?rest2
            case hy2 => (intro w' hSw; dsimp only [List.getElem_toArray, List.getElem_cons_zero, List.getElem_cons_succ] at hSw ⊢; go_simp; try (with_reducible rfl))
            try simp only [Act.put, List.getElem_toArray, List.getElem_cons_zero, List.getElem_cons_succ, List.setIfInBounds_toArray, List.set_cons_zero, List.set_cons_succ]
            refine wpAnyH_take (i := 2) (v := ?v3) rfl (by kernel_rfl) (by kernel_rfl) (by kernel_rfl) (fun _ _ _ h => h) (Or.inl ⟨by rfl, ?hy3⟩) (by assumption) ?rest3
            case hy3 => (intro w' hSw; dsimp only [List.getElem_toArray, List.getElem_cons_zero, List.getElem_cons_succ] at hSw ⊢; go_simp; try (with_reducible rfl))
            try simp only [Act.put, List.getElem_toArray, List.getElem_cons_zero, List.getElem_cons_succ, List.setIfInBounds_toArray, List.set_cons_zero, List.set_cons_succ]
            refine wpAnyH_take (i := 3) (v := ?v4) rfl (by kernel_rfl) (by kernel_rfl) (by kernel_rfl) (fun _ _ _ h => h) (Or.inl ⟨by rfl, ?hy4⟩) (by assumption) ?rest4
            case hy4 => (intro w' hSw; dsimp only [List.getElem_toArray, List.getElem_cons_zero, List.getElem_cons_succ] at hSw ⊢; go_simp; try (with_reducible rfl))
            try simp only [Act.put, List.getElem_toArray, List.getElem_cons_zero, List.getElem_cons_succ, List.setIfInBounds_toArray, List.set_cons_zero, List.set_cons_succ]
            refine wpAnyH_take (i := 4) (v := ?v5) rfl (by kernel_rfl) (by kernel_rfl) (by kernel_rfl) (fun _ _ _ h => h) (Or.inl ⟨by rfl, ?hy5⟩) (by assumption) ?rest5
            case hy5 => (intro w' hSw; dsimp only [List.getElem_toArray, List.getElem_cons_zero, List.getElem_cons_succ] at hSw ⊢; go_simp; try (with_reducible rfl))
            try simp only [Act.put, List.getElem_toArray, List.getElem_cons_zero, List.getElem_cons_succ, List.setIfInBounds_toArray, List.set_cons_zero, List.set_cons_succ]
            refine wpAnyH_take (i := 5) (v := ?v6) rfl (by kernel_rfl) (by kernel_rfl) (by kernel_rfl) (fun _ _ _ h => h) (Or.inl ⟨by rfl, ?hy6⟩) (by assumption) ?rest6
            case hy6 => (intro w' hSw; dsimp only [List.getElem_toArray, List.getElem_cons_zero, List.getElem_cons_succ] at hSw ⊢; go_simp; try (with_reducible rfl))
            try simp only [Act.put, List.getElem_toArray, List.getElem_cons_zero, List.getElem_cons_succ, List.setIfInBounds_toArray, List.set_cons_zero, List.set_cons_succ]
            refine wpAnyH_take (i := 6) (v := ?v7) rfl (by kernel_rfl) (by kernel_rfl) (by kernel_rfl) (fun _ _ _ h => h) (Or.inl ⟨by rfl, ?hy7⟩) (by assumption) ?rest7
            case hy7 => (intro w' hSw; dsimp only [List.getElem_toArray, List.getElem_cons_zero, List.getElem_cons_succ] at hSw ⊢; go_simp; try (with_reducible rfl))
            try simp only [Act.put, List.getElem_toArray, List.getElem_cons_zero, List.getElem_cons_succ, List.setIfInBounds_toArray, List.set_cons_zero, List.set_cons_succ]
            refine wpAnyH_take (i := 8) (v := ?v8) rfl (by kernel_rfl) (by kernel_rfl) (by kernel_rfl) (fun _ _ _ h => h) (Or.inl ⟨by rfl, ?hy8⟩) (by assumption) ?rest8
            case hy8 => (intro w' hSw; dsimp only [List.getElem_toArray, List.getElem_cons_zero, List.getElem_cons_succ] at hSw ⊢; go_simp; try (with_reducible rfl))
            try simp only [Act.put, List.getElem_toArray, List.getElem_cons_zero, List.getElem_cons_succ, List.setIfInBounds_toArray, List.set_cons_zero, List.set_cons_succ]
            refine wpAnyH_ready (rs := [7]) (by kernel_rfl) (by simp) ?_
            refine AllReadyH.cons rfl (fun K hK => ?_) AllReadyH.nil
            have nc := HC1.out
            dsimp only [List.getElem_toArray, List.getElem_cons_zero, List.getElem_cons_succ]
            go_simp
            clear nc
            refine hK.out _ _ (hHeld) (fun hHeld => ?_)
            clear hK K
            try simp only [Act.put, List.getElem_toArray, List.getElem_cons_zero, List.getElem_cons_succ, List.setIfInBounds_toArray, List.set_cons_zero, List.set_cons_succ]
            refine wpAnyH_ready (rs := [9]) (by kernel_rfl) (by simp) ?_
            refine AllReadyH.cons rfl (fun K hK => ?_) AllReadyH.nil
            dsimp only [List.getElem_toArray, List.getElem_cons_zero, List.getElem_cons_succ]
            go_simp
            refine (l1PutE_calls _ xs (a' : Int) _ U1.out (by omega)).mono ?_
            rintro e' w2 ⟨v2, rfl, hv2, b2⟩
            have O2 : Hid (Own w2 V0.heap.size v2 (putS (a' : Int) xs)) := hv2.resolve_left (fun h => NI.out (by have := (mem_putS (a' : Int) xs (a' : Int)).2 (.inl rfl); rwa [h.2] at this))
            obtain ⟨a2, c2, hv3⟩ := row_slice O2.out
            obtain ⟨l2, hl2⟩ : ∃ l, l = (putS (a' : Int) xs).length := ⟨_, rfl⟩
            rw [← hl2] at hv3
            subst hv3
            have R2 := hide (RD.out.below b2)
            have LAY := hide (RD.out.lay 5 o6 b2 O2.out)
            have hc2 := R2.out.mat.cell 5 o6
            have fz2 := R2.out.fz 5
            clear hv2 b2 O2 RD U1 HC1 hl2
            refine hK.out _ _ (R2.out.arg.c2.1) (fun hHeld => ?_)
            clear hK K
            try simp only [Act.put, List.getElem_toArray, List.getElem_cons_zero, List.getElem_cons_succ, List.setIfInBounds_toArray, List.set_cons_zero, List.set_cons_succ]
            refine wpAnyH_take (i := 10) (v := ?v9) rfl (by kernel_rfl) (by kernel_rfl) (by kernel_rfl) (fun _ _ _ h => h) (Or.inl ⟨by rfl, ?hy9⟩) (by assumption) ?rest9
            case hy9 => (intro w' hSw; dsimp only [List.getElem_toArray, List.getElem_cons_zero, List.getElem_cons_succ] at hSw ⊢; go_simp; try (with_reducible rfl))
            try simp only [Act.put, List.getElem_toArray, List.getElem_cons_zero, List.getElem_cons_succ, List.setIfInBounds_toArray, List.set_cons_zero, List.set_cons_succ]
            refine wpAnyH_ready (rs := [11]) (by kernel_rfl) (by simp) ?_
            refine AllReadyH.cons rfl (fun K hK => ?_) AllReadyH.nil
            dsimp only [List.getElem_toArray, List.getElem_cons_zero, List.getElem_cons_succ]
            go_simp
            clear hc2 fz2 R2
            refine hK.out _ _ (LAY.out.arg.c2.1) (fun hHeld => ?_)
            clear hK K
            try simp only [Act.put, List.getElem_toArray, List.getElem_cons_zero, List.getElem_cons_succ, List.setIfInBounds_toArray, List.set_cons_zero, List.set_cons_succ]
            refine wpAnyH_done (by kernel_rfl) ?_ _
            refine NoPanic.normal ?_
            clear hHeld
            generalize World.setCell w2 ⟨g, 5, none⟩ (.slice a2 l2 c2) = V9 at LAY ⊢
            have z0 := LAY.out.arg.c2.1
            have z1 := LAY.out.arg.c2.2
            have q0 := LAY.out.res.frozen 0
            have q1 := LAY.out.res.frozen 1
            have e0 := LAY.out.res.c2.1
            have e1 := LAY.out.res.c2.2
            have FIN := hide (LAY.out.fin _ rfl)
            go_wp2
            refine bodyPost_ret (res_rm2 rfl _ _ (w.heap.size + 1) _ _ (0, 0) rfl FIN.out.1) rfl ⟨_, rfl, ?_, fun l u hk => FIN.out.2.2.wider (hk g rfl).1 (hk g rfl).2⟩
            have e9 := FIN.out.2.1
            rw [EX.out] at e9
            exact e9
          · have o5 : o' < 5 := by omega
            have k5 : (o' : Int) < 5 := by omega
            obtain ⟨q1, q2, q3, q4, q5, q6⟩ := bud_all a' ha o' o5 HRR.out
            obtain ⟨p, hp⟩ : ∃ p : Int, p = (budN a' o' : Int) := ⟨_, rfl⟩
            have XB : Hid (bits .xor .i64 (a' : Int) (IntKind.i64.wrap ((2 : Int) ^ min (IntKind.u64.wrap (o' : Int)).toNat 64)) = p) := by
              show _ = p
              rw [shl_i o' (by omega), hp, xor_bud (a' : Int) o' (by omega) (by omega) o5, q1]
            have HP := hide hp
            have HS := hide (l1HasR_calls _ xs p wr U.out)
            have y0 := R3.out.arg.c2.1
            have xb := XB.out
            have xb2 : bits .xor .i64 (a' : Int) (wrap64 ((2 : Int) ^ o')) = p := by
              rw [← xb, shl_w o' (by omega), shl_i o' (by omega)]
            by_cases hb : p ∈ xs
            case neg =>
              have EX : Hid (m'.set o' (putS (a' : Int) xs) = X) := by
                show _ = X
                have e := JW.out
                rw [show 5 - o' = (5 - (o' + 1)) + 1 from by omega] at e
                unfold jwR at e
                rw [← HXS.out, ← HP.out, if_neg (fun h => hb h.2)] at e
                exact e
              rw [decide_eq_false hb] at HS
              clear hp q1 q2 q3 q4 q5 q6 hb
              go_wp2_with (go_at_call 110; refine HS.out.mono ?_; rintro e w' ⟨rfl, rfl⟩)
              clear xb xb2 y0 HS
              refine wp_region_noPanic ?_
              refine wp_region_held_drew (S := (fun w' => w'.cell? ⟨w.heap.size, 0, none⟩ = some (.slice (some ⟨g, 0, none⟩) m.length cap))) (by kernel_rfl) ((R3.out.below (Below.refl _ _).drew).arg.c2.1) (fun hHeld => ?_)
              have RD := hide (R3.out.below (Below.refl _ _).drew)
              have U1 := hide (U.out.below (Below.refl _ _).drew)
              have hc1 : (World.drew wr).cell? ⟨g, o', none⟩ = some (.slice au n0 cu) := hc
              have HC1 := hide hc1
              clear hc hc1 U
              generalize World.drew wr = V0 at RD U1 HC1 hHeld ⊢
              refine wpAnyH_take (i := 0) (v := ?v10) rfl (by kernel_rfl) (by kernel_rfl) (by kernel_rfl) (fun _ _ _ h => h) (Or.inl ⟨by rfl, ?hy10⟩) (by assumption) ?rest10
              case hy10 => (intro w' hSw; dsimp only [List.getElem_toArray, List.getElem_cons_zero, List.getElem_cons_succ] at hSw ⊢; go_simp; try (with_reducible rfl))
              try simp only [Act.put, List.getElem_toArray, List.getElem_cons_zero, List.getElem_cons_succ, List.setIfInBounds_toArray, List.set_cons_zero, List.set_cons_succ]
              refine wpAnyH_take (i := 1) (v := ?v11) rfl (by kernel_rfl) (by kernel_rfl) (by kernel_rfl) (fun _ _ _ h => h) (Or.inl ⟨by rfl, ?hy11⟩) (by assumption) ?rest11
              case hy11 => (intro w' hSw; dsimp only [List.getElem_toArray, List.getElem_cons_zero, List.getElem_cons_succ] at hSw ⊢; go_simp; try (with_reducible rfl))
              try simp only [Act.put, List.getElem_toArray, List.getElem_cons_zero, List.getElem_cons_succ, List.setIfInBounds_toArray, List.set_cons_zero, List.set_cons_succ]
              refine wpAnyH_take (i := 2) (v := ?v12) rfl (by kernel_rfl) (by kernel_rfl) (by kernel_rfl) (fun _ _ _ h => h) (Or.inl ⟨by rfl, ?hy12⟩) (by assumption) ?rest12
              case hy12 => (intro w' hSw; dsimp only [List.getElem_toArray, List.getElem_cons_zero, List.getElem_cons_succ] at hSw ⊢; go_simp; try (with_reducible rfl))
              try simp only [Act.put, List.getElem_toArray, List.getElem_cons_zero, List.getElem_cons_succ, List.setIfInBounds_toArray, List.set_cons_zero, List.set_cons_succ]
              refine wpAnyH_take (i := 3) (v := ?v13) rfl (by kernel_rfl) (by kernel_rfl) (by kernel_rfl) (fun _ _ _ h => h) (Or.inl ⟨by rfl, ?hy13⟩) (by assumption) ?rest13
              case hy13 => (intro w' hSw; dsimp only [List.getElem_toArray, List.getElem_cons_zero, List.getElem_cons_succ] at hSw ⊢; go_simp; try (with_reducible rfl))
              try simp only [Act.put, List.getElem_toArray, List.getElem_cons_zero, List.getElem_cons_succ, List.setIfInBounds_toArray, List.set_cons_zero, List.set_cons_succ]
              refine wpAnyH_take (i := 4) (v := ?v14) rfl (by kernel_rfl) (by kernel_rfl) (by kernel_rfl) (fun _ _ _ h => h) (Or.inl ⟨by rfl, ?hy14⟩) (by assumption) ?rest14
              case hy14 => (intro w' hSw; dsimp only [List.getElem_toArray, List.getElem_cons_zero, List.getElem_cons_succ] at hSw ⊢; go_simp; try (with_reducible rfl))
              try simp only [Act.put, List.getElem_toArray, List.getElem_cons_zero, List.getElem_cons_succ, List.setIfInBounds_toArray, List.set_cons_zero, List.set_cons_succ]
              refine wpAnyH_take (i := 5) (v := ?v15) rfl (by kernel_rfl) (by kernel_rfl) (by kernel_rfl) (fun _ _ _ h => h) (Or.inl ⟨by rfl, ?hy15⟩) (by assumption) ?rest15
              case hy15 => (intro w' hSw; dsimp only [List.getElem_toArray, List.getElem_cons_zero, List.getElem_cons_succ] at hSw ⊢; go_simp; try (with_reducible rfl))
              try simp only [Act.put, List.getElem_toArray, List.getElem_cons_zero, List.getElem_cons_succ, List.setIfInBounds_toArray, List.set_cons_zero, List.set_cons_succ]
              refine wpAnyH_take (i := 6) (v := ?v16) rfl (by kernel_rfl) (by kernel_rfl) (by kernel_rfl) (fun _ _ _ h => h) (Or.inl ⟨by rfl, ?hy16⟩) (by assumption) ?rest16
              case hy16 => (intro w' hSw; dsimp only [List.getElem_toArray, List.getElem_cons_zero, List.getElem_cons_succ] at hSw ⊢; go_simp; try (with_reducible rfl))
              try simp only [Act.put, List.getElem_toArray, List.getElem_cons_zero, List.getElem_cons_succ, List.setIfInBounds_toArray, List.set_cons_zero, List.set_cons_succ]
              refine wpAnyH_take (i := 8) (v := ?v17) rfl (by kernel_rfl) (by kernel_rfl) (by kernel_rfl) (fun _ _ _ h => h) (Or.inl ⟨by rfl, ?hy17⟩) (by assumption) ?rest17
              case hy17 => (intro w' hSw; dsimp only [List.getElem_toArray, List.getElem_cons_zero, List.getElem_cons_succ] at hSw ⊢; go_simp; try (with_reducible rfl))
              try simp only [Act.put, List.getElem_toArray, List.getElem_cons_zero, List.getElem_cons_succ, List.setIfInBounds_toArray, List.set_cons_zero, List.set_cons_succ]
              refine wpAnyH_ready (rs := [7]) (by kernel_rfl) (by simp) ?_
              refine AllReadyH.cons rfl (fun K hK => ?_) AllReadyH.nil
              have nc := HC1.out
              dsimp only [List.getElem_toArray, List.getElem_cons_zero, List.getElem_cons_succ]
              go_simp
              clear nc
              refine hK.out _ _ (hHeld) (fun hHeld => ?_)
              clear hK K
              try simp only [Act.put, List.getElem_toArray, List.getElem_cons_zero, List.getElem_cons_succ, List.setIfInBounds_toArray, List.set_cons_zero, List.set_cons_succ]
              refine wpAnyH_ready (rs := [9]) (by kernel_rfl) (by simp) ?_
              refine AllReadyH.cons rfl (fun K hK => ?_) AllReadyH.nil
              dsimp only [List.getElem_toArray, List.getElem_cons_zero, List.getElem_cons_succ]
              go_simp
              refine (l1PutE_calls _ xs (a' : Int) _ U1.out (by omega)).mono ?_
              rintro e' w2 ⟨v2, rfl, hv2, b2⟩
              have O2 : Hid (Own w2 V0.heap.size v2 (putS (a' : Int) xs)) := hv2.resolve_left (fun h => NI.out (by have := (mem_putS (a' : Int) xs (a' : Int)).2 (.inl rfl); rwa [h.2] at this))
              obtain ⟨a2, c2, hv3⟩ := row_slice O2.out
              obtain ⟨l2, hl2⟩ : ∃ l, l = (putS (a' : Int) xs).length := ⟨_, rfl⟩
              rw [← hl2] at hv3
              subst hv3
              have R2 := hide (RD.out.below b2)
              have LAY := hide (RD.out.lay o' o6 b2 O2.out)
              have hc2 := R2.out.mat.cell o' o6
              have fz2 := R2.out.fz o'
              clear hv2 b2 O2 RD U1 HC1 hl2
              refine hK.out _ _ (R2.out.arg.c2.1) (fun hHeld => ?_)
              clear hK K
              try simp only [Act.put, List.getElem_toArray, List.getElem_cons_zero, List.getElem_cons_succ, List.setIfInBounds_toArray, List.set_cons_zero, List.set_cons_succ]
              refine wpAnyH_take (i := 10) (v := ?v18) rfl (by kernel_rfl) (by kernel_rfl) (by kernel_rfl) (fun _ _ _ h => h) (Or.inl ⟨by rfl, ?hy18⟩) (by assumption) ?rest18
              case hy18 => (intro w' hSw; dsimp only [List.getElem_toArray, List.getElem_cons_zero, List.getElem_cons_succ] at hSw ⊢; go_simp; try (with_reducible rfl))
              try simp only [Act.put, List.getElem_toArray, List.getElem_cons_zero, List.getElem_cons_succ, List.setIfInBounds_toArray, List.set_cons_zero, List.set_cons_succ]
              refine wpAnyH_ready (rs := [11]) (by kernel_rfl) (by simp) ?_
              refine AllReadyH.cons rfl (fun K hK => ?_) AllReadyH.nil
              dsimp only [List.getElem_toArray, List.getElem_cons_zero, List.getElem_cons_succ]
              go_simp
              clear hc2 fz2 R2
              refine hK.out _ _ (LAY.out.arg.c2.1) (fun hHeld => ?_)
              clear hK K
              try simp only [Act.put, List.getElem_toArray, List.getElem_cons_zero, List.getElem_cons_succ, List.setIfInBounds_toArray, List.set_cons_zero, List.set_cons_succ]
              refine wpAnyH_done (by kernel_rfl) ?_ _
              refine NoPanic.normal ?_
              clear hHeld
              generalize World.setCell w2 ⟨g, o', none⟩ (.slice a2 l2 c2) = V9 at LAY ⊢
              have z0 := LAY.out.arg.c2.1
              have z1 := LAY.out.arg.c2.2
              have q0 := LAY.out.res.frozen 0
              have q1 := LAY.out.res.frozen 1
              have e0 := LAY.out.res.c2.1
              have e1 := LAY.out.res.c2.2
              have FIN := hide (LAY.out.fin _ rfl)
              go_wp2
              refine bodyPost_ret (res_rm2 rfl _ _ (w.heap.size + 1) _ _ (0, 0) rfl FIN.out.1) rfl ⟨_, rfl, ?_, fun l u hk => FIN.out.2.2.wider (hk g rfl).1 (hk g rfl).2⟩
              have e9 := FIN.out.2.1
              rw [EX.out] at e9
              exact e9
            case pos =>
              have AN : bits .andNot .i64 (a' : Int) (IntKind.i64.wrap ((2 : Int) ^ min (IntKind.u64.wrap (o' : Int)).toNat 64)) = ((min a' (budN a' o') : Nat) : Int) := by
                rw [shl_i o' (by omega)]
                exact andNot_all a' ha o' o5 HRR.out
              have AN2 : bits .andNot .i64 (a' : Int) (wrap64 ((2 : Int) ^ o')) = ((min a' (budN a' o') : Nat) : Int) := by
                rw [shl_w o' (by omega)]
                exact andNot_all a' ha o' o5 HRR.out
              obtain ⟨c, hc9⟩ : ∃ c, c = min a' (budN a' o') := ⟨_, rfl⟩
              have c32 : c < 32 := by omega
              have HC9 := hide hc9
              rw [← hc9] at AN AN2 q3
              have Q3 := hide q3
              have gb : G.getD (budN a' o') none = some (o' : Int) := by
                have := ((GA.out.row o' (by omega)).mem p).1 (by rw [← HXS.out]; exact hb)
                rwa [HP.out, lkM_nat] at this
              have A2 := hide (GA.out.del (budN a' o') o' q2 (by omega) gb)
              rw [← HXS.out, ← HP.out] at A2
              have GN2 : Hid ((G.set (budN a' o') none).getD c none = none) := by
                show _ = _
                rw [getD_set _ _ _ _ _ (by rw [GA.out.len]; exact q2)]
                split
                · rfl
                · rename_i e
                  have : c = a' := by omega
                  rw [this]; exact GN.out
              have JW2 : Hid (jwR (5 - (o' + 1)) c (o' + 1) (m'.set o' (xs.filter fun x => decide (x ≠ p))) = X) := by
                show _ = X
                have e := JW.out
                rw [show 5 - o' = (5 - (o' + 1)) + 1 from by omega] at e
                unfold jwR at e
                rw [← HXS.out, ← HP.out, if_pos ⟨o5, hb⟩, ← HC9.out] at e
                exact e
              rw [decide_eq_true hb] at HS
              clear hp q1 q2 q3 q4 q5 q6 hb hc9 gb
              go_wp2_with (go_at_call 110; refine HS.out.mono ?_; rintro e w' ⟨rfl, rfl⟩)
              clear xb xb2 y0 HS
              refine wp_region_noPanic ?_
              refine wp_region_held_drew (S := (fun w' => w'.cell? ⟨w.heap.size, 0, none⟩ = some (.slice (some ⟨g, 0, none⟩) m.length cap))) (by kernel_rfl) ((R3.out.below (Below.refl _ _).drew).arg.c2.1) (fun hHeld => ?_)
              have RD := hide (R3.out.below (Below.refl _ _).drew)
              have U1 := hide (U.out.below (Below.refl _ _).drew)
              have hc1 : (World.drew wr).cell? ⟨g, o', none⟩ = some (.slice au n0 cu) := hc
              have HC1 := hide hc1
              clear hc hc1 U
              generalize World.drew wr = V0 at RD U1 HC1 hHeld ⊢
              refine wpAnyH_take (i := 0) (v := ?v19) rfl (by kernel_rfl) (by kernel_rfl) (by kernel_rfl) (fun _ _ _ h => h) (Or.inl ⟨by rfl, ?hy19⟩) (by assumption) ?rest19
              case hy19 => (intro w' hSw; dsimp only [List.getElem_toArray, List.getElem_cons_zero, List.getElem_cons_succ] at hSw ⊢; go_simp; try (with_reducible rfl))
              try simp only [Act.put, List.getElem_toArray, List.getElem_cons_zero, List.getElem_cons_succ, List.setIfInBounds_toArray, List.set_cons_zero, List.set_cons_succ]
              refine wpAnyH_take (i := 1) (v := ?v20) rfl (by kernel_rfl) (by kernel_rfl) (by kernel_rfl) (fun _ _ _ h => h) (Or.inl ⟨by rfl, ?hy20⟩) (by assumption) ?rest20
              case hy20 => (intro w' hSw; dsimp only [List.getElem_toArray, List.getElem_cons_zero, List.getElem_cons_succ] at hSw ⊢; go_simp; try (with_reducible rfl))
              try simp only [Act.put, List.getElem_toArray, List.getElem_cons_zero, List.getElem_cons_succ, List.setIfInBounds_toArray, List.set_cons_zero, List.set_cons_succ]
              refine wpAnyH_take (i := 2) (v := ?v21) rfl (by kernel_rfl) (by kernel_rfl) (by kernel_rfl) (fun _ _ _ h => h) (Or.inl ⟨by rfl, ?hy21⟩) (by assumption) ?rest21
              case hy21 => (intro w' hSw; dsimp only [List.getElem_toArray, List.getElem_cons_zero, List.getElem_cons_succ] at hSw ⊢; go_simp; try (with_reducible rfl))
              try simp only [Act.put, List.getElem_toArray, List.getElem_cons_zero, List.getElem_cons_succ, List.setIfInBounds_toArray, List.set_cons_zero, List.set_cons_succ]
              refine wpAnyH_take (i := 3) (v := ?v22) rfl (by kernel_rfl) (by kernel_rfl) (by kernel_rfl) (fun _ _ _ h => h) (Or.inl ⟨by rfl, ?hy22⟩) (by assumption) ?rest22
              case hy22 => (intro w' hSw; dsimp only [List.getElem_toArray, List.getElem_cons_zero, List.getElem_cons_succ] at hSw ⊢; go_simp; try (with_reducible rfl))
              try simp only [Act.put, List.getElem_toArray, List.getElem_cons_zero, List.getElem_cons_succ, List.setIfInBounds_toArray, List.set_cons_zero, List.set_cons_succ]
              refine wpAnyH_take (i := 4) (v := ?v23) rfl (by kernel_rfl) (by kernel_rfl) (by kernel_rfl) (fun _ _ _ h => h) (Or.inl ⟨by rfl, ?hy23⟩) (by assumption) ?rest23
              case hy23 => (intro w' hSw; dsimp only [List.getElem_toArray, List.getElem_cons_zero, List.getElem_cons_succ] at hSw ⊢; go_simp; try (with_reducible rfl))
              try simp only [Act.put, List.getElem_toArray, List.getElem_cons_zero, List.getElem_cons_succ, List.setIfInBounds_toArray, List.set_cons_zero, List.set_cons_succ]
              refine wpAnyH_take (i := 5) (v := ?v24) rfl (by kernel_rfl) (by kernel_rfl) (by kernel_rfl) (fun _ _ _ h => h) (Or.inl ⟨by rfl, ?hy24⟩) (by assumption) ?rest24
              case hy24 => (intro w' hSw; dsimp only [List.getElem_toArray, List.getElem_cons_zero, List.getElem_cons_succ] at hSw ⊢; go_simp; try (with_reducible rfl))
              try simp only [Act.put, List.getElem_toArray, List.getElem_cons_zero, List.getElem_cons_succ, List.setIfInBounds_toArray, List.set_cons_zero, List.set_cons_succ]
              refine wpAnyH_take (i := 6) (v := ?v25) rfl (by kernel_rfl) (by kernel_rfl) (by kernel_rfl) (fun _ _ _ h => h) (Or.inl ⟨by rfl, ?hy25⟩) (by assumption) ?rest25
              case hy25 => (intro w' hSw; dsimp only [List.getElem_toArray, List.getElem_cons_zero, List.getElem_cons_succ] at hSw ⊢; go_simp; try (with_reducible rfl))
              try simp only [Act.put, List.getElem_toArray, List.getElem_cons_zero, List.getElem_cons_succ, List.setIfInBounds_toArray, List.set_cons_zero, List.set_cons_succ]
              refine wpAnyH_take (i := 8) (v := ?v26) rfl (by kernel_rfl) (by kernel_rfl) (by kernel_rfl) (fun _ _ _ h => h) (Or.inl ⟨by rfl, ?hy26⟩) (by assumption) ?rest26
              case hy26 => (intro w' hSw; dsimp only [List.getElem_toArray, List.getElem_cons_zero, List.getElem_cons_succ] at hSw ⊢; go_simp; try (with_reducible rfl))
              try simp only [Act.put, List.getElem_toArray, List.getElem_cons_zero, List.getElem_cons_succ, List.setIfInBounds_toArray, List.set_cons_zero, List.set_cons_succ]
              refine wpAnyH_take (i := 9) (v := ?v27) rfl (by kernel_rfl) (by kernel_rfl) (by kernel_rfl) (fun _ _ _ h => h) (Or.inl ⟨by rfl, ?hy27⟩) (by assumption) ?rest27
              case hy27 => (intro w' hSw; dsimp only [List.getElem_toArray, List.getElem_cons_zero, List.getElem_cons_succ] at hSw ⊢; go_simp; try (with_reducible rfl))
              try simp only [Act.put, List.getElem_toArray, List.getElem_cons_zero, List.getElem_cons_succ, List.setIfInBounds_toArray, List.set_cons_zero, List.set_cons_succ]
              refine wpAnyH_take (i := 10) (v := ?v28) rfl (by kernel_rfl) (by kernel_rfl) (by kernel_rfl) (fun _ _ _ h => h) (Or.inl ⟨by rfl, ?hy28⟩) (by assumption) ?rest28
              case hy28 => (intro w' hSw; dsimp only [List.getElem_toArray, List.getElem_cons_zero, List.getElem_cons_succ] at hSw ⊢; go_simp; try (with_reducible rfl))
              try simp only [Act.put, List.getElem_toArray, List.getElem_cons_zero, List.getElem_cons_succ, List.setIfInBounds_toArray, List.set_cons_zero, List.set_cons_succ]
              refine wpAnyH_take (i := 11) (v := ?v29) rfl (by kernel_rfl) (by kernel_rfl) (by kernel_rfl) (fun _ _ _ h => h) (Or.inl ⟨by rfl, ?hy29⟩) (by assumption) ?rest29
              case hy29 => (intro w' hSw; dsimp only [List.getElem_toArray, List.getElem_cons_zero, List.getElem_cons_succ] at hSw ⊢; go_simp; try (with_reducible rfl))
              try simp only [Act.put, List.getElem_toArray, List.getElem_cons_zero, List.getElem_cons_succ, List.setIfInBounds_toArray, List.set_cons_zero, List.set_cons_succ]
              refine wpAnyH_take (i := 12) (v := ?v30) rfl (by kernel_rfl) (by kernel_rfl) (by kernel_rfl) (fun _ _ _ h => h) (Or.inl ⟨by rfl, ?hy30⟩) (by assumption) ?rest30
              case hy30 => (intro w' hSw; dsimp only [List.getElem_toArray, List.getElem_cons_zero, List.getElem_cons_succ] at hSw ⊢; go_simp; try (with_reducible rfl))
              try simp only [Act.put, List.getElem_toArray, List.getElem_cons_zero, List.getElem_cons_succ, List.setIfInBounds_toArray, List.set_cons_zero, List.set_cons_succ]
              refine wpAnyH_ready (rs := [7]) (by kernel_rfl) (by simp) ?_
              refine AllReadyH.cons rfl (fun K hK => ?_) AllReadyH.nil
              have nc := HC1.out
              dsimp only [List.getElem_toArray, List.getElem_cons_zero, List.getElem_cons_succ]
              go_simp
              clear nc
              refine hK.out _ _ (hHeld) (fun hHeld => ?_)
              clear hK K
              try simp only [Act.put, List.getElem_toArray, List.getElem_cons_zero, List.getElem_cons_succ, List.setIfInBounds_toArray, List.set_cons_zero, List.set_cons_succ]
              refine wpAnyH_ready (rs := [13]) (by kernel_rfl) (by simp) ?_
              refine AllReadyH.cons rfl (fun K hK => ?_) AllReadyH.nil
              dsimp only [List.getElem_toArray, List.getElem_cons_zero, List.getElem_cons_succ]
              go_simp
              rw [XB.out]
              refine (l14Drop_calls _ xs p _ U1.out (by omega)).mono ?_
              rintro e' w2 ⟨v2, rfl, hv2, b2⟩
              have O2 : Hid (Own w2 V0.heap.size v2 (xs.filter fun x => decide (x ≠ p))) := hv2
              obtain ⟨a2, c2, hv3⟩ := row_slice O2.out
              obtain ⟨l2, hl2⟩ : ∃ l, l = (xs.filter fun x => decide (x ≠ p)).length := ⟨_, rfl⟩
              rw [← hl2] at hv3
              subst hv3
              have R2 := hide (RD.out.below b2)
              have LAY := hide (RD.out.lay o' o6 b2 O2.out)
              have hc2 := R2.out.mat.cell o' o6
              have fz2 := R2.out.fz o'
              clear hv2 b2 O2 RD U1 HC1 hl2
              refine hK.out _ _ (R2.out.arg.c2.1) (fun hHeld => ?_)
              clear hK K
              try simp only [Act.put, List.getElem_toArray, List.getElem_cons_zero, List.getElem_cons_succ, List.setIfInBounds_toArray, List.set_cons_zero, List.set_cons_succ]
              refine wpAnyH_take (i := 14) (v := ?v31) rfl (by kernel_rfl) (by kernel_rfl) (by kernel_rfl) (fun _ _ _ h => h) (Or.inl ⟨by rfl, ?hy31⟩) (by assumption) ?rest31
              case hy31 => (intro w' hSw; dsimp only [List.getElem_toArray, List.getElem_cons_zero, List.getElem_cons_succ] at hSw ⊢; go_simp; try (with_reducible rfl))
              try simp only [Act.put, List.getElem_toArray, List.getElem_cons_zero, List.getElem_cons_succ, List.setIfInBounds_toArray, List.set_cons_zero, List.set_cons_succ]
              refine wpAnyH_ready (rs := [15]) (by kernel_rfl) (by simp) ?_
              refine AllReadyH.cons rfl (fun K hK => ?_) AllReadyH.nil
              dsimp only [List.getElem_toArray, List.getElem_cons_zero, List.getElem_cons_succ]
              go_simp
              clear hc2 fz2 R2
              refine hK.out _ _ (LAY.out.arg.c2.1) (fun hHeld => ?_)
              clear hK K
              try simp only [Act.put, List.getElem_toArray, List.getElem_cons_zero, List.getElem_cons_succ, List.setIfInBounds_toArray, List.set_cons_zero, List.set_cons_succ]
              refine wpAnyH_done (by kernel_rfl) ?_ _
              refine NoPanic.normal ?_
              clear hHeld
              go_wp2
              go_roundw
              case rel => exact ⟨c, o' + 1, _, _, _, rfl, by go_num, by omega, c32, Q3.out, A2.out, GN2.out, JW2.out, LAY.out⟩
              case measure => simp [intOf] <;> omega

theorem l14Give_calls (f h : Value) (m : List (List Int)) (hs : List Hl) (an on : Nat) (lo hi : Nat) (w : World) (d : RomV w lo hi f h m hs) (hh : hi ≤ w.heap.size) (hk : RoomsOk m hs) (hin : ((an : Int), (on : Int)) ∈ hs) :
    Calls Try.prog 53 #[.agg #[f, h], .int .i64 (an : Int)] w fun e w' => ∃ h', e = .returned (.tuple #[.agg #[f, h'], .bool true]) ∧ RomV w' lo w'.heap.size f h' (jwR (5 - on) an on m) (hs.filter fun x => decide (x.1 ≠ (an : Int))) ∧ ∀ l u, (∀ k, f.ownBlock = some k → l ≤ k ∧ k < u) → Chg l u w w' := by
  obtain ⟨g, cap, rfl⟩ : ∃ g cap, f = .slice (some ⟨g, 0, none⟩) m.length cap := by
    obtain ⟨vs, mv⟩ := d.free
    have := hk.len
    rcases mv.head.2 with ⟨_, e⟩ | ⟨g, cap, cur, e, _⟩
    · omega
    · exact ⟨g, cap, e⟩
  have tw : g < w.heap.size := by
    obtain ⟨vs, mv⟩ := d.free
    exact (World.ownsRow.lt mv.head g rfl).2
  refine (l14GiveT_calls _ h m hs an on lo hi g w d.t tw hh hk hin).mono ?_
  rintro e w' ⟨h', rfl, d', c'⟩
  exact ⟨h', rfl, d'.v, c'⟩
end Go.Proofs.Ytjffjoednmlkiaa

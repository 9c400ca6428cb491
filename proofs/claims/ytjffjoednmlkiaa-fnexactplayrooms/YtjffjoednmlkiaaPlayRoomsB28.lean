/-
  Rooms taken and given back by numbers: PlayRooms of the program. The contract says what it asks.
-/
import Derived.Test.YtjffjoednmlkiaaPlayRoomsB27
import Derived.Deep.OwnRows
namespace Go.Proofs.Ytjffjoednmlkiaa
open Go.RowKit Go.Maps Go.MapKept Go.ChangeMaps
set_option linter.unusedVariables false
set_option linter.unusedSimpArgs false

theorem mk_ints (n : Nat) (hn : n ≤ 1000) (W : World) : (Instr.makeSlice 36 (.int .i64 (n : Int)) (.int .i64 (n : Int))).run Try.prog W = .ok (.slice (some ⟨W.heap.size, 0, none⟩) n n) (W.alloc (.cells (madeCells #[.int .i64 0] n) 3)) := by
  exact run_make_row' (P := Try.prog) 36 3 (.int .i64 0) 8 Try.underlying36 infoInt rfl .i64 .i64 n (by omega) (by omega) W
theorem own_made (n : Nat) (hn : n ≤ 1000) (W : World) (base : Nat) (hb : base ≤ W.heap.size) : (W.alloc (.cells (madeCells #[.int .i64 0] n) 3)).ownsRow base 3 1 (.slice (some ⟨W.heap.size, 0, none⟩) n n) n ((List.replicate n 0).map fun i => .int .i64 i) :=
  ⟨by simp, .inr ⟨W.heap.size, n, _, rfl, hb, heap_alloc_new W _, Nat.le_refl _, by unfold maxLen; omega, by simp [size_madeCells], by simp [toList_madeCells_one]⟩⟩
theorem tg_made (n : Nat) (hn : n ≤ 1000) (W : World) : TInts (.slice (some ⟨W.heap.size, 0, none⟩) n n) (List.replicate n 0) W.heap.size (W.alloc (.cells (madeCells #[.int .i64 0] n) 3)).heap.size (W.alloc (.cells (madeCells #[.int .i64 0] n) 3)) := by
  have h := own_made n hn W W.heap.size (Nat.le_refl _)
  refine ⟨?_, fun k hk => (World.ownsRow.lt h k hk).2⟩
  show World.ownsRow _ _ _ _ _ _ _
  rw [List.length_replicate]
  exact h
/-- Where the play stands: the rooms in a variable, the row that is told. -/
structure Rpp (w wx : World) (x t lo hi : Nat) (f h : Value) (m : List (List Int)) (hs : List Hl) (n : Nat) (vs : List Int) : Prop where
  res : BoxAt wx w.heap.size nilR 29
  box : BoxAt wx x #[f, h] 29
  rom : RomV wx lo hi f h m hs
  row : wx.ownsRow (w.heap.size + 1) 3 1 (.slice (some ⟨t, 0, none⟩) n n) n (vs.map fun i => .int .i64 i)
  vl : vs.length = n
  x1 : w.heap.size < x
  xo : x < lo ∨ hi ≤ x
  tq : t < lo ∨ hi ≤ t
  lo1 : w.heap.size < lo
  hi1 : hi ≤ wx.heap.size
  bel : Below w.heap.size w wx
section
variable {w wx w1 : World} {x t lo hi : Nat} {f h : Value} {m : List (List Int)} {hs : List Hl} {n : Nat} {vs : List Int}
theorem Rpp.tlt (d : Rpp w wx x t lo hi f h m hs n vs) : w.heap.size < t ∧ t < wx.heap.size := by
  have := World.ownsRow.lt d.row t rfl
  omega
theorem Rpp.xt (d : Rpp w wx x t lo hi f h m hs n vs) : x ≠ t := fun e => by
  have := d.box.offT d.row (by decide)
  exact this (by subst e; rfl)
theorem Rpp.below (d : Rpp w wx x t lo hi f h m hs n vs) (hb : Below wx.heap.size wx w1) : Rpp w w1 x t lo hi f h m hs n vs :=
  ⟨d.res.below hb, d.box.below hb, d.rom.below hb, rowsBelow d.row hb, d.vl, d.x1, d.xo, d.tq, d.lo1, Nat.le_trans d.hi1 hb.size, d.bel.trans (hb.mono d.bel.size)⟩
/-- The row is written at a place. -/
theorem Rpp.tell (d : Rpp w wx x t lo hi f h m hs n vs) (i : Nat) (v : Int) (hi' : i < n) : Rpp w (wx.setCell ⟨t, i, none⟩ (.int .i64 v)) x t lo hi f h m hs n (vs.set i v) := by
  have st := d.row.stored i (.int .i64 v)
  have g := grown_setCell wx t i (.int .i64 v)
  have c : Chg t (t + 1) wx (wx.setCell ⟨t, i, none⟩ (.int .i64 v)) := Chg.ofSetCell wx t i _ (Nat.le_refl _) (Nat.lt_succ_self _)
  have tl := d.tlt
  refine ⟨d.res.other (by omega), d.box.other d.xt, d.rom.chg c (by have := d.tq; omega), ?_, by rw [List.length_set]; exact d.vl, d.x1, d.xo, d.tq, d.lo1, Nat.le_trans d.hi1 g.size, d.bel.grown g d.bel.size (fun k hk => by cases hk; omega)⟩
  rw [List.map_set]
  exact st.1
/-- The variable is given other rooms, that lie beyond all that was there. -/
theorem Rpp.put {f' h' : Value} {X : List (List Int)} {Y : List Hl} {w5 : World} {hi5 : Nat} (d : Rpp w wx x t lo hi f h m hs n vs) (hb : Below wx.heap.size wx w5) (r : RomV w5 wx.heap.size hi5 f' h' X Y) (h5 : hi5 ≤ w5.heap.size) :
    Rpp w ((w5.setCell ⟨x, 0, none⟩ f').setCell ⟨x, 1, none⟩ h') x t wx.heap.size hi5 f' h' X Y n vs := by
  have d5 := d.below hb
  have g := grown_tr (grown_setCell w5 x 0 f') (grown_setCell _ x 1 h')
  have c : Chg x (x + 1) w5 ((w5.setCell ⟨x, 0, none⟩ f').setCell ⟨x, 1, none⟩ h') := Chg.ofGrown g (fun k hk => by cases hk; omega)
  have xl := d.box.lt
  have tl := d.tlt
  have x1 := d.x1
  have hb1 := d.bel.size
  exact ⟨(d5.res.other (by omega)).other (by omega), (d5.box.set 0 f').set 1 h', r.chg c (by omega), World.ownsRow.kept d5.row g (.inr (d5.box.offT d5.row (by decide))), d.vl, d.x1, .inl xl, .inl tl.2, by omega, Nat.le_trans h5 g.size, d5.bel.grown g d5.bel.size (fun k hk => by cases hk; omega)⟩
/-- The result's variable takes the rooms. -/
theorem Rpp.done (d : Rpp w wx x t lo hi f h m hs n vs) (f' h' : Value) :
    BoxAt ((wx.setCell ⟨w.heap.size, 0, none⟩ f').setCell ⟨w.heap.size, 1, none⟩ h') w.heap.size #[f', h'] 29 ∧ RomV ((wx.setCell ⟨w.heap.size, 0, none⟩ f').setCell ⟨w.heap.size, 1, none⟩ h') lo hi f h m hs ∧
      ((wx.setCell ⟨w.heap.size, 0, none⟩ f').setCell ⟨w.heap.size, 1, none⟩ h').ownsRow w.heap.size 3 1 (.slice (some ⟨t, 0, none⟩) n n) n (vs.map fun i => .int .i64 i) ∧ (t < lo ∨ hi ≤ t) ∧ hi ≤ ((wx.setCell ⟨w.heap.size, 0, none⟩ f').setCell ⟨w.heap.size, 1, none⟩ h').heap.size ∧
      Below w.heap.size w ((wx.setCell ⟨w.heap.size, 0, none⟩ f').setCell ⟨w.heap.size, 1, none⟩ h') := by
  have g := grown_tr (grown_setCell wx w.heap.size 0 f') (grown_setCell _ w.heap.size 1 h')
  have c : Chg w.heap.size (w.heap.size + 1) wx ((wx.setCell ⟨w.heap.size, 0, none⟩ f').setCell ⟨w.heap.size, 1, none⟩ h') := Chg.ofGrown g (fun k hk => by cases hk; omega)
  have l1 := d.lo1
  exact ⟨(d.res.set 0 f').set 1 h', d.rom.chg c (by omega), ownsRow_mono (World.ownsRow.kept d.row g (.inr (d.res.offT d.row (by decide)))) (by omega), d.tq, Nat.le_trans d.hi1 g.size, d.bel.grown g d.bel.size (fun k hk => by cases hk; omega)⟩
end

theorem start_mwb {w u : World} {x t n : Nat} {a1 a2 : Option Addr} {c1 c2 : Nat} {M0 : List (List Int)} {H0 : List Hl} {V : Nat → Int} (A : Hand w u [TRom (.slice a1 newM.length c1) (.slice a2 0 c2) newM [], TInts (.slice (some ⟨t, 0, none⟩) n n) (List.replicate n 0), TBox x #[.slice a1 newM.length c1, .slice a2 0 c2] 29, TBox w.heap.size nilR 29]) (hM : M0 = newM) (hH : H0 = []) (hn : n ≤ 1000) :
    ∃ lo hi, Rpp w u x t lo hi (.slice a1 newM.length c1) (.slice a2 0 c2) M0 H0 n (rowV V n 0) := by
  subst hM hH
  obtain ⟨lo1, hi1, ⟨_, g1⟩, l1, t1, lo2, hi2, ⟨_, g2⟩, l2, t2, lo3, hi3, ⟨_, g3⟩, l3, t3, lo4, hi4, ⟨_, g4⟩, l4, t4, b4⟩ := A.held
  have e1 := g3.1
  have e2 := g3.2.1
  have et := row_low g2.1 t rfl
  have eu := g2.2 t rfl
  have e4 := g4.2.1
  have o := ownsRow_mono g2.1 (lo' := w.heap.size + 1) (by omega)
  rw [List.length_replicate] at o
  refine ⟨lo1, hi1, g4.2.2, g3.2.2, g1, by rw [rowV_zero]; exact o, by rw [rowV_zero, List.length_replicate], by omega, by omega, by omega, by omega, by omega, A.below⟩
theorem start_mbw {w u : World} {x t n : Nat} {a1 a2 : Option Addr} {c1 c2 : Nat} {M0 : List (List Int)} {H0 : List Hl} {V : Nat → Int} (A : Hand w u [TRom (.slice a1 newM.length c1) (.slice a2 0 c2) newM [], TBox x #[.slice a1 newM.length c1, .slice a2 0 c2] 29, TInts (.slice (some ⟨t, 0, none⟩) n n) (List.replicate n 0), TBox w.heap.size nilR 29]) (hM : M0 = newM) (hH : H0 = []) (hn : n ≤ 1000) :
    ∃ lo hi, Rpp w u x t lo hi (.slice a1 newM.length c1) (.slice a2 0 c2) M0 H0 n (rowV V n 0) := by
  subst hM hH
  obtain ⟨lo1, hi1, ⟨_, g1⟩, l1, t1, lo2, hi2, ⟨_, g2⟩, l2, t2, lo3, hi3, ⟨_, g3⟩, l3, t3, lo4, hi4, ⟨_, g4⟩, l4, t4, b4⟩ := A.held
  have e1 := g2.1
  have e2 := g2.2.1
  have et := row_low g3.1 t rfl
  have eu := g3.2 t rfl
  have e4 := g4.2.1
  have o := ownsRow_mono g3.1 (lo' := w.heap.size + 1) (by omega)
  rw [List.length_replicate] at o
  refine ⟨lo1, hi1, g4.2.2, g2.2.2, g1, by rw [rowV_zero]; exact o, by rw [rowV_zero, List.length_replicate], by omega, by omega, by omega, by omega, by omega, A.below⟩
theorem start_wmb {w u : World} {x t n : Nat} {a1 a2 : Option Addr} {c1 c2 : Nat} {M0 : List (List Int)} {H0 : List Hl} {V : Nat → Int} (A : Hand w u [TInts (.slice (some ⟨t, 0, none⟩) n n) (List.replicate n 0), TRom (.slice a1 newM.length c1) (.slice a2 0 c2) newM [], TBox x #[.slice a1 newM.length c1, .slice a2 0 c2] 29, TBox w.heap.size nilR 29]) (hM : M0 = newM) (hH : H0 = []) (hn : n ≤ 1000) :
    ∃ lo hi, Rpp w u x t lo hi (.slice a1 newM.length c1) (.slice a2 0 c2) M0 H0 n (rowV V n 0) := by
  subst hM hH
  obtain ⟨lo1, hi1, ⟨_, g1⟩, l1, t1, lo2, hi2, ⟨_, g2⟩, l2, t2, lo3, hi3, ⟨_, g3⟩, l3, t3, lo4, hi4, ⟨_, g4⟩, l4, t4, b4⟩ := A.held
  have e1 := g3.1
  have e2 := g3.2.1
  have et := row_low g1.1 t rfl
  have eu := g1.2 t rfl
  have e4 := g4.2.1
  have o := ownsRow_mono g1.1 (lo' := w.heap.size + 1) (by omega)
  rw [List.length_replicate] at o
  refine ⟨lo2, hi2, g4.2.2, g3.2.2, g2, by rw [rowV_zero]; exact o, by rw [rowV_zero, List.length_replicate], by omega, by omega, by omega, by omega, by omega, A.below⟩
theorem start_wbm {w u : World} {x t n : Nat} {a1 a2 : Option Addr} {c1 c2 : Nat} {M0 : List (List Int)} {H0 : List Hl} {V : Nat → Int} (A : Hand w u [TInts (.slice (some ⟨t, 0, none⟩) n n) (List.replicate n 0), TBox x #[.slice a1 newM.length c1, .slice a2 0 c2] 29, TRom (.slice a1 newM.length c1) (.slice a2 0 c2) newM [], TBox w.heap.size nilR 29]) (hM : M0 = newM) (hH : H0 = []) (hn : n ≤ 1000) :
    ∃ lo hi, Rpp w u x t lo hi (.slice a1 newM.length c1) (.slice a2 0 c2) M0 H0 n (rowV V n 0) := by
  subst hM hH
  obtain ⟨lo1, hi1, ⟨_, g1⟩, l1, t1, lo2, hi2, ⟨_, g2⟩, l2, t2, lo3, hi3, ⟨_, g3⟩, l3, t3, lo4, hi4, ⟨_, g4⟩, l4, t4, b4⟩ := A.held
  have e1 := g2.1
  have e2 := g2.2.1
  have et := row_low g1.1 t rfl
  have eu := g1.2 t rfl
  have e4 := g4.2.1
  have o := ownsRow_mono g1.1 (lo' := w.heap.size + 1) (by omega)
  rw [List.length_replicate] at o
  refine ⟨lo3, hi3, g4.2.2, g2.2.2, g3, by rw [rowV_zero]; exact o, by rw [rowV_zero, List.length_replicate], by omega, by omega, by omega, by omega, by omega, A.below⟩
theorem start_bmw {w u : World} {x t n : Nat} {a1 a2 : Option Addr} {c1 c2 : Nat} {M0 : List (List Int)} {H0 : List Hl} {V : Nat → Int} (A : Hand w u [TBox x #[.slice a1 newM.length c1, .slice a2 0 c2] 29, TRom (.slice a1 newM.length c1) (.slice a2 0 c2) newM [], TInts (.slice (some ⟨t, 0, none⟩) n n) (List.replicate n 0), TBox w.heap.size nilR 29]) (hM : M0 = newM) (hH : H0 = []) (hn : n ≤ 1000) :
    ∃ lo hi, Rpp w u x t lo hi (.slice a1 newM.length c1) (.slice a2 0 c2) M0 H0 n (rowV V n 0) := by
  subst hM hH
  obtain ⟨lo1, hi1, ⟨_, g1⟩, l1, t1, lo2, hi2, ⟨_, g2⟩, l2, t2, lo3, hi3, ⟨_, g3⟩, l3, t3, lo4, hi4, ⟨_, g4⟩, l4, t4, b4⟩ := A.held
  have e1 := g1.1
  have e2 := g1.2.1
  have et := row_low g3.1 t rfl
  have eu := g3.2 t rfl
  have e4 := g4.2.1
  have o := ownsRow_mono g3.1 (lo' := w.heap.size + 1) (by omega)
  rw [List.length_replicate] at o
  refine ⟨lo2, hi2, g4.2.2, g1.2.2, g2, by rw [rowV_zero]; exact o, by rw [rowV_zero, List.length_replicate], by omega, by omega, by omega, by omega, by omega, A.below⟩
theorem start_bwm {w u : World} {x t n : Nat} {a1 a2 : Option Addr} {c1 c2 : Nat} {M0 : List (List Int)} {H0 : List Hl} {V : Nat → Int} (A : Hand w u [TBox x #[.slice a1 newM.length c1, .slice a2 0 c2] 29, TInts (.slice (some ⟨t, 0, none⟩) n n) (List.replicate n 0), TRom (.slice a1 newM.length c1) (.slice a2 0 c2) newM [], TBox w.heap.size nilR 29]) (hM : M0 = newM) (hH : H0 = []) (hn : n ≤ 1000) :
    ∃ lo hi, Rpp w u x t lo hi (.slice a1 newM.length c1) (.slice a2 0 c2) M0 H0 n (rowV V n 0) := by
  subst hM hH
  obtain ⟨lo1, hi1, ⟨_, g1⟩, l1, t1, lo2, hi2, ⟨_, g2⟩, l2, t2, lo3, hi3, ⟨_, g3⟩, l3, t3, lo4, hi4, ⟨_, g4⟩, l4, t4, b4⟩ := A.held
  have e1 := g1.1
  have e2 := g1.2.1
  have et := row_low g2.1 t rfl
  have eu := g2.2 t rfl
  have e4 := g4.2.1
  have o := ownsRow_mono g2.1 (lo' := w.heap.size + 1) (by omega)
  rw [List.length_replicate] at o
  refine ⟨lo3, hi3, g4.2.2, g1.2.2, g3, by rw [rowV_zero]; exact o, by rw [rowV_zero, List.length_replicate], by omega, by omega, by omega, by omega, by omega, A.below⟩

set_option maxRecDepth 100000 in
set_option maxHeartbeats 6400000 in
theorem playRooms_calls (v : Value) (ns : List Int) (X : List (List Int)) (Y : List Hl) (vs : List Int) (ok : Bool) (w : World) (h : Rd w v ns) (hw : ∀ i, i < ns.length → -9223372036854775808 ≤ ns.getD i 0) (hf : RpAt ns X Y vs ok) :
    Calls Try.prog 20 #[v] w fun e w' => ∃ f' h' v' lo hi, e = .returned (.tuple #[.agg #[f', h'], v', .bool ok]) ∧ RomV w' lo hi f' h' X Y ∧ Own w' w.heap.size v' vs ∧ (∀ k, v'.ownBlock = some k → k < lo ∨ hi ≤ k) ∧ w.heap.size ≤ lo ∧ hi ≤ w'.heap.size ∧ Below w.heap.size w w' := by
  have R := hide h
  obtain ⟨a, cap, rfl, mh, hcm, _⟩ := h
  have hm := hcm.1
  unfold maxLen at hm
  clear hcm
  have A0 := hide ((Hand.start w).box nilR 29)
  by_cases hl : ns.length ≤ 60
  case neg =>
    have hl' : (60 : Int) < (ns.length : Int) := by omega
    obtain ⟨rfl, rfl, rfl, rfl⟩ : X = [] ∧ Y = [] ∧ vs = [] ∧ ok = false := by
      rcases hf with h | h
      · exact absurd h.1 hl
      · exact h.2
    clear hf
    go_enter Try.func20, Try.ntmps20
    obtain ⟨z0, z1⟩ := (A0.out.atBox 0 rfl).c2
    go_wp2
    exact bodyPost_ret (res_rm3 rfl _ _ w.heap.size _ _ (0, 0) rfl (A0.out.atBox 0 rfl)) rfl ⟨_, _, _, w.heap.size, w.heap.size, rfl, RomV.nil _ _ _, World.ownsRow_nil _ _ _ _, fun k hk => by simp [Value.ownBlock] at hk, Nat.le_refl _, by simp, A0.out.below⟩
  have hl' : ¬ (60 : Int) < (ns.length : Int) := by omega
  obtain ⟨M, H, V, hp, hX, hY, hV, rfl⟩ : ∃ M H V, Rpl ns M H V ∧ X = M ns.length ∧ Y = H ns.length ∧ vs = tldV V ns.length ∧ ok = true := by
    rcases hf with h | h
    · exact h.2
    · exact absurd hl h.1
  have HP := hide hp
  have HW := hide hw
  have GD := hide hp.good
  subst hX hY hV
  clear hf hp hw
  go_enter Try.func20, Try.ntmps20
  go_upto_region 3 with fail
  go_cut [5, 6] (fun s5 s6 wx => ∃ (x t lo hi : Nat) (f h : Value), s5 = .pointer (some ⟨x, 0, none⟩) ∧ s6 = .slice (some ⟨t, 0, none⟩) ns.length ns.length ∧ Rpp w wx x t lo hi f h (M 0) (H 0) ns.length (rowV V ns.length 0))
  case first =>
    have NL : Hid (ns.length ≤ 1000) := by show _ ≤ _; omega
    refine wp_region_noPanic ?_
    refine wp_region_held_drew (S := fun _ => True) (by kernel_rfl) (trivial) (fun hHeld => ?_)
    have A1 := hide (A0.out.step (Below.refl _ _).drew)
    clear A0
    generalize World.drew _ = u0 at *
    refine wpAnyH_take (i := 1) (v := ?v1) rfl (by kernel_rfl) (by kernel_rfl) (by kernel_rfl) (fun _ _ _ h => h) (Or.inl ⟨by rfl, ?hy1⟩) (by assumption) ?rest1
    case hy1 => (intro w' hSw; dsimp only [List.getElem_toArray, List.getElem_cons_zero, List.getElem_cons_succ] at hSw ⊢; go_simp; try (with_reducible rfl))
    try simp only [Act.put, List.getElem_toArray, List.getElem_cons_zero, List.getElem_cons_succ, List.setIfInBounds_toArray, List.set_cons_zero, List.set_cons_succ]
    refine wpAnyH_take (i := 2) (v := ?v2) rfl (by kernel_rfl) (by kernel_rfl) (by kernel_rfl) (fun _ _ _ h => h) (Or.inl ⟨by rfl, ?hy2⟩) (by assumption) ?rest2
    case hy2 => (intro w' hSw; dsimp only [List.getElem_toArray, List.getElem_cons_zero, List.getElem_cons_succ] at hSw ⊢; go_simp; try (with_reducible rfl))
    try simp only [Act.put, List.getElem_toArray, List.getElem_cons_zero, List.getElem_cons_succ, List.setIfInBounds_toArray, List.set_cons_zero, List.set_cons_succ]
    refine wpAnyH_ready (rs := [0, 3, 4]) (by kernel_rfl) (by simp) ?_
    refine (AllReadyH.cons rfl (fun KK hK => ?_) (AllReadyH.cons rfl (fun KK hK => ?_) (AllReadyH.cons rfl (fun KK hK => ?_) AllReadyH.nil)))
    · dsimp only [List.getElem_toArray, List.getElem_cons_zero, List.getElem_cons_succ]
      go_simp
      refine (newRooms_calls _).mono ?_
      rintro e' u1 ⟨f1, h1, rfl, d1, b1⟩
      obtain ⟨a1, c1, a2, c2, rfl, rfl⟩ := d1.sl
      have A1_ := hide (A1.out.add b1 (TRom.st _ _ _ _) d1)
      clear d1 b1 A1 hHeld
      refine hK.out _ _ (trivial) (fun hHeld => ?_)
      clear hK KK
      try simp only [Act.put, List.getElem_toArray, List.getElem_cons_zero, List.getElem_cons_succ, List.setIfInBounds_toArray, List.set_cons_zero, List.set_cons_succ]
      refine wpAnyH_ready (rs := [3, 4]) (by kernel_rfl) (by simp) ?_
      refine (AllReadyH.cons rfl (fun KK hK => ?_) (AllReadyH.cons rfl (fun KK hK => ?_) AllReadyH.nil))
      · dsimp only [List.getElem_toArray, List.getElem_cons_zero, List.getElem_cons_succ]
        have MK := mk_ints ns.length NL.out
        go_simp
        clear MK
        have A2_ := hide (A1_.out.add (below_box _ _) (TInts.st _ _) (tg_made ns.length NL.out _))
        clear A1_ hHeld
        generalize World.alloc _ (.cells (madeCells #[.int .i64 0] ns.length) 3) = u3 at *
        refine hK.out _ _ (trivial) (fun hHeld => ?_)
        clear hK KK
        try simp only [Act.put, List.getElem_toArray, List.getElem_cons_zero, List.getElem_cons_succ, List.setIfInBounds_toArray, List.set_cons_zero, List.set_cons_succ]
        refine wpAnyH_ready (rs := [4]) (by kernel_rfl) (by simp) ?_
        refine (AllReadyH.cons rfl (fun KK hK => ?_) AllReadyH.nil)
        dsimp only [List.getElem_toArray, List.getElem_cons_zero, List.getElem_cons_succ]
        go_simp
        have A3_ := hide (A2_.out.box nilR 29)
        clear A2_ hHeld
        generalize World.alloc _ (.cells nilR 29) = u4 at *
        refine hK.out _ _ (trivial) (fun hHeld => ?_)
        clear hK KK
        try simp only [Act.put, List.getElem_toArray, List.getElem_cons_zero, List.getElem_cons_succ, List.setIfInBounds_toArray, List.set_cons_zero, List.set_cons_succ]
        refine wpAnyH_ready (rs := [5]) (by kernel_rfl) (by simp) ?_
        refine (AllReadyH.cons rfl (fun KK hK => ?_) AllReadyH.nil)
        obtain ⟨z0, z1⟩ := (A3_.out.atBox 0 rfl).c2
        have y0 := (A3_.out.atBox 0 rfl).frozen 0
        have y1 := (A3_.out.atBox 0 rfl).frozen 1
        dsimp only [List.getElem_toArray, List.getElem_cons_zero, List.getElem_cons_succ]
        go_simp
        clear z0 z1 y0 y1
        have A4_ := hide (A3_.out.store2 0 rfl (.slice a1 newM.length c1) (.slice a2 0 c2))
        clear A3_ hHeld
        generalize World.setCell (World.setCell _ _ _) _ _ = u5 at *
        refine hK.out _ _ (trivial) (fun hHeld => ?_)
        clear hK KK
        try simp only [Act.put, List.getElem_toArray, List.getElem_cons_zero, List.getElem_cons_succ, List.setIfInBounds_toArray, List.set_cons_zero, List.set_cons_succ]
        refine wpAnyH_ready (rs := [6]) (by kernel_rfl) (by simp) ?_
        refine AllReadyH.cons rfl (fun KK hK => ?_) AllReadyH.nil
        dsimp only [List.getElem_toArray, List.getElem_cons_zero, List.getElem_cons_succ]
        go_simp
        refine hK.out _ _ (trivial) (fun hHeld => ?_)
        clear hK KK
        try simp only [Act.put, List.getElem_toArray, List.getElem_cons_zero, List.getElem_cons_succ, List.setIfInBounds_toArray, List.set_cons_zero, List.set_cons_succ]
        refine wpAnyH_done (by kernel_rfl) ?_ _
        refine NoPanic.normal ?_
        clear hHeld
        go_wp2_with fail
        go_meet
        exact (start_bwm A4_.out HP.out.m0 HP.out.h0 NL.out).elim fun lo h => h.elim fun hi h => ⟨_, _, lo, hi, _, _, rfl, rfl, h⟩
      · dsimp only [List.getElem_toArray, List.getElem_cons_zero, List.getElem_cons_succ]
        go_simp
        have A5_ := hide (A1_.out.box nilR 29)
        clear A1_ hHeld
        generalize World.alloc _ (.cells nilR 29) = u4 at *
        refine hK.out _ _ (trivial) (fun hHeld => ?_)
        clear hK KK
        try simp only [Act.put, List.getElem_toArray, List.getElem_cons_zero, List.getElem_cons_succ, List.setIfInBounds_toArray, List.set_cons_zero, List.set_cons_succ]
        refine wpAnyH_ready (rs := [3, 5]) (by kernel_rfl) (by simp) ?_
        refine (AllReadyH.cons rfl (fun KK hK => ?_) (AllReadyH.cons rfl (fun KK hK => ?_) AllReadyH.nil))
        · dsimp only [List.getElem_toArray, List.getElem_cons_zero, List.getElem_cons_succ]
          have MK := mk_ints ns.length NL.out
          go_simp
          clear MK
          have A6_ := hide (A5_.out.add (below_box _ _) (TInts.st _ _) (tg_made ns.length NL.out _))
          clear A5_ hHeld
          generalize World.alloc _ (.cells (madeCells #[.int .i64 0] ns.length) 3) = u3 at *
          refine hK.out _ _ (trivial) (fun hHeld => ?_)
          clear hK KK
          try simp only [Act.put, List.getElem_toArray, List.getElem_cons_zero, List.getElem_cons_succ, List.setIfInBounds_toArray, List.set_cons_zero, List.set_cons_succ]
          refine wpAnyH_ready (rs := [5]) (by kernel_rfl) (by simp) ?_
          refine (AllReadyH.cons rfl (fun KK hK => ?_) AllReadyH.nil)
          obtain ⟨z0, z1⟩ := (A6_.out.atBox 1 rfl).c2
          have y0 := (A6_.out.atBox 1 rfl).frozen 0
          have y1 := (A6_.out.atBox 1 rfl).frozen 1
          dsimp only [List.getElem_toArray, List.getElem_cons_zero, List.getElem_cons_succ]
          go_simp
          clear z0 z1 y0 y1
          have A7_ := hide (A6_.out.store2 1 rfl (.slice a1 newM.length c1) (.slice a2 0 c2))
          clear A6_ hHeld
          generalize World.setCell (World.setCell _ _ _) _ _ = u5 at *
          refine hK.out _ _ (trivial) (fun hHeld => ?_)
          clear hK KK
          try simp only [Act.put, List.getElem_toArray, List.getElem_cons_zero, List.getElem_cons_succ, List.setIfInBounds_toArray, List.set_cons_zero, List.set_cons_succ]
          refine wpAnyH_ready (rs := [6]) (by kernel_rfl) (by simp) ?_
          refine AllReadyH.cons rfl (fun KK hK => ?_) AllReadyH.nil
          dsimp only [List.getElem_toArray, List.getElem_cons_zero, List.getElem_cons_succ]
          go_simp
          refine hK.out _ _ (trivial) (fun hHeld => ?_)
          clear hK KK
          try simp only [Act.put, List.getElem_toArray, List.getElem_cons_zero, List.getElem_cons_succ, List.setIfInBounds_toArray, List.set_cons_zero, List.set_cons_succ]
          refine wpAnyH_done (by kernel_rfl) ?_ _
          refine NoPanic.normal ?_
          clear hHeld
          go_wp2_with fail
          go_meet
          exact (start_wbm A7_.out HP.out.m0 HP.out.h0 NL.out).elim fun lo h => h.elim fun hi h => ⟨_, _, lo, hi, _, _, rfl, rfl, h⟩
        · obtain ⟨z0, z1⟩ := (A5_.out.atBox 0 rfl).c2
          have y0 := (A5_.out.atBox 0 rfl).frozen 0
          have y1 := (A5_.out.atBox 0 rfl).frozen 1
          dsimp only [List.getElem_toArray, List.getElem_cons_zero, List.getElem_cons_succ]
          go_simp
          clear z0 z1 y0 y1
          have A8_ := hide (A5_.out.store2 0 rfl (.slice a1 newM.length c1) (.slice a2 0 c2))
          clear A5_ hHeld
          generalize World.setCell (World.setCell _ _ _) _ _ = u5 at *
          refine hK.out _ _ (trivial) (fun hHeld => ?_)
          clear hK KK
          try simp only [Act.put, List.getElem_toArray, List.getElem_cons_zero, List.getElem_cons_succ, List.setIfInBounds_toArray, List.set_cons_zero, List.set_cons_succ]
          refine wpAnyH_ready (rs := [3]) (by kernel_rfl) (by simp) ?_
          refine (AllReadyH.cons rfl (fun KK hK => ?_) AllReadyH.nil)
          dsimp only [List.getElem_toArray, List.getElem_cons_zero, List.getElem_cons_succ]
          have MK := mk_ints ns.length NL.out
          go_simp
          clear MK
          have A9_ := hide (A8_.out.add (below_box _ _) (TInts.st _ _) (tg_made ns.length NL.out _))
          clear A8_ hHeld
          generalize World.alloc _ (.cells (madeCells #[.int .i64 0] ns.length) 3) = u3 at *
          refine hK.out _ _ (trivial) (fun hHeld => ?_)
          clear hK KK
          try simp only [Act.put, List.getElem_toArray, List.getElem_cons_zero, List.getElem_cons_succ, List.setIfInBounds_toArray, List.set_cons_zero, List.set_cons_succ]
          refine wpAnyH_ready (rs := [6]) (by kernel_rfl) (by simp) ?_
          refine AllReadyH.cons rfl (fun KK hK => ?_) AllReadyH.nil
          dsimp only [List.getElem_toArray, List.getElem_cons_zero, List.getElem_cons_succ]
          go_simp
          refine hK.out _ _ (trivial) (fun hHeld => ?_)
          clear hK KK
          try simp only [Act.put, List.getElem_toArray, List.getElem_cons_zero, List.getElem_cons_succ, List.setIfInBounds_toArray, List.set_cons_zero, List.set_cons_succ]
          refine wpAnyH_done (by kernel_rfl) ?_ _
          refine NoPanic.normal ?_
          clear hHeld
          go_wp2_with fail
          go_meet
          exact (start_wbm A9_.out HP.out.m0 HP.out.h0 NL.out).elim fun lo h => h.elim fun hi h => ⟨_, _, lo, hi, _, _, rfl, rfl, h⟩
    · dsimp only [List.getElem_toArray, List.getElem_cons_zero, List.getElem_cons_succ]
      have MK := mk_ints ns.length NL.out
      go_simp
      clear MK
      have A10_ := hide (A1.out.add (below_box _ _) (TInts.st _ _) (tg_made ns.length NL.out _))
      clear A1 hHeld
      generalize World.alloc _ (.cells (madeCells #[.int .i64 0] ns.length) 3) = u3 at *
      refine hK.out _ _ (trivial) (fun hHeld => ?_)
      clear hK KK
      try simp only [Act.put, List.getElem_toArray, List.getElem_cons_zero, List.getElem_cons_succ, List.setIfInBounds_toArray, List.set_cons_zero, List.set_cons_succ]
      refine wpAnyH_ready (rs := [0, 4]) (by kernel_rfl) (by simp) ?_
      refine (AllReadyH.cons rfl (fun KK hK => ?_) (AllReadyH.cons rfl (fun KK hK => ?_) AllReadyH.nil))
      · dsimp only [List.getElem_toArray, List.getElem_cons_zero, List.getElem_cons_succ]
        go_simp
        refine (newRooms_calls _).mono ?_
        rintro e' u1 ⟨f1, h1, rfl, d1, b1⟩
        obtain ⟨a1, c1, a2, c2, rfl, rfl⟩ := d1.sl
        have A11_ := hide (A10_.out.add b1 (TRom.st _ _ _ _) d1)
        clear d1 b1 A10_ hHeld
        refine hK.out _ _ (trivial) (fun hHeld => ?_)
        clear hK KK
        try simp only [Act.put, List.getElem_toArray, List.getElem_cons_zero, List.getElem_cons_succ, List.setIfInBounds_toArray, List.set_cons_zero, List.set_cons_succ]
        refine wpAnyH_ready (rs := [4]) (by kernel_rfl) (by simp) ?_
        refine (AllReadyH.cons rfl (fun KK hK => ?_) AllReadyH.nil)
        dsimp only [List.getElem_toArray, List.getElem_cons_zero, List.getElem_cons_succ]
        go_simp
        have A12_ := hide (A11_.out.box nilR 29)
        clear A11_ hHeld
        generalize World.alloc _ (.cells nilR 29) = u4 at *
        refine hK.out _ _ (trivial) (fun hHeld => ?_)
        clear hK KK
        try simp only [Act.put, List.getElem_toArray, List.getElem_cons_zero, List.getElem_cons_succ, List.setIfInBounds_toArray, List.set_cons_zero, List.set_cons_succ]
        refine wpAnyH_ready (rs := [5]) (by kernel_rfl) (by simp) ?_
        refine (AllReadyH.cons rfl (fun KK hK => ?_) AllReadyH.nil)
        obtain ⟨z0, z1⟩ := (A12_.out.atBox 0 rfl).c2
        have y0 := (A12_.out.atBox 0 rfl).frozen 0
        have y1 := (A12_.out.atBox 0 rfl).frozen 1
        dsimp only [List.getElem_toArray, List.getElem_cons_zero, List.getElem_cons_succ]
        go_simp
        clear z0 z1 y0 y1
        have A13_ := hide (A12_.out.store2 0 rfl (.slice a1 newM.length c1) (.slice a2 0 c2))
        clear A12_ hHeld
        generalize World.setCell (World.setCell _ _ _) _ _ = u5 at *
        refine hK.out _ _ (trivial) (fun hHeld => ?_)
        clear hK KK
        try simp only [Act.put, List.getElem_toArray, List.getElem_cons_zero, List.getElem_cons_succ, List.setIfInBounds_toArray, List.set_cons_zero, List.set_cons_succ]
        refine wpAnyH_ready (rs := [6]) (by kernel_rfl) (by simp) ?_
        refine AllReadyH.cons rfl (fun KK hK => ?_) AllReadyH.nil
        dsimp only [List.getElem_toArray, List.getElem_cons_zero, List.getElem_cons_succ]
        go_simp
        refine hK.out _ _ (trivial) (fun hHeld => ?_)
        clear hK KK
        try simp only [Act.put, List.getElem_toArray, List.getElem_cons_zero, List.getElem_cons_succ, List.setIfInBounds_toArray, List.set_cons_zero, List.set_cons_succ]
        refine wpAnyH_done (by kernel_rfl) ?_ _
        refine NoPanic.normal ?_
        clear hHeld
        go_wp2_with fail
        go_meet
        exact (start_bmw A13_.out HP.out.m0 HP.out.h0 NL.out).elim fun lo h => h.elim fun hi h => ⟨_, _, lo, hi, _, _, rfl, rfl, h⟩
      · dsimp only [List.getElem_toArray, List.getElem_cons_zero, List.getElem_cons_succ]
        go_simp
        have A14_ := hide (A10_.out.box nilR 29)
        clear A10_ hHeld
        generalize World.alloc _ (.cells nilR 29) = u4 at *
        refine hK.out _ _ (trivial) (fun hHeld => ?_)
        clear hK KK
        try simp only [Act.put, List.getElem_toArray, List.getElem_cons_zero, List.getElem_cons_succ, List.setIfInBounds_toArray, List.set_cons_zero, List.set_cons_succ]
        refine wpAnyH_ready (rs := [0]) (by kernel_rfl) (by simp) ?_
        refine (AllReadyH.cons rfl (fun KK hK => ?_) AllReadyH.nil)
        dsimp only [List.getElem_toArray, List.getElem_cons_zero, List.getElem_cons_succ]
        go_simp
        refine (newRooms_calls _).mono ?_
        rintro e' u1 ⟨f1, h1, rfl, d1, b1⟩
        obtain ⟨a1, c1, a2, c2, rfl, rfl⟩ := d1.sl
        have A15_ := hide (A14_.out.add b1 (TRom.st _ _ _ _) d1)
        clear d1 b1 A14_ hHeld
        refine hK.out _ _ (trivial) (fun hHeld => ?_)
        clear hK KK
        try simp only [Act.put, List.getElem_toArray, List.getElem_cons_zero, List.getElem_cons_succ, List.setIfInBounds_toArray, List.set_cons_zero, List.set_cons_succ]
        refine wpAnyH_ready (rs := [5]) (by kernel_rfl) (by simp) ?_
        refine (AllReadyH.cons rfl (fun KK hK => ?_) AllReadyH.nil)
        obtain ⟨z0, z1⟩ := (A15_.out.atBox 1 rfl).c2
        have y0 := (A15_.out.atBox 1 rfl).frozen 0
        have y1 := (A15_.out.atBox 1 rfl).frozen 1
        dsimp only [List.getElem_toArray, List.getElem_cons_zero, List.getElem_cons_succ]
        go_simp
        clear z0 z1 y0 y1
        have A16_ := hide (A15_.out.store2 1 rfl (.slice a1 newM.length c1) (.slice a2 0 c2))
        clear A15_ hHeld
        generalize World.setCell (World.setCell _ _ _) _ _ = u5 at *
        refine hK.out _ _ (trivial) (fun hHeld => ?_)
        clear hK KK
        try simp only [Act.put, List.getElem_toArray, List.getElem_cons_zero, List.getElem_cons_succ, List.setIfInBounds_toArray, List.set_cons_zero, List.set_cons_succ]
        refine wpAnyH_ready (rs := [6]) (by kernel_rfl) (by simp) ?_
        refine AllReadyH.cons rfl (fun KK hK => ?_) AllReadyH.nil
        dsimp only [List.getElem_toArray, List.getElem_cons_zero, List.getElem_cons_succ]
        go_simp
        refine hK.out _ _ (trivial) (fun hHeld => ?_)
        clear hK KK
        try simp only [Act.put, List.getElem_toArray, List.getElem_cons_zero, List.getElem_cons_succ, List.setIfInBounds_toArray, List.set_cons_zero, List.set_cons_succ]
        refine wpAnyH_done (by kernel_rfl) ?_ _
        refine NoPanic.normal ?_
        clear hHeld
        go_wp2_with fail
        go_meet
        exact (start_mbw A16_.out HP.out.m0 HP.out.h0 NL.out).elim fun lo h => h.elim fun hi h => ⟨_, _, lo, hi, _, _, rfl, rfl, h⟩
    · dsimp only [List.getElem_toArray, List.getElem_cons_zero, List.getElem_cons_succ]
      go_simp
      have A17_ := hide (A1.out.box nilR 29)
      clear A1 hHeld
      generalize World.alloc _ (.cells nilR 29) = u4 at *
      refine hK.out _ _ (trivial) (fun hHeld => ?_)
      clear hK KK
      try simp only [Act.put, List.getElem_toArray, List.getElem_cons_zero, List.getElem_cons_succ, List.setIfInBounds_toArray, List.set_cons_zero, List.set_cons_succ]
      refine wpAnyH_ready (rs := [0, 3]) (by kernel_rfl) (by simp) ?_
      refine (AllReadyH.cons rfl (fun KK hK => ?_) (AllReadyH.cons rfl (fun KK hK => ?_) AllReadyH.nil))
      · dsimp only [List.getElem_toArray, List.getElem_cons_zero, List.getElem_cons_succ]
        go_simp
        refine (newRooms_calls _).mono ?_
        rintro e' u1 ⟨f1, h1, rfl, d1, b1⟩
        obtain ⟨a1, c1, a2, c2, rfl, rfl⟩ := d1.sl
        have A18_ := hide (A17_.out.add b1 (TRom.st _ _ _ _) d1)
        clear d1 b1 A17_ hHeld
        refine hK.out _ _ (trivial) (fun hHeld => ?_)
        clear hK KK
        try simp only [Act.put, List.getElem_toArray, List.getElem_cons_zero, List.getElem_cons_succ, List.setIfInBounds_toArray, List.set_cons_zero, List.set_cons_succ]
        refine wpAnyH_ready (rs := [3, 5]) (by kernel_rfl) (by simp) ?_
        refine (AllReadyH.cons rfl (fun KK hK => ?_) (AllReadyH.cons rfl (fun KK hK => ?_) AllReadyH.nil))
        · dsimp only [List.getElem_toArray, List.getElem_cons_zero, List.getElem_cons_succ]
          have MK := mk_ints ns.length NL.out
          go_simp
          clear MK
          have A19_ := hide (A18_.out.add (below_box _ _) (TInts.st _ _) (tg_made ns.length NL.out _))
          clear A18_ hHeld
          generalize World.alloc _ (.cells (madeCells #[.int .i64 0] ns.length) 3) = u3 at *
          refine hK.out _ _ (trivial) (fun hHeld => ?_)
          clear hK KK
          try simp only [Act.put, List.getElem_toArray, List.getElem_cons_zero, List.getElem_cons_succ, List.setIfInBounds_toArray, List.set_cons_zero, List.set_cons_succ]
          refine wpAnyH_ready (rs := [5]) (by kernel_rfl) (by simp) ?_
          refine (AllReadyH.cons rfl (fun KK hK => ?_) AllReadyH.nil)
          obtain ⟨z0, z1⟩ := (A19_.out.atBox 2 rfl).c2
          have y0 := (A19_.out.atBox 2 rfl).frozen 0
          have y1 := (A19_.out.atBox 2 rfl).frozen 1
          dsimp only [List.getElem_toArray, List.getElem_cons_zero, List.getElem_cons_succ]
          go_simp
          clear z0 z1 y0 y1
          have A20_ := hide (A19_.out.store2 2 rfl (.slice a1 newM.length c1) (.slice a2 0 c2))
          clear A19_ hHeld
          generalize World.setCell (World.setCell _ _ _) _ _ = u5 at *
          refine hK.out _ _ (trivial) (fun hHeld => ?_)
          clear hK KK
          try simp only [Act.put, List.getElem_toArray, List.getElem_cons_zero, List.getElem_cons_succ, List.setIfInBounds_toArray, List.set_cons_zero, List.set_cons_succ]
          refine wpAnyH_ready (rs := [6]) (by kernel_rfl) (by simp) ?_
          refine AllReadyH.cons rfl (fun KK hK => ?_) AllReadyH.nil
          dsimp only [List.getElem_toArray, List.getElem_cons_zero, List.getElem_cons_succ]
          go_simp
          refine hK.out _ _ (trivial) (fun hHeld => ?_)
          clear hK KK
          try simp only [Act.put, List.getElem_toArray, List.getElem_cons_zero, List.getElem_cons_succ, List.setIfInBounds_toArray, List.set_cons_zero, List.set_cons_succ]
          refine wpAnyH_done (by kernel_rfl) ?_ _
          refine NoPanic.normal ?_
          clear hHeld
          go_wp2_with fail
          go_meet
          exact (start_wmb A20_.out HP.out.m0 HP.out.h0 NL.out).elim fun lo h => h.elim fun hi h => ⟨_, _, lo, hi, _, _, rfl, rfl, h⟩
        · obtain ⟨z0, z1⟩ := (A18_.out.atBox 1 rfl).c2
          have y0 := (A18_.out.atBox 1 rfl).frozen 0
          have y1 := (A18_.out.atBox 1 rfl).frozen 1
          dsimp only [List.getElem_toArray, List.getElem_cons_zero, List.getElem_cons_succ]
          go_simp
          clear z0 z1 y0 y1
          have A21_ := hide (A18_.out.store2 1 rfl (.slice a1 newM.length c1) (.slice a2 0 c2))
          clear A18_ hHeld
          generalize World.setCell (World.setCell _ _ _) _ _ = u5 at *
          refine hK.out _ _ (trivial) (fun hHeld => ?_)
          clear hK KK
          try simp only [Act.put, List.getElem_toArray, List.getElem_cons_zero, List.getElem_cons_succ, List.setIfInBounds_toArray, List.set_cons_zero, List.set_cons_succ]
          refine wpAnyH_ready (rs := [3]) (by kernel_rfl) (by simp) ?_
          refine (AllReadyH.cons rfl (fun KK hK => ?_) AllReadyH.nil)
          dsimp only [List.getElem_toArray, List.getElem_cons_zero, List.getElem_cons_succ]
          have MK := mk_ints ns.length NL.out
          go_simp
          clear MK
          have A22_ := hide (A21_.out.add (below_box _ _) (TInts.st _ _) (tg_made ns.length NL.out _))
          clear A21_ hHeld
          generalize World.alloc _ (.cells (madeCells #[.int .i64 0] ns.length) 3) = u3 at *
          refine hK.out _ _ (trivial) (fun hHeld => ?_)
          clear hK KK
          try simp only [Act.put, List.getElem_toArray, List.getElem_cons_zero, List.getElem_cons_succ, List.setIfInBounds_toArray, List.set_cons_zero, List.set_cons_succ]
          refine wpAnyH_ready (rs := [6]) (by kernel_rfl) (by simp) ?_
          refine AllReadyH.cons rfl (fun KK hK => ?_) AllReadyH.nil
          dsimp only [List.getElem_toArray, List.getElem_cons_zero, List.getElem_cons_succ]
          go_simp
          refine hK.out _ _ (trivial) (fun hHeld => ?_)
          clear hK KK
          try simp only [Act.put, List.getElem_toArray, List.getElem_cons_zero, List.getElem_cons_succ, List.setIfInBounds_toArray, List.set_cons_zero, List.set_cons_succ]
          refine wpAnyH_done (by kernel_rfl) ?_ _
          refine NoPanic.normal ?_
          clear hHeld
          go_wp2_with fail
          go_meet
          exact (start_wmb A22_.out HP.out.m0 HP.out.h0 NL.out).elim fun lo h => h.elim fun hi h => ⟨_, _, lo, hi, _, _, rfl, rfl, h⟩
      · dsimp only [List.getElem_toArray, List.getElem_cons_zero, List.getElem_cons_succ]
        have MK := mk_ints ns.length NL.out
        go_simp
        clear MK
        have A23_ := hide (A17_.out.add (below_box _ _) (TInts.st _ _) (tg_made ns.length NL.out _))
        clear A17_ hHeld
        generalize World.alloc _ (.cells (madeCells #[.int .i64 0] ns.length) 3) = u3 at *
        refine hK.out _ _ (trivial) (fun hHeld => ?_)
        clear hK KK
        try simp only [Act.put, List.getElem_toArray, List.getElem_cons_zero, List.getElem_cons_succ, List.setIfInBounds_toArray, List.set_cons_zero, List.set_cons_succ]
        refine wpAnyH_ready (rs := [0]) (by kernel_rfl) (by simp) ?_
        refine (AllReadyH.cons rfl (fun KK hK => ?_) AllReadyH.nil)
        dsimp only [List.getElem_toArray, List.getElem_cons_zero, List.getElem_cons_succ]
        go_simp
        refine (newRooms_calls _).mono ?_
        rintro e' u1 ⟨f1, h1, rfl, d1, b1⟩
        obtain ⟨a1, c1, a2, c2, rfl, rfl⟩ := d1.sl
        have A24_ := hide (A23_.out.add b1 (TRom.st _ _ _ _) d1)
        clear d1 b1 A23_ hHeld
        refine hK.out _ _ (trivial) (fun hHeld => ?_)
        clear hK KK
        try simp only [Act.put, List.getElem_toArray, List.getElem_cons_zero, List.getElem_cons_succ, List.setIfInBounds_toArray, List.set_cons_zero, List.set_cons_succ]
        refine wpAnyH_ready (rs := [5]) (by kernel_rfl) (by simp) ?_
        refine (AllReadyH.cons rfl (fun KK hK => ?_) AllReadyH.nil)
        obtain ⟨z0, z1⟩ := (A24_.out.atBox 2 rfl).c2
        have y0 := (A24_.out.atBox 2 rfl).frozen 0
        have y1 := (A24_.out.atBox 2 rfl).frozen 1
        dsimp only [List.getElem_toArray, List.getElem_cons_zero, List.getElem_cons_succ]
        go_simp
        clear z0 z1 y0 y1
        have A25_ := hide (A24_.out.store2 2 rfl (.slice a1 newM.length c1) (.slice a2 0 c2))
        clear A24_ hHeld
        generalize World.setCell (World.setCell _ _ _) _ _ = u5 at *
        refine hK.out _ _ (trivial) (fun hHeld => ?_)
        clear hK KK
        try simp only [Act.put, List.getElem_toArray, List.getElem_cons_zero, List.getElem_cons_succ, List.setIfInBounds_toArray, List.set_cons_zero, List.set_cons_succ]
        refine wpAnyH_ready (rs := [6]) (by kernel_rfl) (by simp) ?_
        refine AllReadyH.cons rfl (fun KK hK => ?_) AllReadyH.nil
        dsimp only [List.getElem_toArray, List.getElem_cons_zero, List.getElem_cons_succ]
        go_simp
        refine hK.out _ _ (trivial) (fun hHeld => ?_)
        clear hK KK
        try simp only [Act.put, List.getElem_toArray, List.getElem_cons_zero, List.getElem_cons_succ, List.setIfInBounds_toArray, List.set_cons_zero, List.set_cons_succ]
        refine wpAnyH_done (by kernel_rfl) ?_ _
        refine NoPanic.normal ?_
        clear hHeld
        go_wp2_with fail
        go_meet
        exact (start_mwb A25_.out HP.out.m0 HP.out.h0 NL.out).elim fun lo h => h.elim fun hi h => ⟨_, _, lo, hi, _, _, rfl, rfl, h⟩
  case rest =>
    obtain ⟨x, t, lo, hi, f, h, rfl, rfl, hP⟩ := hcut
    have P0 := hide hP
    clear hP A0
    go_wp2
    go_loopw [22] (fun vi wr => ∃ (i lo hi : Nat) (f h : Value), i ≤ ns.length ∧ vi = .int .i64 i ∧ Rpp w wr x t lo hi f h (M i) (H i) ns.length (rowV V ns.length i)) (fun vi _ => ns.length - (intOf vi).toNat)
    case atStart => exact ⟨0, lo, hi, f, h, Nat.zero_le _, rfl, P0.out⟩
    case round =>
      obtain ⟨i, lo, hi, f, h, hi', rfl, hP⟩ := hrel
      have P := hide hP
      obtain ⟨af, cf, ah, ch, rfl, rfl⟩ := hP.rom.sl
      clear hP P0
      obtain ⟨c0, c1⟩ := P.out.box.c2
      by_cases hlt : i < ns.length
      · have hlt' : (i : Int) < (ns.length : Int) := by omega
        obtain ⟨b, off, rfl, hc1⟩ := (R.out.below P.out.bel).cellAt i hlt
        have ST := hide (HP.out.step i)
        have hn := HW.out i hlt
        generalize ns.getD i 0 = n at hc1 ST hn
        have PR := hide (fun W q1 q2 => playRoom_calls n (.slice af (M i).length cf) (.slice ah (H i).length ch) (M i) (H i) (M (i + 1)) (H (i + 1)) (V i) W q1 q2 (GD.out i) hn ST.out)
        clear ST hn
        go_wp2_with fail
        refine (PR.out _ P.out.rom.rf P.out.rom.rh).mono ?_
        rintro e w5 ⟨f5, h5, X5, Y5, v5, ok5, rfl, d5, hE, b5⟩
        obtain ⟨a5, k5, a6, k6, rfl, rfl⟩ := d5.sl
        have bx := below_box w5 (.cells #[.slice a5 X5.length k5, .slice a6 Y5.length k6] 29)
        have N5 := hide (BoxAt.new w5 #[.slice a5 X5.length k5, .slice a6 Y5.length k6] 29)
        have B5 := hide (b5.trans (bx.mono b5.size))
        have D5 := hide (d5.below bx)
        have S5 : Hid (w5.heap.size ≤ (w5.alloc (.cells #[.slice a5 X5.length k5, .slice a6 Y5.length k6] 29)).heap.size) := bx.size
        have P5 := hide (P.out.below B5.out)
        have tl := P5.out.tlt
        have HE := hide hE
        clear b5 d5 bx hE c0 c1 hc1 PR
        obtain ⟨n0, n1⟩ := N5.out.c2
        obtain ⟨c0, c1⟩ := P5.out.box.c2
        have f0 := P5.out.box.frozen 0
        have f1 := P5.out.box.frozen 1
        have x0 := P5.out.row.frozenAt i
        obtain ⟨old, x1⟩ : ∃ old, (w5.alloc (.cells #[.slice a5 X5.length k5, .slice a6 Y5.length k6] 29)).cell? ⟨t, i, none⟩ = some old := by
          rw [P5.out.row.cellAt i (by omega)]
          exact ⟨_, List.getElem?_eq_getElem (by rw [List.length_map, P5.out.vl]; exact hlt)⟩
        have RS := hide (rowV_set V ns.length i hlt)
        have hxt := P5.out.xt
        have htx : ¬ t = x := fun e => hxt e.symm
        cases ok5 with
        | false =>
          have hE2 := HE.out.resolve_left (fun h => by simp at h)
          have P6 := hide (P5.out.tell i (V i) hlt)
          rw [RS.out] at P6
          have E1 := hide hE2.2.1
          have E2 := hide hE2.2.2.1
          have E3 := hide hE2.2.2.2
          rw [E3.out] at P6
          clear hE2 HE P P5 tl c0 c1 n0 n1 D5 B5 N5 S5 f0 f1
          go_wp2
          go_roundw
          case rel => exact ⟨i + 1, lo, hi, _, _, by omega, by go_num, by rw [E1.out, E2.out]; exact P6.out⟩
          case measure => simp [intOf]; omega
        | true =>
          have hE2 := HE.out.resolve_right (fun h => by simp at h)
          obtain ⟨_, eX, eY, eV⟩ := hE2
          subst eX eY eV
          have P6 := hide ((P.out.put B5.out D5.out S5.out).tell i (V i) hlt)
          rw [RS.out] at P6
          clear HE P P5 tl D5 B5 N5 S5
          go_wp2
          go_roundw
          case rel => exact ⟨i + 1, _, _, _, _, by omega, by go_num, P6.out⟩
          case measure => simp [intOf]; omega
      · obtain rfl : i = ns.length := by omega
        have q0 := P.out.res.c2.1
        have q1 := P.out.res.c2.2
        have y0 := P.out.res.frozen 0
        have y1 := P.out.res.frozen 1
        have P9 := hide (P.out.done (.slice af (M ns.length).length cf) (.slice ah (H ns.length).length ch))
        have ro := P.out.row
        rw [rowV_end] at P9
        clear ro
        go_wp2
        refine bodyPost_ret (res_rm3 rfl _ _ w.heap.size _ _ (0, 0) rfl P9.out.1) rfl ⟨_, _, _, lo, hi, rfl, P9.out.2.1, ?_, fun k hk => by cases hk; exact P9.out.2.2.2.1, by have := P.out.lo1; omega, P9.out.2.2.2.2.1, P9.out.2.2.2.2.2⟩
        have o9 := P9.out.2.2.1
        show World.ownsRow _ _ _ _ _ _ _
        rw [tldV_len]
        exact o9
end Go.Proofs.Ytjffjoednmlkiaa

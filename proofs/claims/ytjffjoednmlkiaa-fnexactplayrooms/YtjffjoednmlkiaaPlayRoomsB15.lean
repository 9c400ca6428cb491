/-
  Rooms made of two maps of places to orders: a row for each order, the held ones by their places. It asks that each free place have an order below six.
-/
import Derived.Test.YtjffjoednmlkiaaPlayRoomsB14
namespace Go.Proofs.Ytjffjoednmlkiaa
open Go.RowKit Go.Maps Go.MapKept Go.ChangeMaps
set_option linter.unusedVariables false

/-- The places of these that have an order. -/
def rowK (G : Om) (o : Nat) (ks : List Int) : List Int := ks.filter fun p => decide ((lkM G p).getD 0 = (o : Int))
def rowsK (G : Om) (ks : List Int) : List (List Int) := (List.range 6).map fun o => rowK G o ks
def heldK (G : Om) (ks : List Int) : List Hl := ks.map fun p => (p, (lkM G p).getD 0)
theorem rowsK_len (G : Om) (ks : List Int) : (rowsK G ks).length = 6 := by simp [rowsK]
theorem rowsK_get (G : Om) (ks : List Int) (o : Nat) (h : o < 6) : (rowsK G ks).getD o [] = rowK G o ks := by simp [rowsK, List.getD_eq_getElem?_getD, h]
theorem rowsK_nil (G : Om) : rowsK G [] = List.replicate 6 [] := by simp [rowsK, rowK, List.replicate, List.range, List.range.loop]
theorem rowsK_succ (G : Om) (ks : List Int) (k o : Nat) (h : k < ks.length) (ho : (lkM G (ks.getD k 0)).getD 0 = (o : Int)) (h6 : o < 6) : rowsK G (ks.take (k + 1)) = (rowsK G (ks.take k)).set o (rowK G o (ks.take k) ++ [ks.getD k 0]) := by
  refine List.ext_getElem? fun j => ?_
  rw [List.getElem?_set]
  by_cases e : o = j
  · subst e
    rw [if_pos rfl, if_pos (by rw [rowsK_len]; exact h6)]
    simp only [rowsK, List.getElem?_map, List.getElem?_range h6, Option.map_some]
    rw [take_succ_getD ks k 0 h]
    simp only [rowK, List.filter_append, List.filter_cons, List.filter_nil, ho, decide_true, if_true]
  · rw [if_neg e]
    simp only [rowsK, List.getElem?_map]
    by_cases hj : j < 6
    · rw [List.getElem?_range hj]
      simp only [Option.map_some, Option.some.injEq]
      rw [take_succ_getD ks k 0 h]
      have : ¬ ((o : Int) = (j : Int)) := by omega
      simp only [rowK, List.filter_append, List.filter_cons, List.filter_nil, ho, decide_eq_false this, Bool.false_eq_true, if_false, List.append_nil]
    · rw [List.getElem?_eq_none (by simp; omega)]
      rfl
theorem rowK_le (G : Om) (o : Nat) (ks : List Int) : (rowK G o ks).length ≤ ks.length := List.length_filter_le _ _
theorem heldK_succ (G : Om) (ks : List Int) (k : Nat) (h : k < ks.length) : heldK G (ks.take (k + 1)) = heldK G (ks.take k) ++ [(ks.getD k 0, (lkM G (ks.getD k 0)).getD 0)] := by
  rw [take_succ_getD ks k 0 h]
  simp [heldK]
theorem heldK_len (G : Om) (ks : List Int) : (heldK G ks).length = ks.length := by simp [heldK]

/-- Rows of places under way: the outer row, the rows in blocks of their own from q on, the variable, the answer, the places that are gone through. -/
structure Rfs (W : World) (q : Nat) (wr : World) (g x c : Nat) (pv : Value) (ks : List Int) (us : List Value) (m : List (List Int)) : Prop where
  head : wr.ownsRow W.heap.size 36 1 (.slice (some ⟨g, 0, none⟩) 6 6) 6 us
  rows : Rws wr q wr.heap.size us m
  six : m.length = 6
  box : BoxAt wr x #[.slice (some ⟨g, 0, none⟩) 6 6, .slice none 0 0] 29
  res : BoxAt wr c nilR 29
  pl : Own wr W.heap.size pv ks
  plq : ∀ k, pv.ownBlock = some k → k < q
  bel : Below W.heap.size W wr
  wq : W.heap.size ≤ q
  qw : q ≤ wr.heap.size
section
variable {W wr w1 : World} {q g x c : Nat} {pv : Value} {ks : List Int} {us : List Value} {m : List (List Int)}
theorem Rfs.below (h : Rfs W q wr g x c pv ks us m) (hb : Below wr.heap.size wr w1) : Rfs W q w1 g x c pv ks us m :=
  ⟨rowsBelow h.head hb, (h.rows.below hb).wider (Nat.le_refl _) hb.size, h.six, h.box.below hb, h.res.below hb, h.pl.below hb, h.plq, h.bel.trans (hb.mono h.bel.size), h.wq, Nat.le_trans h.qw hb.size⟩
theorem Rfs.app {v' : Value} {r : List Int} (h : Rfs W q wr g x c pv ks us m) (i : Nat) (hi : i < 6) (ho : Own w1 q v' r) (hg : wr.grownBy w1 (us.getD i nilRow).ownBlock) (hat : v'.ownBlock = (us.getD i nilRow).ownBlock ∨ v'.ownBlock = some wr.heap.size) :
    Rfs W q (w1.setCell ⟨g, i, none⟩ v') g x c pv ks (us.set i v') (m.set i r) := by
  have hr := h.rows.row i (by rw [h.six]; exact hi)
  have low : ∀ k, (us.getD i nilRow).ownBlock = some k → q ≤ k := fun k hk => (World.ownsRow.lt hr k hk).1
  have hk := World.ownsRow.kept h.head hg (types_apart h.head hr (by decide))
  have st := World.ownsRow.stored hk i v'
  have gl := (World.ownsRow.lt h.head g rfl).1
  have g2 := st.2
  have s1 := hg.size
  have s2 := g2.size
  have b1 : Below W.heap.size W w1 := h.bel.grown hg h.bel.size (fun j hj => Nat.le_trans h.wq (low j hj))
  refine ⟨st.1, ?_, by rw [List.length_set]; exact h.six, ?_, ?_, ?_, h.plq, b1.grown g2 b1.size (fun j hj => by cases hj; exact gl), h.wq, by have := h.qw; omega⟩
  · have P := h.rows.app i (by rw [h.six]; exact hi) ho hg hat (Nat.le_refl _)
    refine (P.kept g2 fun j hj => types_apart (P.row j hj) hk (by decide)).wider (Nat.le_refl _) s2
  · have b2 := h.box.kept hg (h.box.offT hr (by decide))
    exact b2.kept g2 (b2.offT hk (by decide))
  · have b2 := h.res.kept hg (h.res.offT hr (by decide))
    exact b2.kept g2 (b2.offT hk (by decide))
  · have b2 := World.ownsRow.kept h.pl hg (by
      cases hp : pv.ownBlock with
      | none => exact .inl rfl
      | some k =>
        right
        intro e
        have := low k e.symm
        have := h.plq k hp
        omega)
    exact World.ownsRow.kept b2 g2 (types_apart b2 hk (by decide))
end
theorem Rfs.mid {W wr w1 : World} {q g x c : Nat} {pv : Value} {ks : List Int} {us : List Value} {m : List (List Int)} (h : Rfs W q wr g x c pv ks us m) (i : Nat) (hi : i < 6) (hg : wr.grownBy w1 (us.getD i nilRow).ownBlock) :
    w1.ownsRow W.heap.size 36 1 (.slice (some ⟨g, 0, none⟩) 6 6) 6 us ∧ BoxAt w1 x #[.slice (some ⟨g, 0, none⟩) 6 6, .slice none 0 0] 29 ∧ Below W.heap.size W w1 := by
  have hr := h.rows.row i (by rw [h.six]; exact hi)
  exact ⟨World.ownsRow.kept h.head hg (types_apart h.head hr (by decide)), h.box.kept hg (h.box.offT hr (by decide)), h.bel.grown hg h.bel.size (fun j hj => Nat.le_trans h.wq (World.ownsRow.lt hr j hj).1)⟩
theorem head_cell {w : World} {lo g : Nat} {us : List Value} (h : w.ownsRow lo 36 1 (.slice (some ⟨g, 0, none⟩) 6 6) 6 us) (y : Nat) (hy : y < 6) : w.cell? ⟨g, y, none⟩ = some (us.getD y nilRow) := by
  rw [World.ownsRow.cellAt h y (by omega), List.getD_eq_getElem?_getD, List.getElem?_eq_getElem (by have := h.1; omega)]
  rfl
theorem MapAt.belowB {w w' : World} {b B : Nat} {G : Om} (h : MapAt w b G) (hb : Below B w w') (hl : b < B) : MapAt w' b G := by
  obtain ⟨es, clock, he, r⟩ := h.own
  exact ⟨h.len, es, clock, by rw [hb.block b hl]; exact he, r⟩
/-- Held rooms under way. -/
structure Hfs (W wr : World) (x c : Nat) (fs hv pv : Value) (m : List (List Int)) (hs : List Hl) (ks : List Int) : Prop where
  mat : Mat wr W.heap.size wr.heap.size fs m
  held : OwnH wr W.heap.size hv hs
  box : BoxAt wr x #[fs, hv] 29
  res : BoxAt wr c nilR 29
  pl : Own wr W.heap.size pv ks
  bel : Below W.heap.size W wr
  lx : W.heap.size ≤ x
theorem Mat.keptBox {w w' : World} {lo hi x : Nat} {v : Value} {m : List (List Int)} {cs : Array Value} {T : TypeId} (h : Mat w lo hi v m) (X : BoxAt w x cs T) (h1 : 36 ≠ T) (h2 : 3 ≠ T) (hg : w.grownBy w' (some x)) : Mat w' lo hi v m := by
  obtain ⟨vs, d⟩ := h
  exact ⟨vs, d.len, World.ownsRow.kept d.head hg (.inr (X.offT d.head h1)), fun i hi' => World.ownsRow.kept (d.row i hi') hg (.inr (X.offT (d.row i hi') h2)), d.top, d.tops, d.apart⟩
section
variable {W wr w1 : World} {x c : Nat} {fs hv pv : Value} {m : List (List Int)} {hs : List Hl} {ks : List Int}
theorem Hfs.below (h : Hfs W wr x c fs hv pv m hs ks) (hb : Below wr.heap.size wr w1) : Hfs W w1 x c fs hv pv m hs ks :=
  ⟨(h.mat.below hb).wider (Nat.le_refl _) hb.size, rowsBelow h.held hb, h.box.below hb, h.res.below hb, h.pl.below hb, h.bel.trans (hb.mono h.bel.size), h.lx⟩
theorem Hfs.app {v' : Value} {hs' : List Hl} (h : Hfs W wr x c fs hv pv m hs ks) (hne : c ≠ x) (ho : OwnH w1 W.heap.size v' hs') (hg : wr.grownBy w1 hv.ownBlock) : Hfs W (w1.setCell ⟨x, 1, none⟩ v') x c fs v' pv m hs' ks := by
  have m1 := h.mat.keptH h.held hg
  have x1 := h.box.kept hg (h.box.offT h.held (by decide))
  have r1 := h.res.kept hg (h.res.offT h.held (by decide))
  have p1 : Own w1 W.heap.size pv ks := World.ownsRow.kept h.pl hg (types_apart h.pl h.held (by decide))
  have b1 := h.bel.grown hg h.bel.size (fun j hj => h.held.low j hj)
  have g2 := grown_setCell w1 x 1 v'
  exact ⟨(m1.keptBox x1 (by decide) (by decide) g2).wider (Nat.le_refl _) (by have := hg.size; have := g2.size; omega), World.ownsRow.kept ho g2 (.inr (x1.offT ho (by decide))), by simpa using x1.set 1 v', r1.other hne, World.ownsRow.kept p1 g2 (.inr (x1.offT p1 (by decide))), b1.grown g2 b1.size (fun j hj => by cases hj; exact h.lx), h.lx⟩
end
theorem cells_two (w : World) (a b : Value) (T : TypeId) : ∀ j u, [a, b][j]? = some u → (w.alloc (.cells #[a, b] T)).cell? ((⟨w.heap.size, 0, none⟩ : Addr).add j) = some u := by
  intro j u hj
  have hadd : (⟨w.heap.size, 0, none⟩ : Addr).add j = ⟨w.heap.size, 0 + j, none⟩ := by unfold Addr.add; split <;> simp_all
  rw [hadd, Nat.zero_add]
  rcases j with _ | _ | j
  · simp at hj; subst hj; exact World.cell?_alloc_at _ _ _ _ (by simp)
  · simp at hj; subst hj; exact World.cell?_alloc_at _ _ _ _ (by simp)
  · simp at hj
theorem Rws.nils (w : World) (q hi n : Nat) : Rws w q hi (List.replicate n nilRow) (List.replicate n []) := by
  have g1 : ∀ i, i < n → (List.replicate n nilRow).getD i nilRow = nilRow := fun i hi => by simp [List.getD_eq_getElem?_getD, hi]
  have g2 : ∀ i, i < n → (List.replicate n ([] : List Int)).getD i [] = [] := fun i hi => by simp [List.getD_eq_getElem?_getD, hi]
  refine ⟨by simp, fun i hi' => ?_, fun i k hi' hk => ?_, fun i j hi' hj _ => ?_⟩
  · rw [List.length_replicate] at hi'
    rw [g1 i hi', g2 i hi']
    exact World.ownsRow_nil _ _ _ _
  · rw [List.length_replicate] at hi'
    rw [g1 i hi'] at hk
    simp [Value.ownBlock] at hk
  · rw [List.length_replicate] at hi'
    rw [g1 i hi']
    exact .inl rfl
theorem lkM_small {G : Om} (hv : ∀ p x, G.getD p none = some x → 0 ≤ x ∧ x ≤ 5) (k : Int) : 0 ≤ (lkM G k).getD 0 ∧ (lkM G k).getD 0 ≤ 5 := by
  cases hl : lkM G k with
  | none => simp
  | some x =>
    obtain ⟨_, _, h⟩ := lkM_some hl
    exact hv _ _ h

set_option linter.unusedSimpArgs false in
set_option maxRecDepth 100000 in
set_option maxHeartbeats 6400000 in
theorem roomsFrom_calls (b d : Nat) (F G : Om) (w : World) (hb : MapAt w b F) (hd : MapAt w d G) (hv : ∀ p x, F.getD p none = some x → 0 ≤ x ∧ x ≤ 5) :
    Calls Try.prog 60 #[.map (some b), .map (some d)] w fun e w' => ∃ f h, e = .returned (.agg #[f, h]) ∧ RomV w' w.heap.size w'.heap.size f h (rowsK F (keysG F)) (heldK G (keysG G)) ∧ Below w.heap.size w w' := by
  have MF := hide hb
  have MG := hide hd
  have HV := hide (lkM_small hv)
  have KL := hide (keysG_in F hb.len)
  have kl : (keysG F).length ≤ 32 := by have := keysG_len F; rw [hb.len] at this; exact this
  have A0 := hide ((Hand.start w).box nilR 29)
  clear hb hd hv
  go_enter Try.func60, Try.ntmps60
  go_wp2_with (at_make; refine wpList_make_rows rfl _ _ rfl _ _ 6 rfl rfl rfl rfl (by omega) ?_)
  intro w1 mv g1
  have H1 := hide (rowsMono mv.head (Nat.le_succ w.heap.size))
  have S1 := hide g1.size
  have b1 : Below w.heap.size w w1 := A0.out.below.grown g1 A0.out.below.size (fun k h => by cases h)
  have X0 : Hid (BoxAt w1 w.heap.size nilR 29) := (A0.out.atBox 0 rfl).kept g1 (by simp)
  have gb := (World.ownsRow.lt mv.head (w.heap.size + 1) rfl).2
  have x1 := BoxAt.new w1 #[.slice (some ⟨w.heap.size + 1, 0, none⟩) 6 6, .slice none 0 0] 29
  have bb := below_box w1 (.cells #[.slice (some ⟨w.heap.size + 1, 0, none⟩) 6 6, .slice none 0 0] 29)
  have H2 := hide (rowsBelow H1.out bb)
  have X2 := hide (X0.out.below bb)
  have B2 := hide (b1.trans (bb.mono b1.size))
  obtain ⟨x, hx⟩ : ∃ x, x = w1.heap.size := ⟨_, rfl⟩
  have XL : Hid (w.heap.size ≤ x) := by show _ ≤ _; have := b1.size; omega
  rw [← hx] at x1
  have X1 := hide x1
  have HX := hide hx
  clear mv g1 b1 A0 x1 bb H1 X0 hx
  go_wp2_with fail
  rw [← HX.out]
  generalize w1.alloc (.cells #[.slice (some ⟨w.heap.size + 1, 0, none⟩) 6 6, .slice none 0 0] 29) = w2 at *
  clear HX S1 gb
  refine (places_calls b F w2 (MF.out.belowB B2.out MF.out.lt)).mono ?_
  rintro e w3 ⟨v3, rfl, o3, b3⟩
  have R0 : Hid (Rfs w w3.heap.size w3 (w.heap.size + 1) x w.heap.size v3 (keysG F) (List.replicate 6 nilRow) (rowsK F [])) := by
    show Rfs _ _ _ _ _ _ _ _ _ _
    rw [rowsK_nil]
    exact ⟨rowsBelow H2.out b3, Rws.nils _ _ _ _, by simp, X1.out.below b3, X2.out.below b3, o3.mono B2.out.size, row_top o3, B2.out.trans (b3.mono B2.out.size), Nat.le_trans B2.out.size b3.size, Nat.le_refl _⟩
  obtain ⟨a3, c3, rfl⟩ := row_slice o3
  obtain ⟨ks, hks⟩ : ∃ ks, ks = keysG F := ⟨_, rfl⟩
  rw [← hks] at KL kl R0 ⊢
  have HK := hide hks
  obtain ⟨q, hq⟩ : ∃ q, q = w3.heap.size := ⟨_, rfl⟩
  rw [← hq] at R0
  clear o3 b3 H2 X1 X2 B2 hks hq
  go_wp2_with fail
  go_loopw [15] (fun v wr => ∃ (k : Nat) (us : List Value), k ≤ ks.length ∧ v = .int .i64 (k : Int) ∧ Rfs w q wr (w.heap.size + 1) x w.heap.size (.slice a3 ks.length c3) ks us (rowsK F (ks.take k))) (fun v _ => ks.length - (intOf v).toNat)
  case atStart => exact ⟨0, _, Nat.zero_le _, rfl, R0.out⟩
  case round =>
    obtain ⟨k, us, hk, rfl, hr⟩ := hrel
    have R := hide hr
    clear hr R0
    by_cases hlt : k < ks.length
    · have hlt' : (k : Int) < (ks.length : Int) := by omega
      obtain ⟨bb, off, rfl, hc⟩ := (Own.rd R.out.pl).cellAt k hlt
      have SU := hide (rowsK_succ F ks k)
      obtain ⟨p, hp⟩ : ∃ p, p = ks.getD k 0 := ⟨_, rfl⟩
      have hin := KL.out k hlt
      have hy := HV.out p
      rw [← hp] at hc SU hin
      obtain ⟨y, hye⟩ : ∃ y : Nat, (lkM F p).getD 0 = (y : Int) := ⟨((lkM F p).getD 0).toNat, by omega⟩
      have y6 : y < 6 := by omega
      have SU2 := hide (SU.out y hlt hye y6)
      have LK : Hid (∀ w', Below w.heap.size w w' → (Instr.lookup 85 (.map (some b)) (.int .i64 p) false).run Try.prog w' = .ok (.int .i64 (y : Int)) w') := by
        intro w' hw'
        have := (MF.out.belowB hw' MF.out.lt).look (k := p) (wfI_small (by omega) (by omega))
        rw [hye] at this
        exact this
      have hu := R.out.rows.row y (by rw [rowsK_len]; exact y6)
      rw [rowsK_get F _ y y6] at hu
      have rl := rowK_le F y (ks.take k)
      have rl2 : (rowK F y (ks.take k)).length ≤ 32 := by
        have : (ks.take k).length ≤ k := by simp; omega
        omega
      obtain ⟨u, hue⟩ : ∃ u, u = us.getD y nilRow := ⟨_, rfl⟩
      have HU := hide hue
      rw [← hue] at hu
      obtain ⟨au, cu, hus⟩ := row_slice hu
      obtain ⟨r, hre⟩ : ∃ r, r = rowK F y (ks.take k) := ⟨_, rfl⟩
      rw [← hre] at hu rl2 hus SU2
      have OU := hide hu
      have HR := hide hre
      subst hus
      clear hp hin hy hye SU hu rl hue hre
      have SF : Hid (∀ w', Rfs w q w' (w.heap.size + 1) x w.heap.size (.slice (some ⟨bb, off, none⟩) ks.length c3) ks us (rowsK F (ks.take k)) → w'.cell? ⟨x, 0, none⟩ = some (.slice (some ⟨w.heap.size + 1, 0, none⟩) 6 6) ∧ (Instr.lookup 85 (.map (some b)) (.int .i64 p) false).run Try.prog w' = .ok (.int .i64 (y : Int)) w') := by
        intro w' h
        exact ⟨h.box.cell 0, LK.out _ h.bel⟩
      have CF : Hid (∀ w', Rfs w q w' (w.heap.size + 1) x w.heap.size (.slice (some ⟨bb, off, none⟩) ks.length c3) ks us (rowsK F (ks.take k)) → w'.cell? ⟨w.heap.size + 1, y, none⟩ = some (.slice au r.length cu)) := by
        intro w' h
        rw [head_cell h.head y y6, ← HU.out]
      have y6i : (y : Int) < 6 := by omega
      go_wp2_with fail
      refine wp_region_noPanic ?_
      refine wp_region_held_drew (S := (fun w' => w'.cell? ⟨x, 0, none⟩ = some (.slice (some ⟨w.heap.size + 1, 0, none⟩) 6 6) ∧ (Instr.lookup 85 (.map (some b)) (.int .i64 p) false).run Try.prog w' = .ok (.int .i64 (y : Int)) w')) (by kernel_rfl) (SF.out _ (R.out.below (Below.refl _ _).drew)) (fun hHeld => ?_)
      have R5 := hide (R.out.below (Below.refl _ _).drew)
      have OU5 : Hid (Own (World.drew wr) q (.slice au r.length cu) r) := OU.out.below (Below.refl _ _).drew
      clear R OU hc
      generalize World.drew _ = V0 at *
      refine wpAnyH_take (i := 0) (v := ?v1) rfl (by kernel_rfl) (by kernel_rfl) (by kernel_rfl) (fun _ _ _ h => h) (Or.inl ⟨by rfl, ?hy1⟩) (by assumption) ?rest1
      case hy1 => (intro w' hSw; dsimp only [List.getElem_toArray, List.getElem_cons_zero, List.getElem_cons_succ] at hSw ⊢; go_simp; try (with_reducible rfl))
      try simp only [Act.put, List.getElem_toArray, List.getElem_cons_zero, List.getElem_cons_succ, List.setIfInBounds_toArray, List.set_cons_zero, List.set_cons_succ]
      refine wpAnyH_take (i := 1) (v := ?v2) rfl (by kernel_rfl) (by kernel_rfl) (by kernel_rfl) (fun _ _ _ h => h) (Or.inl ⟨by rfl, ?hy2⟩) (by assumption) ?rest2
      case hy2 => (intro w' hSw; dsimp only [List.getElem_toArray, List.getElem_cons_zero, List.getElem_cons_succ] at hSw ⊢; go_simp; try (with_reducible rfl))
      try simp only [Act.put, List.getElem_toArray, List.getElem_cons_zero, List.getElem_cons_succ, List.setIfInBounds_toArray, List.set_cons_zero, List.set_cons_succ]
      refine wpAnyH_take (i := 2) (v := ?v3) rfl (by kernel_rfl) (by kernel_rfl) (by kernel_rfl) (fun _ _ _ h => h) (Or.inl ⟨by rfl, ?hy3⟩) (by assumption) ?rest3
      case hy3 => (intro w' hSw; dsimp only [List.getElem_toArray, List.getElem_cons_zero, List.getElem_cons_succ] at hSw ⊢; go_simp; try (with_reducible rfl))
      try simp only [Act.put, List.getElem_toArray, List.getElem_cons_zero, List.getElem_cons_succ, List.setIfInBounds_toArray, List.set_cons_zero, List.set_cons_succ]
      refine wpAnyH_take (i := 3) (v := ?v4) rfl (by kernel_rfl) (by kernel_rfl) (by kernel_rfl) (fun _ _ _ h => h) (Or.inl ⟨by rfl, ?hy4⟩) (by assumption) ?rest4
      case hy4 => (intro w' hSw; dsimp only [List.getElem_toArray, List.getElem_cons_zero, List.getElem_cons_succ] at hSw ⊢; go_simp; try (with_reducible rfl))
      try simp only [Act.put, List.getElem_toArray, List.getElem_cons_zero, List.getElem_cons_succ, List.setIfInBounds_toArray, List.set_cons_zero, List.set_cons_succ]
      refine wpAnyH_take (i := 4) (v := ?v5) rfl (by kernel_rfl) (by kernel_rfl) (by kernel_rfl) (fun _ _ _ h => h) (Or.inl ⟨by rfl, ?hy5⟩) (by assumption) ?rest5
      case hy5 => (intro w' hSw; dsimp only [List.getElem_toArray, List.getElem_cons_zero, List.getElem_cons_succ] at hSw ⊢; go_simp; try (with_reducible rfl))
      try simp only [Act.put, List.getElem_toArray, List.getElem_cons_zero, List.getElem_cons_succ, List.setIfInBounds_toArray, List.set_cons_zero, List.set_cons_succ]
      refine wpAnyH_take (i := 5) (v := ?v6) rfl (by kernel_rfl) (by kernel_rfl) (by kernel_rfl) (fun _ _ _ h => h) (Or.inl ⟨by rfl, ?hy6⟩) (by assumption) ?rest6
      case hy6 => (intro w' hSw; dsimp only [List.getElem_toArray, List.getElem_cons_zero, List.getElem_cons_succ] at hSw ⊢; go_simp; try (with_reducible rfl))
      try simp only [Act.put, List.getElem_toArray, List.getElem_cons_zero, List.getElem_cons_succ, List.setIfInBounds_toArray, List.set_cons_zero, List.set_cons_succ]
      refine wpAnyH_take (i := 6) (v := ?v7) rfl (by kernel_rfl) (by kernel_rfl) (by kernel_rfl) (fun _ _ _ h => h) (Or.inl ⟨by rfl, ?hy7⟩) (by assumption) ?rest7
      case hy7 => (intro w' hSw; dsimp only [List.getElem_toArray, List.getElem_cons_zero, List.getElem_cons_succ] at hSw ⊢; go_simp; try (with_reducible rfl))
      try simp only [Act.put, List.getElem_toArray, List.getElem_cons_zero, List.getElem_cons_succ, List.setIfInBounds_toArray, List.set_cons_zero, List.set_cons_succ]
      refine wpAnyH_take (i := 7) (v := ?v8) rfl (by kernel_rfl) (by kernel_rfl) (by kernel_rfl) (fun _ _ _ h => h) (Or.inl ⟨by rfl, ?hy8⟩) (by assumption) ?rest8
      case hy8 => (intro w' hSw; dsimp only [List.getElem_toArray, List.getElem_cons_zero, List.getElem_cons_succ] at hSw ⊢; go_simp; try (with_reducible rfl))
      try simp only [Act.put, List.getElem_toArray, List.getElem_cons_zero, List.getElem_cons_succ, List.setIfInBounds_toArray, List.set_cons_zero, List.set_cons_succ]
      refine wpAnyH_take (i := 8) (v := ?v9) rfl (by kernel_rfl) (by kernel_rfl) (by kernel_rfl) (fun _ _ _ h => h) (Or.inl ⟨by rfl, ?hy9⟩) (by assumption) ?rest9
      case hy9 => (intro w' hSw; dsimp only [List.getElem_toArray, List.getElem_cons_zero, List.getElem_cons_succ] at hSw ⊢; go_simp; try (with_reducible rfl))
      try simp only [Act.put, List.getElem_toArray, List.getElem_cons_zero, List.getElem_cons_succ, List.setIfInBounds_toArray, List.set_cons_zero, List.set_cons_succ]
      refine wpAnyH_take (i := 9) (v := ?v10) rfl (by kernel_rfl) (by kernel_rfl) (by kernel_rfl) (fun _ _ _ h => h) (Or.inl ⟨by rfl, ?hy10⟩) (by assumption) ?rest10
      case hy10 => (intro w' hSw; dsimp only [List.getElem_toArray, List.getElem_cons_zero, List.getElem_cons_succ] at hSw ⊢; go_simp; try (with_reducible rfl))
      try simp only [Act.put, List.getElem_toArray, List.getElem_cons_zero, List.getElem_cons_succ, List.setIfInBounds_toArray, List.set_cons_zero, List.set_cons_succ]
      refine wpAnyH_take (i := 10) (v := ?v11) rfl (by kernel_rfl) (by kernel_rfl) (by kernel_rfl) (fun _ _ _ h => h) (Or.inl ⟨by rfl, ?hy11⟩) (by assumption) ?rest11
      case hy11 => (intro w' hSw; dsimp only [List.getElem_toArray, List.getElem_cons_zero, List.getElem_cons_succ] at hSw ⊢; go_simp; try (with_reducible rfl))
      try simp only [Act.put, List.getElem_toArray, List.getElem_cons_zero, List.getElem_cons_succ, List.setIfInBounds_toArray, List.set_cons_zero, List.set_cons_succ]
      refine wpAnyH_take (i := 12) (v := ?v12) rfl (by kernel_rfl) (by kernel_rfl) (by kernel_rfl) (fun _ _ _ h => h) (Or.inl ⟨by rfl, ?hy12⟩) (by assumption) ?rest12
      case hy12 => (intro w' hSw; dsimp only [List.getElem_toArray, List.getElem_cons_zero, List.getElem_cons_succ] at hSw ⊢; go_simp; try (with_reducible rfl))
      try simp only [Act.put, List.getElem_toArray, List.getElem_cons_zero, List.getElem_cons_succ, List.setIfInBounds_toArray, List.set_cons_zero, List.set_cons_succ]
      refine wpAnyH_ready (rs := [11, 13]) (by kernel_rfl) (by simp) ?_
      refine AllReadyH.cons rfl (fun K hK => ?_) (AllReadyH.cons rfl (fun K hK => ?_) AllReadyH.nil)
      · have nc := CF.out _ R5.out
        dsimp only [List.getElem_toArray, List.getElem_cons_zero, List.getElem_cons_succ]
        go_simp
        clear nc hHeld
        refine hK.out _ _ (SF.out _ R5.out) (fun hHeld => ?_)
        clear hK K
        try simp only [Act.put, List.getElem_toArray, List.getElem_cons_zero, List.getElem_cons_succ, List.setIfInBounds_toArray, List.set_cons_zero, List.set_cons_succ]
        refine wpAnyH_ready (rs := [13]) (by kernel_rfl) (by simp) ?_
        refine AllReadyH.cons rfl (fun K hK => ?_) AllReadyH.nil
        dsimp only [List.getElem_toArray, List.getElem_cons_zero, List.getElem_cons_succ]
        go_simp
        have bb5 := below_box V0 (.cells #[.int .i64 p] 3)
        have xx := BoxAt.new V0 #[.int .i64 p] 3
        obtain ⟨w5, hw5⟩ : ∃ w5, w5 = V0.alloc (.cells #[.int .i64 p] 3) := ⟨_, rfl⟩
        rw [← hw5] at bb5 xx ⊢
        obtain ⟨g5, hg5⟩ : ∃ g5, g5 = V0.heap.size := ⟨_, rfl⟩
        rw [← hg5] at xx ⊢
        have RX := hide (rd_one xx)
        have R6 := hide (R5.out.below bb5)
        have OU6 : Hid (Own w5 q (.slice au r.length cu) r) := OU5.out.below bb5
        clear bb5 xx hw5 hg5 R5 OU5 hHeld
        refine hK.out _ _ (SF.out _ R6.out) (fun hHeld => ?_)
        clear hK K
        try simp only [Act.put, List.getElem_toArray, List.getElem_cons_zero, List.getElem_cons_succ, List.setIfInBounds_toArray, List.set_cons_zero, List.set_cons_succ]
        refine wpAnyH_ready (rs := [14]) (by kernel_rfl) (by simp) ?_
        refine AllReadyH.cons rfl (fun K hK => ?_) AllReadyH.nil
        refine step_app_int (by rfl) _ _ (by rfl) q (.slice au r.length cu) (by rfl) r OU6.out (.slice (some ⟨g5, 0, none⟩) 1 1) (by rfl) [p] RX.out (by simp only [List.length_singleton]; omega) R6.out.qw ?_
        intro v7 w7 o7 g7 at7
        obtain ⟨a7, k7, hv7⟩ := row_slice o7
        obtain ⟨L7, hL7⟩ : ∃ L, L = (r ++ [p]).length := ⟨_, rfl⟩
        rw [← hL7] at hv7
        subst hv7
        clear hL7
        rw [HU.out] at g7 at7
        obtain ⟨d7, x7, b7⟩ := R6.out.mid y y6 g7
        have R7 := hide (R6.out.app y y6 o7 g7 at7)
        have hc7 := head_cell d7 y y6
        have fz7 := World.ownsRow.frozenAt d7 y
        have X7 := hide x7
        have K7 := hide (LK.out _ b7)
        clear o7 g7 at7 d7 x7 b7 R6 OU6 RX hHeld
        rw [← HU.out] at hc7
        refine hK.out _ _ (⟨X7.out.cell 0, K7.out⟩) (fun hHeld => ?_)
        clear hK K
        try simp only [Act.put, List.getElem_toArray, List.getElem_cons_zero, List.getElem_cons_succ, List.setIfInBounds_toArray, List.set_cons_zero, List.set_cons_succ]
        refine wpAnyH_take (i := 15) (v := ?v13) rfl (by kernel_rfl) (by kernel_rfl) (by kernel_rfl) (fun _ _ _ h => h) (Or.inl ⟨by rfl, ?hy13⟩) (by assumption) ?rest13
        case hy13 => (intro w' hSw; dsimp only [List.getElem_toArray, List.getElem_cons_zero, List.getElem_cons_succ] at hSw ⊢; go_simp; try (with_reducible rfl))
        try simp only [Act.put, List.getElem_toArray, List.getElem_cons_zero, List.getElem_cons_succ, List.setIfInBounds_toArray, List.set_cons_zero, List.set_cons_succ]
        refine wpAnyH_ready (rs := [16]) (by kernel_rfl) (by simp) ?_
        refine AllReadyH.cons rfl (fun K hK => ?_) AllReadyH.nil
        dsimp only [List.getElem_toArray, List.getElem_cons_zero, List.getElem_cons_succ]
        go_simp
        clear hc7 fz7 hHeld
        refine hK.out _ _ ⟨R7.out.box.cell 0, LK.out _ R7.out.bel⟩ (fun hHeld => ?_)
        clear hK K hHeld
        try simp only [Act.put, List.getElem_toArray, List.getElem_cons_zero, List.getElem_cons_succ, List.setIfInBounds_toArray, List.set_cons_zero, List.set_cons_succ]
        refine wpAnyH_done (by kernel_rfl) ?_ _
        refine NoPanic.normal ?_
        go_wp2
        go_roundw
        case rel => exact ⟨k + 1, _, by omega, by go_num, by rw [SU2.out]; exact R7.out⟩
        case measure => simp [intOf]; omega
      · dsimp only [List.getElem_toArray, List.getElem_cons_zero, List.getElem_cons_succ]
        go_simp
        have bb5 := below_box V0 (.cells #[.int .i64 p] 3)
        have xx := BoxAt.new V0 #[.int .i64 p] 3
        obtain ⟨w5, hw5⟩ : ∃ w5, w5 = V0.alloc (.cells #[.int .i64 p] 3) := ⟨_, rfl⟩
        rw [← hw5] at bb5 xx ⊢
        obtain ⟨g5, hg5⟩ : ∃ g5, g5 = V0.heap.size := ⟨_, rfl⟩
        rw [← hg5] at xx ⊢
        have RX := hide (rd_one xx)
        have R6 := hide (R5.out.below bb5)
        have OU6 : Hid (Own w5 q (.slice au r.length cu) r) := OU5.out.below bb5
        clear bb5 xx hw5 hg5 R5 OU5 hHeld
        refine hK.out _ _ (SF.out _ R6.out) (fun hHeld => ?_)
        clear hK K
        try simp only [Act.put, List.getElem_toArray, List.getElem_cons_zero, List.getElem_cons_succ, List.setIfInBounds_toArray, List.set_cons_zero, List.set_cons_succ]
        refine wpAnyH_ready (rs := [11]) (by kernel_rfl) (by simp) ?_
        refine AllReadyH.cons rfl (fun K hK => ?_) AllReadyH.nil
        have nc := CF.out _ R6.out
        dsimp only [List.getElem_toArray, List.getElem_cons_zero, List.getElem_cons_succ]
        go_simp
        clear nc hHeld
        refine hK.out _ _ (SF.out _ R6.out) (fun hHeld => ?_)
        clear hK K
        try simp only [Act.put, List.getElem_toArray, List.getElem_cons_zero, List.getElem_cons_succ, List.setIfInBounds_toArray, List.set_cons_zero, List.set_cons_succ]
        refine wpAnyH_ready (rs := [14]) (by kernel_rfl) (by simp) ?_
        refine AllReadyH.cons rfl (fun K hK => ?_) AllReadyH.nil
        refine step_app_int (by rfl) _ _ (by rfl) q (.slice au r.length cu) (by rfl) r OU6.out (.slice (some ⟨g5, 0, none⟩) 1 1) (by rfl) [p] RX.out (by simp only [List.length_singleton]; omega) R6.out.qw ?_
        intro v7 w7 o7 g7 at7
        obtain ⟨a7, k7, hv7⟩ := row_slice o7
        obtain ⟨L7, hL7⟩ : ∃ L, L = (r ++ [p]).length := ⟨_, rfl⟩
        rw [← hL7] at hv7
        subst hv7
        clear hL7
        rw [HU.out] at g7 at7
        obtain ⟨d7, x7, b7⟩ := R6.out.mid y y6 g7
        have R7 := hide (R6.out.app y y6 o7 g7 at7)
        have hc7 := head_cell d7 y y6
        have fz7 := World.ownsRow.frozenAt d7 y
        have X7 := hide x7
        have K7 := hide (LK.out _ b7)
        clear o7 g7 at7 d7 x7 b7 R6 OU6 RX hHeld
        rw [← HU.out] at hc7
        refine hK.out _ _ (⟨X7.out.cell 0, K7.out⟩) (fun hHeld => ?_)
        clear hK K
        try simp only [Act.put, List.getElem_toArray, List.getElem_cons_zero, List.getElem_cons_succ, List.setIfInBounds_toArray, List.set_cons_zero, List.set_cons_succ]
        refine wpAnyH_take (i := 15) (v := ?v14) rfl (by kernel_rfl) (by kernel_rfl) (by kernel_rfl) (fun _ _ _ h => h) (Or.inl ⟨by rfl, ?hy14⟩) (by assumption) ?rest14
        case hy14 => (intro w' hSw; dsimp only [List.getElem_toArray, List.getElem_cons_zero, List.getElem_cons_succ] at hSw ⊢; go_simp; try (with_reducible rfl))
        try simp only [Act.put, List.getElem_toArray, List.getElem_cons_zero, List.getElem_cons_succ, List.setIfInBounds_toArray, List.set_cons_zero, List.set_cons_succ]
        refine wpAnyH_ready (rs := [16]) (by kernel_rfl) (by simp) ?_
        refine AllReadyH.cons rfl (fun K hK => ?_) AllReadyH.nil
        dsimp only [List.getElem_toArray, List.getElem_cons_zero, List.getElem_cons_succ]
        go_simp
        clear hc7 fz7 hHeld
        refine hK.out _ _ ⟨R7.out.box.cell 0, LK.out _ R7.out.bel⟩ (fun hHeld => ?_)
        clear hK K hHeld
        try simp only [Act.put, List.getElem_toArray, List.getElem_cons_zero, List.getElem_cons_succ, List.setIfInBounds_toArray, List.set_cons_zero, List.set_cons_succ]
        refine wpAnyH_done (by kernel_rfl) ?_ _
        refine NoPanic.normal ?_
        go_wp2
        go_roundw
        case rel => exact ⟨k + 1, _, by omega, by go_num, by rw [SU2.out]; exact R7.out⟩
        case measure => simp [intOf]; omega
    · obtain rfl : k = ks.length := by omega
      rw [List.take_length] at R
      have xg := R.out.box.lt
      have hx : w.heap.size ≠ x := by
        intro e
        have h1 := R.out.box
        have h2 := R.out.res
        rw [e] at h2
        unfold BoxAt at h1 h2
        rw [h1] at h2
        simp at h2
      have H0 : Hid (Hfs w wr x w.heap.size (.slice (some ⟨w.heap.size + 1, 0, none⟩) 6 6) (.slice none 0 0) (.slice none 0 0) (rowsK F ks) [] []) := by
        have h := R.out
        refine ⟨⟨us, h.rows.len, by rw [h.six]; exact h.head, fun i hi' => ownsRow_mono (h.rows.row i hi') h.wq, fun k hk => (World.ownsRow.lt h.head k hk).2, h.rows.tops, h.rows.apart⟩, World.ownsRow_nil _ _ _ _, h.box, h.res, World.ownsRow_nil _ _ _ _, h.bel, ?_⟩
        rcases Nat.lt_or_ge x w.heap.size with hlx | hlx
        · exact absurd hlx (by have := XL.out; omega)
        · exact hlx
      clear R hk hlt xg
      go_wp2_with fail
      refine (places_calls d G wr (MG.out.belowB H0.out.bel MG.out.lt)).mono ?_
      rintro e w4 ⟨v4, rfl, o4, b4⟩
      have H1 : Hid (Hfs w w4 x w.heap.size (.slice (some ⟨w.heap.size + 1, 0, none⟩) 6 6) (.slice none 0 0) v4 (rowsK F ks) [] (keysG G)) := by
        have h := H0.out.below b4
        exact ⟨h.mat, h.held, h.box, h.res, o4.mono H0.out.bel.size, h.bel, h.lx⟩
      obtain ⟨a4, c4, rfl⟩ := row_slice o4
      obtain ⟨kd, hkd⟩ : ∃ kd, kd = keysG G := ⟨_, rfl⟩
      have KD := hide (keysG_in G MG.out.len)
      have kdl : (keysG G).length ≤ 32 := by have := keysG_len G; rw [MG.out.len] at this; exact this
      rw [← hkd] at H1 KD kdl ⊢
      have HKD := hide hkd
      clear o4 b4 H0 hkd
      go_wp2_with fail
      go_loopw [39] (fun v wx => ∃ (i : Nat) (hv : Value), i ≤ kd.length ∧ v = .int .i64 (i : Int) ∧ Hfs w wx x w.heap.size (.slice (some ⟨w.heap.size + 1, 0, none⟩) 6 6) hv (.slice a4 kd.length c4) (rowsK F ks) (heldK G (kd.take i)) kd) (fun v _ => kd.length - (intOf v).toNat)
      case atStart => exact ⟨0, _, Nat.zero_le _, rfl, H1.out⟩
      case round =>
        obtain ⟨i, hv, hi, rfl, hr⟩ := hrel
        have R := hide hr
        clear hr H1
        by_cases hli : i < kd.length
        · have hli' : (i : Int) < (kd.length : Int) := by omega
          obtain ⟨bb, off, rfl, hc⟩ := (Own.rd R.out.pl).cellAt i hli
          have SU := heldK_succ G kd i hli
          obtain ⟨p, hp⟩ : ∃ p, p = kd.getD i 0 := ⟨_, rfl⟩
          have hin := KD.out i hli
          rw [← hp] at hc SU hin
          have LK := (MG.out.belowB R.out.bel MG.out.lt).look (k := p) (wfI_small (by omega) (by omega))
          obtain ⟨y, hy⟩ : ∃ y, y = (lkM G p).getD 0 := ⟨_, rfl⟩
          rw [← hy] at LK SU
          have SU2 := hide SU
          have x1 := R.out.box.cell 1
          have x1 : wr.cell? ⟨x, 1, none⟩ = some hv := x1
          obtain ⟨ah, chh, hvs⟩ := R.out.held.slice
          obtain ⟨L, hL⟩ : ∃ L, L = (heldK G (kd.take i)).length := ⟨_, rfl⟩
          have L32 : L ≤ 32 := by rw [hL, heldK_len]; simp; omega
          rw [← hL] at hvs
          subst hvs
          have HH : Hid (wr.ownsRow w.heap.size 136 2 (.slice ah L chh) L (hlC (heldK G (kd.take i)))) := by
            show World.ownsRow _ _ _ _ _ _ _
            have := R.out.held
            unfold OwnH at this
            rwa [← hL] at this
          have HL := hide hL
          obtain ⟨i0, hi0, hz0, hz1, hz2⟩ := info_parts infoHl
          clear SU hp hin hy hL
          go_wp2_with (at_builtin; refine wpList_append_own _ rfl _ _ 27 rfl w.heap.size 136 i0 (.agg #[.int .i64 0, .int .i64 0]) 2 16 Try.underlying27 hi0 hz0 hz1 hz2 rfl (by decide) _ _ _ rfl (rowsBelow HH.out (below_box _ _)) ⟨wr.heap.size, 0, none⟩ 1 1 [.int .i64 p, .int .i64 y] rfl rfl (cells_two _ _ _ _) (by simp [Value.oneCell']) (by unfold maxLen; omega) (by omega) (by have := R.out.bel.size; simp; omega) ?_)
          intro v7 w7 o7 g7 n7
          have bb5 := below_box wr (.cells #[.int .i64 p, .int .i64 y] 136)
          have R5 := R.out.below bb5
          have O7 : OwnH w7 w.heap.size v7 (heldK G (kd.take (i + 1))) := by
            rw [SU2.out]
            unfold OwnH
            rw [hlC_app, List.length_append, ← HL.out]
            exact o7
          obtain ⟨a7, k7, e7⟩ := O7.slice
          obtain ⟨L7, hL7⟩ : ∃ L, L = (heldK G (kd.take (i + 1))).length := ⟨_, rfl⟩
          rw [← hL7] at e7
          subst e7
          have H7 := hide (R5.app hx O7 g7)
          have x7 := R5.box.kept g7 (R5.box.offT R5.held (by decide))
          have y7 : w7.cell? ⟨x, 1, none⟩ = some _ := x7.cell 1
          have f7 := x7.frozen 1
          clear o7 g7 n7 bb5 R5 O7 hL7 x7 x1 HH R
          go_wp2
          go_roundw
          case rel => exact ⟨i + 1, _, by omega, by go_num, H7.out⟩
          case measure => simp [intOf]; omega
        · obtain rfl : i = kd.length := by omega
          rw [List.take_length] at R
          have x0 : wr.cell? ⟨x, 0, none⟩ = some _ := R.out.box.cell 0
          have x1 : wr.cell? ⟨x, 1, none⟩ = some hv := R.out.box.cell 1
          have r0 : wr.cell? ⟨w.heap.size, 0, none⟩ = some _ := R.out.res.cell 0
          have r1 : wr.cell? ⟨w.heap.size, 1, none⟩ = some _ := R.out.res.cell 1
          have q0 := R.out.res.frozen 0
          have q1 := R.out.res.frozen 1
          obtain ⟨ah, chh, hvs⟩ := R.out.held.slice
          obtain ⟨L, hL⟩ : ∃ L, L = (heldK G kd).length := ⟨_, rfl⟩
          rw [← hL] at hvs
          subst hvs
          have g2 := grown_tr (grown_setCell wr w.heap.size 0 (.slice (some ⟨w.heap.size + 1, 0, none⟩) 6 6)) (grown_setCell _ w.heap.size 1 (.slice ah L chh))
          have B2 := hide (R.out.res.set 0 (.slice (some ⟨w.heap.size + 1, 0, none⟩) 6 6))
          have B3 := hide (B2.out.set 1 (.slice ah L chh))
          have M3 := hide (R.out.mat.keptBox R.out.res (by decide) (by decide) g2)
          have O3 := hide (World.ownsRow.kept R.out.held g2 (.inr (R.out.res.offT R.out.held (by decide))))
          have G3 := hide (R.out.bel.grown g2 R.out.bel.size (fun j hj => by cases hj; exact Nat.le_refl _))
          have S3 := hide g2.size
          clear g2 hL R hi hli
          go_wp2
          refine bodyPost_ret (res_rm rfl _ _ w.heap.size _ _ (0, 0) rfl B3.out) rfl ⟨_, _, rfl, ?_, G3.out⟩
          rw [← HK.out, ← HKD.out]
          exact ⟨M3.out.wider (Nat.le_refl _) S3.out, O3.out, fun k hk => (World.ownsRow.lt O3.out k hk).2⟩
end Go.Proofs.Ytjffjoednmlkiaa

/-
  A room is taken on rooms of the call's own: of the model. Each contract says what it asks.
-/
import Derived.Test.YtjffjoednmlkiaaPlayRoomsB22
namespace Go.Proofs.Ytjffjoednmlkiaa
open Go.RowKit Go.Maps Go.MapKept Go.ChangeMaps
set_option linter.unusedVariables false
set_option linter.unusedSimpArgs false

/-- Rows of which none lies in the block t. -/
def MatT (w : World) (lo hi t : Nat) (f : Value) (m : List (List Int)) : Prop := ∃ vs, MatV w lo hi f vs m ∧ ∀ i, i < m.length → (vs.getD i nilRow).ownBlock ≠ some t
theorem MatT.keptBox {w w' : World} {lo hi t x : Nat} {v : Value} {m : List (List Int)} {cs : Array Value} {T : TypeId} (h : MatT w lo hi t v m) (X : BoxAt w x cs T) (h1 : 36 ≠ T) (h2 : 3 ≠ T) (hg : w.grownBy w' (some x)) : MatT w' lo hi t v m := by
  obtain ⟨vs, d, n⟩ := h
  exact ⟨vs, ⟨d.len, World.ownsRow.kept d.head hg (.inr (X.offT d.head h1)), fun i hi' => World.ownsRow.kept (d.row i hi') hg (.inr (X.offT (d.row i hi') h2)), d.top, d.tops, d.apart⟩, n⟩
theorem MatT.wider {w : World} {lo hi lo' hi' t : Nat} {v : Value} {m : List (List Int)} (h : MatT w lo hi t v m) (h1 : lo' ≤ lo) (h2 : hi ≤ hi') : MatT w lo' hi' t v m := by
  obtain ⟨vs, d, n⟩ := h
  exact ⟨vs, d.wider h1 h2, n⟩
/-- Rooms of which no row lies in the block t. -/
structure RomT (w : World) (lo hi t : Nat) (f h : Value) (m : List (List Int)) (hs : List Hl) : Prop where
  free : MatT w lo hi t f m
  held : OwnH w lo h hs
  th : ∀ k, h.ownBlock = some k → k < hi
theorem RomT.v {w : World} {lo hi t : Nat} {f h : Value} {m : List (List Int)} {hs : List Hl} (d : RomT w lo hi t f h m hs) : RomV w lo hi f h m hs := by
  obtain ⟨⟨vs, a, _⟩, b, c⟩ := d
  exact ⟨⟨vs, a⟩, b, c⟩
/-- No row lies where the rows' own list does. -/
theorem RomV.t {w : World} {lo hi g n cap : Nat} {h : Value} {m : List (List Int)} {hs : List Hl} (d : RomV w lo hi (.slice (some ⟨g, 0, none⟩) n cap) h m hs) : RomT w lo hi g (.slice (some ⟨g, 0, none⟩) n cap) h m hs := by
  obtain ⟨⟨vs, a⟩, b, c⟩ := d
  exact ⟨⟨vs, a, fun i hi' e => (heads_apart a.head (a.row i hi')).elim (fun x => by simp [Value.ownBlock] at x) (fun x => x (by rw [e]; rfl))⟩, b, c⟩
/-- Where l14Take stands. -/
structure Trm (w wr : World) (lo hi t g : Nat) (f h : Value) (us : List Value) (m' : List (List Int)) (hs : List Hl) : Prop where
  arg : BoxAt wr w.heap.size #[f, h] 29
  res : BoxAt wr (w.heap.size + 1) nilR 29
  mat : MatV wr lo wr.heap.size f us m'
  held : OwnH wr lo h hs
  ht : ∀ k, h.ownBlock = some k → k < hi
  chg : Chg g (g + 1) w wr
  gl : lo ≤ g
  gh : g < hi
  lh : hi ≤ w.heap.size
  nt : ∀ i, i < m'.length → (us.getD i nilRow).ownBlock ≠ some t
  tw : t < w.heap.size
section
variable {w wr w1 : World} {lo hi t g : Nat} {f h : Value} {us : List Value} {m' : List (List Int)} {hs : List Hl}
theorem Trm.below (d : Trm w wr lo hi t g f h us m' hs) (hb : Below wr.heap.size wr w1) : Trm w w1 lo hi t g f h us m' hs :=
  ⟨d.arg.below hb, d.res.below hb, (d.mat.below hb).wider (Nat.le_refl _) hb.size, rowsBelow d.held hb, d.ht, d.chg.trans (Chg.ofBelow hb), d.gl, d.gh, d.lh, d.nt, d.tw⟩
theorem Trm.lay {cap n : Nat} {u : Value} {r : List Int} (d : Trm w wr lo hi t g (.slice (some ⟨g, 0, none⟩) n cap) h us m' hs) (i : Nat) (hi' : i < m'.length) (hb : Below wr.heap.size wr w1) (ho : Own w1 wr.heap.size u r) :
    Trm w (w1.setCell ⟨g, i, none⟩ u) lo hi t g (.slice (some ⟨g, 0, none⟩) n cap) h (us.set i u) (m'.set i r) hs := by
  have hl : lo ≤ wr.heap.size := by have := d.gl; have := d.gh; have := d.lh; have := d.chg.size; omega
  have L := d.mat.lay i hi' hb u r ho hl (Nat.le_refl _)
  have d1 := d.below hb
  have gh := d.gh
  have lh := d.lh
  have c1 : Chg g (g + 1) w1 (w1.setCell ⟨g, i, none⟩ u) := Chg.ofSetCell w1 g i u (Nat.le_refl g) (Nat.lt_succ_self g)
  refine ⟨d1.arg.kept L.2 (by simp; omega), d1.res.kept L.2 (by simp; omega), L.1, ?_, d.ht, d1.chg.trans c1, d.gl, d.gh, d.lh, ?_, d.tw⟩
  rotate_left
  · intro j hj e
    rw [List.length_set] at hj
    rw [getD_set _ _ _ _ _ (by rw [d.mat.len]; exact hi')] at e
    split at e
    · have := (World.ownsRow.lt ho t e).1
      have := d.tw
      have := d.chg.size
      omega
    · exact d.nt j hj e
  exact World.ownsRow.kept d1.held L.2 (by
    cases e : h.ownBlock with
    | none => exact .inl rfl
    | some k =>
      right
      intro e2
      obtain rfl : k = g := by simpa using e2
      exact (types_apart d1.mat.head d1.held (by decide)).elim (fun x => by simp [Value.ownBlock] at x) (fun x => x (by rw [e]; rfl)))
theorem shl_i (y : Nat) (hy : y ≤ 5) : IntKind.i64.wrap ((2 : Int) ^ min (IntKind.u64.wrap (y : Int)).toNat 64) = pw y := by
  have : y = 0 ∨ y = 1 ∨ y = 2 ∨ y = 3 ∨ y = 4 ∨ y = 5 := by omega
  rcases this with rfl | rfl | rfl | rfl | rfl | rfl <;> decide +kernel
theorem rdH_one (w : World) (x z : Int) : RdH (w.alloc (.cells #[.int .i64 x, .int .i64 z] 136)) (.slice (some ⟨w.heap.size, 0, none⟩) 1 1) [(x, z)] := by
  have X := BoxAt.new w #[.int .i64 x, .int .i64 z] 136
  refine ⟨_, 1, rfl, Nat.le_refl _, ⟨by unfold maxLen; omega, fun e => by cases e⟩, .inr ⟨_, 0, rfl, X.lt, fun i hi => ?_⟩⟩
  have : i = 0 := by simpa using hi
  subst this
  exact ⟨X.c2.1, X.c2.2⟩
theorem Chg.andBelow {a b c : World} (h : Chg lo hi a b) (k : Below a.heap.size b c) : Chg lo hi a c :=
  ⟨k.os.trans h.os, k.tape.trans h.tape, k.output.trans h.output, Nat.le_trans h.size k.size, fun j hj ho => (k.block j hj).trans (h.block j hj ho)⟩
theorem Trm.fz {cap n : Nat} (d : Trm w wr lo hi t g (.slice (some ⟨g, 0, none⟩) n cap) h us m' hs) (i : Nat) : wr.frozen? ⟨g, i, none⟩ = false := by
  have e := d.mat.lenEq
  subst e
  exact World.ownsRow.frozenAt d.mat.head i
end

set_option maxRecDepth 100000 in
set_option maxHeartbeats 6400000 in
theorem l14TakeT_calls (f h : Value) (m : List (List Int)) (hs : List Hl) (s : Int) (lo hi t0 : Nat) (w : World) (d : RomT w lo hi t0 f h m hs) (tw : t0 < w.heap.size) (hh : hi ≤ w.heap.size) (hk : RoomsOk m hs) (hor : orP s) (o a : Nat) (r : List Int) (h1 : ordN s ≤ o) (h2 : o < 6) (h3 : ∀ o', ordN s ≤ o' → o' < o → m.getD o' [] = []) (h4 : m.getD o [] = (a : Int) :: r) :
    Calls Try.prog 69 #[.agg #[f, h], .int .i64 s] w fun e w' => ∃ h', e = .returned (.tuple #[.agg #[f, h'], .int .i64 (a : Int)]) ∧ RomT w' lo w'.heap.size t0 f h' (plR a (ordN s) (o - ordN s) (m.set o r)) (putH (a : Int) (ordN s : Int) hs) ∧ ∀ l u, (∀ k, f.ownBlock = some k → l ≤ k ∧ k < u) → Chg l u w w' := by
  have OK := hide hk
  have HN0 : Hid (∀ o', ((a : Int), o') ∉ hs) := hk.apart (a := a) (o := o) (((hk.all.row o h2).mem (a : Int)).1 (by rw [h4]; simp))
  obtain ⟨X, hX⟩ : ∃ X, X = plR a (ordN s) (o - ordN s) (m.set o r) := ⟨_, rfl⟩
  obtain ⟨Y, hY⟩ : ∃ Y, Y = putH (a : Int) (ordN s : Int) hs := ⟨_, rfl⟩
  rw [← hX, ← hY]
  have LO := hide (l14Order_calls s hor.1 hor.2)
  have T := hide (take_is (s := s) hk h1 h2 h4)
  have m6 := hk.len
  obtain ⟨N, hN⟩ : ∃ N, N = ordN s := ⟨_, rfl⟩
  rw [← hN] at LO h1 h3 hX hY T
  obtain ⟨vs, mv, nt⟩ := d.free
  obtain ⟨g, cap, rfl⟩ : ∃ g cap, f = .slice (some ⟨g, 0, none⟩) m.length cap := by
    rcases mv.head.2 with ⟨_, e⟩ | ⟨g, cap, cur, e, _⟩
    · omega
    · exact ⟨g, cap, e⟩
  have lg := World.ownsRow.lt mv.head g rfl
  have gtop := mv.top g rfl
  have D := hide d
  have A0 := hide (Hand.twoN w #[.slice (some ⟨g, 0, none⟩) m.length cap, h] nilR 29 29)
  have R0 : Hid (Trm w ((w.alloc (.cells #[.slice (some ⟨g, 0, none⟩) m.length cap, h] 29)).alloc (.cells nilR 29)) lo hi t0 g (.slice (some ⟨g, 0, none⟩) m.length cap) h vs m hs) :=
    ⟨A0.out.atBox 1 rfl, A0.out.atBox 0 rfl, (mv.below A0.out.below).wider (Nat.le_refl _) (Nat.le_trans hh A0.out.below.size), rowsBelow d.held A0.out.below, d.th, Chg.ofBelow A0.out.below, lg.1, gtop, hh, nt, tw⟩
  have H6 := hide m6
  have H3 := hide h3
  have H4 := hide h4
  have HX := hide hX
  have HY := hide hY
  clear d mv nt hk hor h3 h4 hX hY hN m6 lg gtop A0
  go_enter Try.func69, Try.ntmps69
  obtain ⟨w0, hw0⟩ : ∃ x, x = (w.alloc (.cells #[.slice (some ⟨g, 0, none⟩) m.length cap, h] 29)).alloc (.cells nilR 29) := ⟨_, rfl⟩
  have HW0 := hide hw0
  go_wp2_with fail
  refine (LO.out _).mono ?_
  rintro e w' ⟨rfl, rfl⟩
  clear LO hw0
  go_wp2_with fail
  rw [← HW0.out]
  rw [← HW0.out] at R0
  have RM := hide R0.out.mat.rd
  have y0 := R0.out.arg.c2.1
  go_loop [7] (fun v => ∃ k : Nat, N ≤ k ∧ k ≤ o ∧ v = .int .i64 (k : Int)) (fun v => o - (intOf v).toNat)
  case atStart => exact ⟨N, Nat.le_refl _, h1, rfl⟩
  case round =>
    obtain ⟨k, hk1, hk2, rfl⟩ := hrel
    have k5 : (k : Int) ≤ 5 := by omega
    have k6 : (k : Int) < (m.length : Int) := by have := H6.out; omega
    obtain ⟨bb, off, u, e8, hc, hu⟩ := RM.out.row k (by have := H6.out; omega)
    simp only [Option.some.injEq, Addr.mk.injEq, and_true] at e8
    obtain ⟨rfl, rfl⟩ := e8
    rw [Nat.zero_add] at hc
    by_cases hlt : k < o
    · rw [H3.out k hk1 hlt] at hu
      obtain ⟨ua, uc, rfl, u1, u2⟩ := hu.slc
      clear hu u1 u2
      go_wp2
      go_round
      case rel => exact ⟨k + 1, by omega, by omega, by go_num⟩
      case measure => simp [intOf]; omega
    · obtain rfl : k = o := by omega
      rw [H4.out] at hu
      obtain ⟨ua, uc, rfl, u1, u2⟩ := hu.slc
      obtain ⟨b9, o9, e9, d0⟩ := hu.cellAt 0 (by simp)
      subst e9
      have e7 : ((a : Int) :: r).getD 0 0 = (a : Int) := rfl
      rw [e7, Nat.add_zero] at d0
      have U := hide hu
      obtain ⟨l, hl⟩ : ∃ l, l = ((a : Int) :: r).length := ⟨_, rfl⟩
      have l0 : 0 < (l : Int) := by rw [hl]; simp
      have l1 : ¬ ((l : Int) = 0) := by omega
      have l2 : ((l : Int) == 0) = false := by simp; omega
      rw [← hl] at hc U
      have HL := hide hl
      clear hu u1 u2 e7 hl
      go_wp2_with fail
      have RR := hide R0
      have RS : (r.length : Int) ≤ 32 := by
        have := OK.out.all.short k h2
        rw [H4.out] at this
        simp at this
        omega
      have km : k < m.length := by have := H6.out; omega
      clear RM y0 hlt hk2 hk1 d0 l0 l1 l2
      refine wp_region_noPanic ?_
      refine wp_region_held_drew (S := (fun w' => w'.cell? ⟨w.heap.size, 0, none⟩ = some (.slice (some ⟨g, 0, none⟩) m.length cap))) (by kernel_rfl) ((RR.out.out.below (Below.refl _ _).drew).arg.c2.1) (fun hHeld => ?_)
      have RD := hide (RR.out.out.below (Below.refl _ _).drew)
      have U1 := hide (U.out.below (Below.refl _ _).drew)
      have hc1 : (World.drew w0).cell? ⟨g, k, none⟩ = some (.slice (some ⟨b9, o9, none⟩) l uc) := hc
      have HC1 := hide hc1
      clear hc hc1 U
      generalize World.drew w0 = V0 at RD U1 HC1 hHeld ⊢
      refine wpAnyH_take (i := 0) (v := ?v1) rfl (by kernel_rfl) (by kernel_rfl) (by kernel_rfl) (fun _ _ _ h => h) (Or.inl ⟨by rfl, ?hy1⟩) (by assumption) ?rest1
      case hy1 => (intro w' hSw; dsimp only [List.getElem_toArray, List.getElem_cons_zero, List.getElem_cons_succ] at hSw ⊢; go_simp; try (with_reducible rfl))
      try simp only [Act.put, List.getElem_toArray, List.getElem_cons_zero, List.getElem_cons_succ, List.setIfInBounds_toArray, List.set_cons_zero, List.set_cons_succ]
      refine wpAnyH_take (i := 1) (v := ?v2) rfl (by kernel_rfl) (by kernel_rfl) (by kernel_rfl) (fun _ _ _ h => h) (Or.inl ⟨by rfl, ?hy2⟩) (by assumption) ?rest2
      case hy2 => (intro w' hSw; dsimp only [List.getElem_toArray, List.getElem_cons_zero, List.getElem_cons_succ] at hSw ⊢; go_simp; try (with_reducible rfl))
      try simp only [Act.put, List.getElem_toArray, List.getElem_cons_zero, List.getElem_cons_succ, List.setIfInBounds_toArray, List.set_cons_zero, List.set_cons_succ]
      refine wpAnyH_take (i := 2) (v := ?v3) rfl (by kernel_rfl) (by kernel_rfl) (by kernel_rfl) (fun _ _ _ h => h) (Or.inl ⟨by rfl, ?hy3⟩) (by assumption) ?rest3
      case hy3 => (intro w' hSw; dsimp only [List.getElem_toArray, List.getElem_cons_zero, List.getElem_cons_succ] at hSw ⊢; go_simp; try (with_reducible rfl))
      try simp only [Act.put, List.getElem_toArray, List.getElem_cons_zero, List.getElem_cons_succ, List.setIfInBounds_toArray, List.set_cons_zero, List.set_cons_succ]
      refine wpAnyH_take (i := 3) (v := ?v4) rfl (by kernel_rfl) (by kernel_rfl) (by kernel_rfl) (fun _ _ _ h => h) (Or.inl ⟨by rfl, ?hy4⟩) (by assumption) ?rest4
      case hy4 => (intro w' hSw; dsimp only [List.getElem_toArray, List.getElem_cons_zero, List.getElem_cons_succ] at hSw ⊢; go_simp; try (with_reducible rfl))
      try simp only [Act.put, List.getElem_toArray, List.getElem_cons_zero, List.getElem_cons_succ, List.setIfInBounds_toArray, List.set_cons_zero, List.set_cons_succ]
      refine wpAnyH_take (i := 4) (v := ?v5) rfl (by kernel_rfl) (by kernel_rfl) (by kernel_rfl) (fun _ _ _ h => h) (Or.inl ⟨by rfl, ?hy5⟩) (by assumption) ?rest5
      case hy5 => (intro w' hSw; dsimp only [List.getElem_toArray, List.getElem_cons_zero, List.getElem_cons_succ] at hSw ⊢; go_simp; try (with_reducible rfl))
      try simp only [Act.put, List.getElem_toArray, List.getElem_cons_zero, List.getElem_cons_succ, List.setIfInBounds_toArray, List.set_cons_zero, List.set_cons_succ]
      refine wpAnyH_take (i := 5) (v := ?v6) rfl (by kernel_rfl) (by kernel_rfl) (by kernel_rfl) (fun _ _ _ h => h) (Or.inl ⟨by rfl, ?hy6⟩) (by assumption) ?rest6
      case hy6 => (intro w' hSw; dsimp only [List.getElem_toArray, List.getElem_cons_zero, List.getElem_cons_succ] at hSw ⊢; go_simp; try (with_reducible rfl))
      try simp only [Act.put, List.getElem_toArray, List.getElem_cons_zero, List.getElem_cons_succ, List.setIfInBounds_toArray, List.set_cons_zero, List.set_cons_succ]
      refine wpAnyH_take (i := 6) (v := ?v7) rfl (by kernel_rfl) (by kernel_rfl) (by kernel_rfl) (fun _ _ _ h => h) (Or.inl ⟨by rfl, ?hy7⟩) (by assumption) ?rest7
      case hy7 => (intro w' hSw; dsimp only [List.getElem_toArray, List.getElem_cons_zero, List.getElem_cons_succ] at hSw ⊢; go_simp; try (with_reducible rfl))
      try simp only [Act.put, List.getElem_toArray, List.getElem_cons_zero, List.getElem_cons_succ, List.setIfInBounds_toArray, List.set_cons_zero, List.set_cons_succ]
      refine wpAnyH_ready (rs := [7]) (by kernel_rfl) (by simp) ?_
      refine AllReadyH.cons rfl (fun K hK => ?_) AllReadyH.nil
      have nc := HC1.out
      dsimp only [List.getElem_toArray, List.getElem_cons_zero, List.getElem_cons_succ]
      go_simp
      clear nc
      refine hK.out _ _ (hHeld) (fun hHeld => ?_)
      clear hK K
      try simp only [Act.put, List.getElem_toArray, List.getElem_cons_zero, List.getElem_cons_succ, List.setIfInBounds_toArray, List.set_cons_zero, List.set_cons_succ]
      refine wpAnyH_ready (rs := [8]) (by kernel_rfl) (by simp) ?_
      refine AllReadyH.cons rfl (fun K hK => ?_) AllReadyH.nil
      dsimp only [List.getElem_toArray, List.getElem_cons_zero, List.getElem_cons_succ]
      go_simp
      refine (l10Without_calls _ ((a : Int) :: r) 0 _ U1.out (by simp) (by simp; omega)).mono ?_
      rintro e' w2 ⟨v2, rfl, o2, b2⟩
      have O2 : Hid (Own w2 V0.heap.size v2 r) := o2
      obtain ⟨a2, c2, hv2⟩ := row_slice O2.out
      subst hv2
      have R2 := hide (RD.out.below b2)
      have LAY := hide (RD.out.lay k km b2 O2.out)
      have hc2 := R2.out.mat.cell k km
      have fz2 := R2.out.fz k
      clear o2 b2 O2 RD U1 HC1
      refine hK.out _ _ (R2.out.arg.c2.1) (fun hHeld => ?_)
      clear hK K
      try simp only [Act.put, List.getElem_toArray, List.getElem_cons_zero, List.getElem_cons_succ, List.setIfInBounds_toArray, List.set_cons_zero, List.set_cons_succ]
      refine wpAnyH_take (i := 9) (v := ?v8) rfl (by kernel_rfl) (by kernel_rfl) (by kernel_rfl) (fun _ _ _ h => h) (Or.inl ⟨by rfl, ?hy8⟩) (by assumption) ?rest8
      case hy8 => (intro w' hSw; dsimp only [List.getElem_toArray, List.getElem_cons_zero, List.getElem_cons_succ] at hSw ⊢; go_simp; try (with_reducible rfl))
      try simp only [Act.put, List.getElem_toArray, List.getElem_cons_zero, List.getElem_cons_succ, List.setIfInBounds_toArray, List.set_cons_zero, List.set_cons_succ]
      refine wpAnyH_ready (rs := [10]) (by kernel_rfl) (by simp) ?_
      refine AllReadyH.cons rfl (fun K hK => ?_) AllReadyH.nil
      dsimp only [List.getElem_toArray, List.getElem_cons_zero, List.getElem_cons_succ]
      go_simp
      clear hc2 fz2 R2
      refine hK.out _ _ (LAY.out.arg.c2.1) (fun hHeld => ?_)
      clear hK K
      try simp only [Act.put, List.getElem_toArray, List.getElem_cons_zero, List.getElem_cons_succ, List.setIfInBounds_toArray, List.set_cons_zero, List.set_cons_succ]
      refine wpAnyH_done (by kernel_rfl) ?_ _
      refine NoPanic.normal ?_
      clear hHeld
      obtain ⟨j0, hj0⟩ : ∃ j, k = N + j := ⟨k - N, by omega⟩
      have AR := hide (OK.out.all.pop a k r h2 H4.out)
      have IN := hide (fun q (q1 : a < q) (q2 : q < a + 2 ^ k) => OK.out.inside (a := a) (o := k) (by rw [lkM_nat]; exact T.out.1) q q1 q2)
      have T2 := T.out.2.1
      have J0 : k - N = j0 := by omega
      rw [J0] at HX
      have HJ := hide hj0
      have a31 : a < 32 := by have := Nat.one_le_two_pow (n := k); omega
      clear T J0 hj0 k5 k6 RS H4 H3
      go_wp2_with fail
      go_loopw [7] (fun v wr => ∃ (j : Nat) (G : Om) (m' : List (List Int)) (us : List Value), v = .int .i64 ((N + j : Nat) : Int) ∧ N + j ≤ 5 ∧ a + 2 ^ (N + j) ≤ 32 ∧ AllRows G m' ∧ (∀ q, a < q → q < a + 2 ^ (N + j) → G.getD q none = none) ∧ plR a N j m' = X ∧ Trm w wr lo hi t0 g (.slice (some ⟨g, 0, none⟩) m.length cap) h us m' hs) (fun v _ => (intOf v).toNat)
      case atStart =>
        refine ⟨j0, _, _, _, by rw [← HJ.out], by rw [← HJ.out]; omega, by rw [← HJ.out]; exact T2, AR.out, fun q q1 q2 => ?_, HX.out.symm, LAY.out⟩
        rw [← HJ.out] at q2
        rw [getD_set _ _ _ _ _ (by rw [OK.out.all.len]; exact a31), if_neg (by omega)]
        exact IN.out q q1 q2
      case round =>
        obtain ⟨j, G, m', us, rfl, hj5, hjb, hG, hfree, hpl, htr⟩ := hrel
        have R3 := hide htr
        have PL := hide hpl
        have GA := hide hG
        have FR := hide hfree
        clear htr hpl hG hfree LAY AR IN HX T2
        cases j with
        | zero =>
          obtain rfl : m' = X := PL.out
          have e0 : ((N + 0 : Nat) : Int) = (N : Int) := rfl
          rw [e0]
          have HRI := hide OK.out.heldIs.rise
          have h32 := OK.out.heldIs.short
          rcases R3.out.held.2 with ⟨rfl, hl0⟩ | ⟨b, ch, cur, rfl, _⟩
          · obtain rfl : hs = [] := List.eq_nil_of_length_eq_zero hl0
            have PE : Hid (Y = [((a : Int), (N : Int))]) := HY.out
            have y1 := R3.out.arg.c2.2
            clear e0 hj5 hjb hl0
            go_wp2_with fail
            go_loop [9] (fun v => v = .int .i64 0) (fun v => 0)
            case atStart => exact rfl
            case round =>
              obtain rfl := hrel
              have bb5 := below_box wr (.cells #[] 136)
              have OL5 : Hid (OwnH (wr.alloc (.cells #[] 136)) wr.heap.size (.slice (some ⟨wr.heap.size, 0, none⟩) 0 0) []) := World.ownsRow_lit wr #[] 0 (Nat.le_refl _) (Nat.zero_le _) rfl
              have R5 := hide (R3.out.below bb5)
              have SB5 := hide bb5.size
              have y5 := R5.out.arg.c2.2
              have BB5 := hide bb5
              clear bb5
              go_wp2_with (at_builtin; refine wpList_app_hl rfl _ _ rfl wr.heap.size (.slice (some ⟨wr.heap.size, 0, none⟩) 0 0) rfl [] OL5.out _ rfl [] (rdH_nil _) (by simp) SB5.out ?_)
              intro v6 w6 o6 g6
              obtain ⟨a6, k6, hv6⟩ := o6.slice
              have O6 : Hid (OwnH w6 wr.heap.size v6 []) := o6
              have hv6' : v6 = .slice a6 0 k6 := by simpa using hv6
              subst hv6'
              have b6 := BB5.out.grown g6 BB5.out.size (fun k hk => by have e2 : wr.heap.size = k := Option.some.inj hk; omega)
              have b7 := below_box w6 (.cells #[.int .i64 (a : Int), .int .i64 (N : Int)] 136)
              have RX7 := hide (rdH_one w6 (a : Int) (N : Int))
              have O7 := hide (rowsBelow O6.out b7)
              have B7 := hide (b6.trans (b7.mono b6.size))
              have SB7 : Hid (wr.heap.size ≤ (w6.alloc (.cells #[.int .i64 (a : Int), .int .i64 (N : Int)] 136)).heap.size) := B7.out.size
              clear o6 g6 hv6 b6 b7 OL5 R5 SB5 y5 BB5
              go_wp2_with (at_builtin; refine wpList_app_hl rfl _ _ rfl wr.heap.size (.slice a6 0 k6) rfl [] O7.out (.slice (some ⟨w6.heap.size, 0, none⟩) 1 1) rfl [((a : Int), (N : Int))] RX7.out (by simp) SB7.out ?_)
              intro v8 w8 o8 g8
              have O8 : Hid (OwnH w8 wr.heap.size v8 [((a : Int), (N : Int))]) := o8
              obtain ⟨a8, k8, hv8⟩ := O8.out.slice
              obtain ⟨l8, hl8⟩ : ∃ l, l = [((a : Int), (N : Int))].length := ⟨_, rfl⟩
              rw [← hl8] at hv8
              subst hv8
              have B8 := hide (B7.out.grown g8 B7.out.size (fun k hk => (World.ownsRow.lt O7.out k hk).1))
              have R8 := hide (R3.out.below B8.out)
              have y8 := R8.out.arg.c2.2
              have SB8 : Hid (wr.heap.size ≤ w8.heap.size) := B8.out.size
              clear o8 g8 hl8 O6 RX7 O7 B7 SB7
              go_wp2_with (at_builtin; refine wpList_app_hl rfl _ _ rfl wr.heap.size (.slice a8 l8 k8) rfl [((a : Int), (N : Int))] O8.out _ rfl [] (rdH_nil _) (by simp) SB8.out ?_)
              intro v9 w9 o9 g9
              have B9 := hide (B8.out.grown g9 B8.out.size (fun k hk => (World.ownsRow.lt O8.out k hk).1))
              have R9 := hide (R3.out.below B9.out)
              have O9 : Hid (OwnH w9 wr.heap.size v9 Y) := by show OwnH w9 wr.heap.size v9 Y; rw [PE.out]; simpa using o9
              have SB9 : Hid (wr.heap.size ≤ w9.heap.size) := B9.out.size
              obtain ⟨a9, k9, hv9⟩ := O9.out.slice
              obtain ⟨l9, hl9⟩ : ∃ l, l = Y.length := ⟨_, rfl⟩
              rw [← hl9] at hv9
              subst hv9
              have gw := R9.out.arg.frozen 1
              have gv := R9.out.arg.c2.2
              have gx := grown_setCell w9 w.heap.size 1 (.slice a9 l9 k9)
              have X10 := R9.out.arg.set 1 (.slice a9 l9 k9)
              have Y10 := R9.out.res.kept gx (by simp)
              have M10 := MatT.keptBox ⟨_, R9.out.mat, R9.out.nt⟩ R9.out.arg (by decide) (by decide) gx
              have O10 := World.ownsRow.kept O9.out gx (.inr (R9.out.arg.offT O9.out (by decide)))
              have z0 := X10.c2.1
              have z1 := X10.c2.2
              have q0 := Y10.frozen 0
              have q1 := Y10.frozen 1
              have e0 := Y10.c2.1
              have e1 := Y10.c2.2
              have g11 := grown_tr (grown_setCell (w9.setCell ⟨w.heap.size, 1, none⟩ (.slice a9 l9 k9)) (w.heap.size + 1) 0 (.slice (some ⟨g, 0, none⟩) m.length cap)) (grown_setCell _ (w.heap.size + 1) 1 (.slice a9 l9 k9))
              have Z11 := hide ((Y10.set 0 (.slice (some ⟨g, 0, none⟩) m.length cap)).set 1 (.slice a9 l9 k9))
              have M11 := hide (M10.keptBox Y10 (by decide) (by decide) g11)
              have O11 := hide (World.ownsRow.kept O10 g11 (.inr (Y10.offT O10 (by decide))))
              have bw : Below w.heap.size w9 w9 := Below.refl _ _
              have C11 := hide (R9.out.chg.andBelow ((bw.grown gx R9.out.chg.size (fun k hk => by cases hk; exact Nat.le_refl _)).grown g11 (Nat.le_trans R9.out.chg.size gx.size) (fun k hk => by cases hk; omega)))
              have S11 := hide (Nat.le_trans gx.size g11.size)
              have LW : Hid (lo ≤ wr.heap.size) := by show _ ≤ _; have := R3.out.gl; have := R3.out.gh; have := R3.out.lh; have := R3.out.chg.size; omega
              clear gx X10 Y10 M10 O10 g11 bw o9 g9 hl9 R8 B8 O8 y8 SB8
              go_wp2
              refine bodyPost_ret (res_rm2 rfl _ _ (w.heap.size + 1) _ _ (0, 0) rfl Z11.out) rfl ⟨_, rfl, ⟨M11.out.wider (Nat.le_refl _) S11.out, rowsMono O11.out LW.out, fun k hk => (World.ownsRow.lt O11.out k hk).2⟩, fun l u hk => C11.out.wider (hk g rfl).1 (hk g rfl).2⟩
          · have HR := hide (OwnH.rd R3.out.held)
            obtain ⟨a', c', e9, le1, le2⟩ := HR.out.sl
            simp only [Value.slice.injEq, true_and] at e9
            obtain ⟨e8, rfl⟩ := e9
            have y1 := R3.out.arg.c2.2
            have CM := hide le2
            clear e8 le2 e0 hj5 hjb
            go_wp2_with fail
            go_loop [9] (fun v => ∃ t : Nat, t ≤ hs.length ∧ v = .int .i64 (t : Int) ∧ ∀ j, j < t → (hs.getD j hl0).1 < (a : Int)) (fun v => hs.length - (intOf v).toNat)
            case atStart => exact ⟨0, Nat.zero_le _, rfl, fun j hj => by omega⟩
            case round =>
              obtain ⟨t, ht, rfl, hlow⟩ := hrel
              have HT := hide hlow
              clear hlow
              by_cases hlt : t < hs.length
              · have hlt' : (t : Int) < (hs.length : Int) := by omega
                obtain ⟨b2, o2, x, z, e9, hx, _, d0, d1⟩ := HR.out.at t hlt
                simp only [Option.some.injEq, Addr.mk.injEq, and_true] at e9
                obtain ⟨rfl, rfl⟩ := e9
                rw [Nat.zero_add] at d0 d1
                have HXX := hide hx
                clear hx d1
                by_cases hxa : x < (a : Int)
                · have hxd := decide_eq_true hxa
                  go_wp2
                  go_round
                  case rel =>
                    refine ⟨t + 1, by omega, by go_num, fun j hj => ?_⟩
                    by_cases e : j = t
                    · subst e; rw [HXX.out]; exact hxa
                    · exact HT.out j (by omega)
                  case measure => simp [intOf]; omega
                · have hxd := decide_eq_false hxa
                  have PE : Hid (Y = hs.take t ++ [((a : Int), (N : Int))] ++ hs.drop t) := by
                    show Y = _
                    rw [HY.out]
                    exact putH_at _ _ hs t HRI.out ht HT.out (fun _ => by rw [HXX.out]; exact hxa) HN0.out
                  have bb5 := below_box wr (.cells #[] 136)
                  have OL5 : Hid (OwnH (wr.alloc (.cells #[] 136)) wr.heap.size (.slice (some ⟨wr.heap.size, 0, none⟩) 0 0) []) := World.ownsRow_lit wr #[] 0 (Nat.le_refl _) (Nat.zero_le _) rfl
                  have R5 := hide (R3.out.below bb5)
                  have SB5 := hide bb5.size
                  have y5 := R5.out.arg.c2.2
                  have ti : (t : Int) ≤ (hs.length : Int) := by omega
                  have tc : (t : Int) ≤ (ch : Int) := by omega
                  have BB5 := hide bb5
                  clear bb5
                  go_wp2_with (at_builtin; refine wpList_app_hl rfl _ _ rfl wr.heap.size (.slice (some ⟨wr.heap.size, 0, none⟩) 0 0) rfl [] OL5.out (.slice (some ⟨b, 0, none⟩) t ch) rfl (hs.take t) ((OwnH.rd R5.out.held).cutTo t (by omega)) (by simp; omega) SB5.out ?_)
                  intro v6 w6 o6 g6
                  obtain ⟨a6, k6, hv6⟩ := o6.slice
                  obtain ⟨l6, hl6⟩ : ∃ l, l = (hs.take t).length := ⟨_, rfl⟩
                  have O6 : Hid (OwnH w6 wr.heap.size v6 (hs.take t)) := o6
                  have hv6' : v6 = .slice a6 l6 k6 := by rw [hl6]; simpa using hv6
                  subst hv6'
                  have b6 := BB5.out.grown g6 BB5.out.size (fun k hk => by have e2 : wr.heap.size = k := Option.some.inj hk; omega)
                  have b7 := below_box w6 (.cells #[.int .i64 (a : Int), .int .i64 (N : Int)] 136)
                  have RX7 := hide (rdH_one w6 (a : Int) (N : Int))
                  have O7 := hide (rowsBelow O6.out b7)
                  have B7 := hide (b6.trans (b7.mono b6.size))
                  have R7 := hide (R3.out.below (b6.trans (b7.mono b6.size)))
                  have SB7 : Hid (wr.heap.size ≤ (w6.alloc (.cells #[.int .i64 (a : Int), .int .i64 (N : Int)] 136)).heap.size) := B7.out.size
                  clear o6 g6 hv6 hl6 b6 b7 OL5 R5 SB5 y5 BB5
                  go_wp2_with (at_builtin; refine wpList_app_hl rfl _ _ rfl wr.heap.size (.slice a6 l6 k6) rfl (hs.take t) O7.out (.slice (some ⟨w6.heap.size, 0, none⟩) 1 1) rfl [((a : Int), (N : Int))] RX7.out (by simp; omega) SB7.out ?_)
                  intro v8 w8 o8 g8
                  obtain ⟨a8, k8, hv8⟩ := o8.slice
                  obtain ⟨l8, hl8⟩ : ∃ l, l = (hs.take t ++ [((a : Int), (N : Int))]).length := ⟨_, rfl⟩
                  rw [← hl8] at hv8
                  subst hv8
                  have O8 := hide o8
                  have B8 := hide (B7.out.grown g8 B7.out.size (fun k hk => (World.ownsRow.lt O7.out k hk).1))
                  have R8 := hide (R3.out.below B8.out)
                  have y8 := R8.out.arg.c2.2
                  have SB8 : Hid (wr.heap.size ≤ w8.heap.size) := B8.out.size
                  clear o8 g8 hl8 O6 RX7 O7 B7 R7 SB7
                  have RX9 := hide ((OwnH.rd R8.out.held).cutFrom t (by omega) (t * 2) (fun _ => by omega))
                  have tc2 : (t : Int) < (ch : Int) := by omega
                  go_wp2_with (at_builtin; refine wpList_app_hl rfl _ _ rfl wr.heap.size (.slice a8 l8 k8) rfl (hs.take t ++ [((a : Int), (N : Int))]) O8.out (.slice (some ⟨b, t * 2, none⟩) (hs.length - t) (ch - t)) rfl (hs.drop t) RX9.out (by simp; omega) SB8.out ?_)
                  intro v9 w9 o9 g9

                  have B9 := hide (B8.out.grown g9 B8.out.size (fun k hk => (World.ownsRow.lt O8.out k hk).1))
                  have R9 := hide (R3.out.below B9.out)
                  have O9 : Hid (OwnH w9 wr.heap.size v9 Y) := by rw [PE.out, List.append_assoc]; exact o9
                  have SB9 : Hid (wr.heap.size ≤ w9.heap.size) := B9.out.size
                  obtain ⟨a9, k9, hv9⟩ := O9.out.slice
                  obtain ⟨l9, hl9⟩ : ∃ l, l = Y.length := ⟨_, rfl⟩
                  rw [← hl9] at hv9
                  subst hv9
                  have gw := R9.out.arg.frozen 1
                  have gv := R9.out.arg.c2.2
                  have gx := grown_setCell w9 w.heap.size 1 (.slice a9 l9 k9)
                  have X10 := R9.out.arg.set 1 (.slice a9 l9 k9)
                  have Y10 := R9.out.res.kept gx (by simp)
                  have M10 := MatT.keptBox ⟨_, R9.out.mat, R9.out.nt⟩ R9.out.arg (by decide) (by decide) gx
                  have O10 := World.ownsRow.kept O9.out gx (.inr (R9.out.arg.offT O9.out (by decide)))
                  have z0 := X10.c2.1
                  have z1 := X10.c2.2
                  have q0 := Y10.frozen 0
                  have q1 := Y10.frozen 1
                  have e0 := Y10.c2.1
                  have e1 := Y10.c2.2
                  have g11 := grown_tr (grown_setCell (w9.setCell ⟨w.heap.size, 1, none⟩ (.slice a9 l9 k9)) (w.heap.size + 1) 0 (.slice (some ⟨g, 0, none⟩) m.length cap)) (grown_setCell _ (w.heap.size + 1) 1 (.slice a9 l9 k9))
                  have Z11 := hide ((Y10.set 0 (.slice (some ⟨g, 0, none⟩) m.length cap)).set 1 (.slice a9 l9 k9))
                  have M11 := hide (M10.keptBox Y10 (by decide) (by decide) g11)
                  have O11 := hide (World.ownsRow.kept O10 g11 (.inr (Y10.offT O10 (by decide))))
                  have bw : Below w.heap.size w9 w9 := Below.refl _ _
                  have C11 := hide (R9.out.chg.andBelow ((bw.grown gx R9.out.chg.size (fun k hk => by cases hk; exact Nat.le_refl _)).grown g11 (Nat.le_trans R9.out.chg.size gx.size) (fun k hk => by cases hk; omega)))
                  have S11 := hide (Nat.le_trans gx.size g11.size)
                  have LW : Hid (lo ≤ wr.heap.size) := by show _ ≤ _; have := R3.out.gl; have := R3.out.gh; have := R3.out.lh; have := R3.out.chg.size; omega
                  clear gx X10 Y10 M10 O10 g11 bw o9 g9 hl9 R8 B8 O8 y8 SB8
                  go_wp2
                  refine bodyPost_ret (res_rm2 rfl _ _ (w.heap.size + 1) _ _ (0, 0) rfl Z11.out) rfl ⟨_, rfl, ⟨M11.out.wider (Nat.le_refl _) S11.out, rowsMono O11.out LW.out, fun k hk => (World.ownsRow.lt O11.out k hk).2⟩, fun l u hk => C11.out.wider (hk g rfl).1 (hk g rfl).2⟩

              · obtain rfl : t = hs.length := by omega
                have PE : Hid (Y = hs ++ [((a : Int), (N : Int))] ++ hs.drop hs.length) := by
                  show Y = _
                  rw [HY.out]
                  have := putH_at (a : Int) (N : Int) hs hs.length HRI.out ht HT.out (fun h => absurd h hlt) HN0.out
                  rw [List.take_length] at this
                  exact this
                have bb5 := below_box wr (.cells #[] 136)
                have OL5 : Hid (OwnH (wr.alloc (.cells #[] 136)) wr.heap.size (.slice (some ⟨wr.heap.size, 0, none⟩) 0 0) []) := World.ownsRow_lit wr #[] 0 (Nat.le_refl _) (Nat.zero_le _) rfl
                have R5 := hide (R3.out.below bb5)
                have SB5 := hide bb5.size
                have y5 := R5.out.arg.c2.2
                have ti : (hs.length : Int) ≤ (hs.length : Int) := by omega
                have tc : (hs.length : Int) ≤ (ch : Int) := by omega
                have BB5 := hide bb5
                clear bb5
                go_wp2_with (at_builtin; refine wpList_app_hl rfl _ _ rfl wr.heap.size (.slice (some ⟨wr.heap.size, 0, none⟩) 0 0) rfl [] OL5.out (.slice (some ⟨b, 0, none⟩) hs.length ch) rfl (hs.take hs.length) ((OwnH.rd R5.out.held).cutTo hs.length (by omega)) (by simp; omega) SB5.out ?_)
                intro v6 w6 o6 g6
                obtain ⟨a6, k6, hv6⟩ := o6.slice
                obtain ⟨l6, hl6⟩ : ∃ l, l = (hs).length := ⟨_, rfl⟩
                have O6 : Hid (OwnH w6 wr.heap.size v6 (hs)) := o6
                have hv6' : v6 = .slice a6 l6 k6 := by rw [hl6]; simpa using hv6
                subst hv6'
                have b6 := BB5.out.grown g6 BB5.out.size (fun k hk => by have e2 : wr.heap.size = k := Option.some.inj hk; omega)
                have b7 := below_box w6 (.cells #[.int .i64 (a : Int), .int .i64 (N : Int)] 136)
                have RX7 := hide (rdH_one w6 (a : Int) (N : Int))
                have O7 := hide (rowsBelow O6.out b7)
                have B7 := hide (b6.trans (b7.mono b6.size))
                have R7 := hide (R3.out.below (b6.trans (b7.mono b6.size)))
                have SB7 : Hid (wr.heap.size ≤ (w6.alloc (.cells #[.int .i64 (a : Int), .int .i64 (N : Int)] 136)).heap.size) := B7.out.size
                clear o6 g6 hv6 hl6 b6 b7 OL5 R5 SB5 y5 BB5
                go_wp2_with (at_builtin; refine wpList_app_hl rfl _ _ rfl wr.heap.size (.slice a6 l6 k6) rfl (hs) O7.out (.slice (some ⟨w6.heap.size, 0, none⟩) 1 1) rfl [((a : Int), (N : Int))] RX7.out (by simp; omega) SB7.out ?_)
                intro v8 w8 o8 g8
                obtain ⟨a8, k8, hv8⟩ := o8.slice
                obtain ⟨l8, hl8⟩ : ∃ l, l = (hs ++ [((a : Int), (N : Int))]).length := ⟨_, rfl⟩
                rw [← hl8] at hv8
                subst hv8
                have O8 := hide o8
                have B8 := hide (B7.out.grown g8 B7.out.size (fun k hk => (World.ownsRow.lt O7.out k hk).1))
                have R8 := hide (R3.out.below B8.out)
                have y8 := R8.out.arg.c2.2
                have SB8 : Hid (wr.heap.size ≤ w8.heap.size) := B8.out.size
                clear o8 g8 hl8 O6 RX7 O7 B7 R7 SB7
                have hnil : hs.drop hs.length = [] := List.drop_eq_nil_of_le (Nat.le_refl _)
                have RX9 : Hid (∀ (q : Option Addr) (c2 : Nat), c2 ≤ maxLen → (q = none → c2 = 0) → RdH w8 (.slice q 0 c2) (hs.drop hs.length)) := by
                  intro q c2 h1 h2
                  rw [hnil]
                  exact ⟨_, c2, rfl, Nat.zero_le _, ⟨h1, h2⟩, .inl rfl⟩
                clear hnil
                by_cases hcc : hs.length < ch
                · have hcc2 : (hs.length : Int) < (ch : Int) := by omega
                  go_wp2_with (at_builtin; refine wpList_app_hl rfl _ _ rfl wr.heap.size (.slice a8 l8 k8) rfl (hs ++ [((a : Int), (N : Int))]) O8.out _ rfl (hs.drop hs.length) (RX9.out _ _ (by first | exact Nat.zero_le _ | exact Nat.le_trans (Nat.sub_le _ _) CM.out) (fun e => by cases e)) (by simp; omega) SB8.out ?_)
                  intro v9 w9 o9 g9
                  have B9 := hide (B8.out.grown g9 B8.out.size (fun k hk => (World.ownsRow.lt O8.out k hk).1))
                  have R9 := hide (R3.out.below B9.out)
                  have O9 : Hid (OwnH w9 wr.heap.size v9 Y) := by show OwnH w9 wr.heap.size v9 Y; rw [PE.out]; simpa using o9
                  have SB9 : Hid (wr.heap.size ≤ w9.heap.size) := B9.out.size
                  obtain ⟨a9, k9, hv9⟩ := O9.out.slice
                  obtain ⟨l9, hl9⟩ : ∃ l, l = Y.length := ⟨_, rfl⟩
                  rw [← hl9] at hv9
                  subst hv9
                  have gw := R9.out.arg.frozen 1
                  have gv := R9.out.arg.c2.2
                  have gx := grown_setCell w9 w.heap.size 1 (.slice a9 l9 k9)
                  have X10 := R9.out.arg.set 1 (.slice a9 l9 k9)
                  have Y10 := R9.out.res.kept gx (by simp)
                  have M10 := MatT.keptBox ⟨_, R9.out.mat, R9.out.nt⟩ R9.out.arg (by decide) (by decide) gx
                  have O10 := World.ownsRow.kept O9.out gx (.inr (R9.out.arg.offT O9.out (by decide)))
                  have z0 := X10.c2.1
                  have z1 := X10.c2.2
                  have q0 := Y10.frozen 0
                  have q1 := Y10.frozen 1
                  have e0 := Y10.c2.1
                  have e1 := Y10.c2.2
                  have g11 := grown_tr (grown_setCell (w9.setCell ⟨w.heap.size, 1, none⟩ (.slice a9 l9 k9)) (w.heap.size + 1) 0 (.slice (some ⟨g, 0, none⟩) m.length cap)) (grown_setCell _ (w.heap.size + 1) 1 (.slice a9 l9 k9))
                  have Z11 := hide ((Y10.set 0 (.slice (some ⟨g, 0, none⟩) m.length cap)).set 1 (.slice a9 l9 k9))
                  have M11 := hide (M10.keptBox Y10 (by decide) (by decide) g11)
                  have O11 := hide (World.ownsRow.kept O10 g11 (.inr (Y10.offT O10 (by decide))))
                  have bw : Below w.heap.size w9 w9 := Below.refl _ _
                  have C11 := hide (R9.out.chg.andBelow ((bw.grown gx R9.out.chg.size (fun k hk => by cases hk; exact Nat.le_refl _)).grown g11 (Nat.le_trans R9.out.chg.size gx.size) (fun k hk => by cases hk; omega)))
                  have S11 := hide (Nat.le_trans gx.size g11.size)
                  have LW : Hid (lo ≤ wr.heap.size) := by show _ ≤ _; have := R3.out.gl; have := R3.out.gh; have := R3.out.lh; have := R3.out.chg.size; omega
                  clear gx X10 Y10 M10 O10 g11 bw o9 g9 hl9 R8 B8 O8 y8 SB8
                  go_wp2
                  refine bodyPost_ret (res_rm2 rfl _ _ (w.heap.size + 1) _ _ (0, 0) rfl Z11.out) rfl ⟨_, rfl, ⟨M11.out.wider (Nat.le_refl _) S11.out, rowsMono O11.out LW.out, fun k hk => (World.ownsRow.lt O11.out k hk).2⟩, fun l u hk => C11.out.wider (hk g rfl).1 (hk g rfl).2⟩
                · obtain rfl : ch = hs.length := by omega
                  go_wp2_with (at_builtin; refine wpList_app_hl rfl _ _ rfl wr.heap.size (.slice a8 l8 k8) rfl (hs ++ [((a : Int), (N : Int))]) O8.out _ rfl (hs.drop hs.length) (RX9.out _ _ (by first | exact Nat.zero_le _ | exact Nat.le_trans (Nat.sub_le _ _) CM.out) (fun e => by cases e)) (by simp; omega) SB8.out ?_)
                  intro v9 w9 o9 g9
                  have B9 := hide (B8.out.grown g9 B8.out.size (fun k hk => (World.ownsRow.lt O8.out k hk).1))
                  have R9 := hide (R3.out.below B9.out)
                  have O9 : Hid (OwnH w9 wr.heap.size v9 Y) := by show OwnH w9 wr.heap.size v9 Y; rw [PE.out]; simpa using o9
                  have SB9 : Hid (wr.heap.size ≤ w9.heap.size) := B9.out.size
                  obtain ⟨a9, k9, hv9⟩ := O9.out.slice
                  obtain ⟨l9, hl9⟩ : ∃ l, l = Y.length := ⟨_, rfl⟩
                  rw [← hl9] at hv9
                  subst hv9
                  have gw := R9.out.arg.frozen 1
                  have gv := R9.out.arg.c2.2
                  have gx := grown_setCell w9 w.heap.size 1 (.slice a9 l9 k9)
                  have X10 := R9.out.arg.set 1 (.slice a9 l9 k9)
                  have Y10 := R9.out.res.kept gx (by simp)
                  have M10 := MatT.keptBox ⟨_, R9.out.mat, R9.out.nt⟩ R9.out.arg (by decide) (by decide) gx
                  have O10 := World.ownsRow.kept O9.out gx (.inr (R9.out.arg.offT O9.out (by decide)))
                  have z0 := X10.c2.1
                  have z1 := X10.c2.2
                  have q0 := Y10.frozen 0
                  have q1 := Y10.frozen 1
                  have e0 := Y10.c2.1
                  have e1 := Y10.c2.2
                  have g11 := grown_tr (grown_setCell (w9.setCell ⟨w.heap.size, 1, none⟩ (.slice a9 l9 k9)) (w.heap.size + 1) 0 (.slice (some ⟨g, 0, none⟩) m.length cap)) (grown_setCell _ (w.heap.size + 1) 1 (.slice a9 l9 k9))
                  have Z11 := hide ((Y10.set 0 (.slice (some ⟨g, 0, none⟩) m.length cap)).set 1 (.slice a9 l9 k9))
                  have M11 := hide (M10.keptBox Y10 (by decide) (by decide) g11)
                  have O11 := hide (World.ownsRow.kept O10 g11 (.inr (Y10.offT O10 (by decide))))
                  have bw : Below w.heap.size w9 w9 := Below.refl _ _
                  have C11 := hide (R9.out.chg.andBelow ((bw.grown gx R9.out.chg.size (fun k hk => by cases hk; exact Nat.le_refl _)).grown g11 (Nat.le_trans R9.out.chg.size gx.size) (fun k hk => by cases hk; omega)))
                  have S11 := hide (Nat.le_trans gx.size g11.size)
                  have LW : Hid (lo ≤ wr.heap.size) := by show _ ≤ _; have := R3.out.gl; have := R3.out.gh; have := R3.out.lh; have := R3.out.chg.size; omega
                  clear gx X10 Y10 M10 O10 g11 bw o9 g9 hl9 R8 B8 O8 y8 SB8
                  go_wp2
                  refine bodyPost_ret (res_rm2 rfl _ _ (w.heap.size + 1) _ _ (0, 0) rfl Z11.out) rfl ⟨_, rfl, ⟨M11.out.wider (Nat.le_refl _) S11.out, rowsMono O11.out LW.out, fun k hk => (World.ownsRow.lt O11.out k hk).2⟩, fun l u hk => C11.out.wider (hk g rfl).1 (hk g rfl).2⟩
        | succ j =>
          obtain ⟨y, hy⟩ : ∃ y, y = N + j := ⟨_, rfl⟩
          have hv : ((N + (j + 1) : Nat) : Int) = (y : Int) + 1 := by omega
          rw [hv]
          have HY2 := hide hy
          have yN : (N : Int) < (y : Int) + 1 := by omega
          have y5 : y ≤ 5 := by omega
          have y6 : y < m'.length := by rw [GA.out.six]; omega
          have ym : (y : Int) < (m.length : Int) := by have := H6.out; omega
          have e2 : 2 ^ (N + (j + 1)) = 2 ^ y * 2 := by rw [hy, show N + (j + 1) = (N + j) + 1 from rfl, Nat.pow_succ]
          have p1 := Nat.one_le_two_pow (n := y)
          have WP := shl_i y y5
          obtain ⟨p, hp⟩ : ∃ p, p = pw y := ⟨_, rfl⟩
          have hq : ((a + 2 ^ y : Nat) : Int) = (a : Int) + p := by rw [hp]; unfold pw; omega
          have p0 : 1 ≤ p := by rw [hp]; exact pw_pos y
          have p32 : p ≤ 32 := by rw [hp]; exact pw_le y y5
          rw [← hp] at WP
          have wap : IntKind.i64.wrap ((a : Int) + p) = (a : Int) + p := by
            simp [IntKind.wrap, IntKind.bits, IntKind.signed]
            omega
          have WQ : Hid (IntKind.i64.wrap ((a : Int) + IntKind.i64.wrap ((2 : Int) ^ min (IntKind.u64.wrap (y : Int)).toNat 64)) = (a : Int) + p) := by
            show _ = _
            rw [WP, wap]
          clear WP wap
          have HQ := hide hq
          have q32 : a + 2 ^ y < 32 := by omega
          have hn := FR.out (a + 2 ^ y) (by omega) (by omega)
          have A2 := GA.out.put (a + 2 ^ y) y q32 (by omega) hn
          have xl := GA.out.short y (by omega)
          have nin : ¬ ((a : Int) + p) ∈ m'.getD y [] := by
            intro hin
            have := ((GA.out.row y (by omega)).mem _).1 hin
            rw [← hq, lkM_nat, hn] at this
            cases this
          have A3 := hide A2
          have P3 : Hid (plR a N j (m'.set y (putS ((a + 2 ^ y : Nat) : Int) (m'.getD y []))) = X) := by
            have := PL.out
            unfold plR at this
            rw [hy]
            exact this
          have F3 : Hid (∀ q, a < q → q < a + 2 ^ y → (G.set (a + 2 ^ y) (some (y : Int))).getD q none = none) := by
            intro q q1 q2
            rw [getD_set _ _ _ _ _ (by rw [GA.out.len]; exact q32), if_neg (by omega)]
            exact FR.out q q1 (by omega)
          have hc := R3.out.mat.cell y y6
          have ho := R3.out.mat.row y y6
          obtain ⟨u, hu⟩ : ∃ u, u = us.getD y nilRow := ⟨_, rfl⟩
          obtain ⟨xs, hxs⟩ : ∃ xs, xs = m'.getD y [] := ⟨_, rfl⟩
          rw [← hxs] at ho xl nin A3 P3
          rw [← hu] at hc ho
          rw [hq] at A3 P3
          have NI := hide nin
          obtain ⟨au, cu, hus⟩ := row_slice ho
          subst hus
          have U := hide (Own.rd ho)
          have y0 := R3.out.arg.c2.1
          clear hv hy e2 p1 hp hq hn A2 nin ho hu hxs HQ y0
          go_wp2_with fail
          refine wp_region_noPanic ?_
          refine wp_region_held_drew (S := (fun w' => w'.cell? ⟨w.heap.size, 0, none⟩ = some (.slice (some ⟨g, 0, none⟩) m.length cap))) (by kernel_rfl) ((R3.out.below (Below.refl _ _).drew).arg.c2.1) (fun hHeld => ?_)
          have RD := hide (R3.out.below (Below.refl _ _).drew)
          have U1 := hide (U.out.below (Below.refl _ _).drew)
          have hc1 : (World.drew wr).cell? ⟨g, y, none⟩ = some (.slice au xs.length cu) := hc
          have HC1 := hide hc1
          clear hc hc1 U
          generalize World.drew wr = V0 at RD U1 HC1 hHeld ⊢
          refine wpAnyH_take (i := 0) (v := ?v9) rfl (by kernel_rfl) (by kernel_rfl) (by kernel_rfl) (fun _ _ _ h => h) (Or.inl ⟨by rfl, ?hy9⟩) (by assumption) ?rest9
          case hy9 => (intro w' hSw; dsimp only [List.getElem_toArray, List.getElem_cons_zero, List.getElem_cons_succ] at hSw ⊢; go_simp; try (with_reducible rfl))
          try simp only [Act.put, List.getElem_toArray, List.getElem_cons_zero, List.getElem_cons_succ, List.setIfInBounds_toArray, List.set_cons_zero, List.set_cons_succ]
          refine wpAnyH_take (i := 1) (v := ?v10) rfl (by kernel_rfl) (by kernel_rfl) (by kernel_rfl) (fun _ _ _ h => h) (Or.inl ⟨by rfl, ?hy10⟩) (by assumption) ?rest10
          case hy10 => (intro w' hSw; dsimp only [List.getElem_toArray, List.getElem_cons_zero, List.getElem_cons_succ] at hSw ⊢; go_simp; try (with_reducible rfl))
          try simp only [Act.put, List.getElem_toArray, List.getElem_cons_zero, List.getElem_cons_succ, List.setIfInBounds_toArray, List.set_cons_zero, List.set_cons_succ]
          refine wpAnyH_take (i := 2) (v := ?v11) rfl (by kernel_rfl) (by kernel_rfl) (by kernel_rfl) (fun _ _ _ h => h) (Or.inl ⟨by rfl, ?hy11⟩) (by assumption) ?rest11
          case hy11 => (intro w' hSw; dsimp only [List.getElem_toArray, List.getElem_cons_zero, List.getElem_cons_succ] at hSw ⊢; go_simp; try (with_reducible rfl))
          try simp only [Act.put, List.getElem_toArray, List.getElem_cons_zero, List.getElem_cons_succ, List.setIfInBounds_toArray, List.set_cons_zero, List.set_cons_succ]
          refine wpAnyH_take (i := 3) (v := ?v12) rfl (by kernel_rfl) (by kernel_rfl) (by kernel_rfl) (fun _ _ _ h => h) (Or.inl ⟨by rfl, ?hy12⟩) (by assumption) ?rest12
          case hy12 => (intro w' hSw; dsimp only [List.getElem_toArray, List.getElem_cons_zero, List.getElem_cons_succ] at hSw ⊢; go_simp; try (with_reducible rfl))
          try simp only [Act.put, List.getElem_toArray, List.getElem_cons_zero, List.getElem_cons_succ, List.setIfInBounds_toArray, List.set_cons_zero, List.set_cons_succ]
          refine wpAnyH_take (i := 4) (v := ?v13) rfl (by kernel_rfl) (by kernel_rfl) (by kernel_rfl) (fun _ _ _ h => h) (Or.inl ⟨by rfl, ?hy13⟩) (by assumption) ?rest13
          case hy13 => (intro w' hSw; dsimp only [List.getElem_toArray, List.getElem_cons_zero, List.getElem_cons_succ] at hSw ⊢; go_simp; try (with_reducible rfl))
          try simp only [Act.put, List.getElem_toArray, List.getElem_cons_zero, List.getElem_cons_succ, List.setIfInBounds_toArray, List.set_cons_zero, List.set_cons_succ]
          refine wpAnyH_take (i := 5) (v := ?v14) rfl (by kernel_rfl) (by kernel_rfl) (by kernel_rfl) (fun _ _ _ h => h) (Or.inl ⟨by rfl, ?hy14⟩) (by assumption) ?rest14
          case hy14 => (intro w' hSw; dsimp only [List.getElem_toArray, List.getElem_cons_zero, List.getElem_cons_succ] at hSw ⊢; go_simp; try (with_reducible rfl))
          try simp only [Act.put, List.getElem_toArray, List.getElem_cons_zero, List.getElem_cons_succ, List.setIfInBounds_toArray, List.set_cons_zero, List.set_cons_succ]
          refine wpAnyH_take (i := 6) (v := ?v15) rfl (by kernel_rfl) (by kernel_rfl) (by kernel_rfl) (fun _ _ _ h => h) (Or.inl ⟨by rfl, ?hy15⟩) (by assumption) ?rest15
          case hy15 => (intro w' hSw; dsimp only [List.getElem_toArray, List.getElem_cons_zero, List.getElem_cons_succ] at hSw ⊢; go_simp; try (with_reducible rfl))
          try simp only [Act.put, List.getElem_toArray, List.getElem_cons_zero, List.getElem_cons_succ, List.setIfInBounds_toArray, List.set_cons_zero, List.set_cons_succ]
          refine wpAnyH_take (i := 8) (v := ?v16) rfl (by kernel_rfl) (by kernel_rfl) (by kernel_rfl) (fun _ _ _ h => h) (Or.inl ⟨by rfl, ?hy16⟩) (by assumption) ?rest16
          case hy16 => (intro w' hSw; dsimp only [List.getElem_toArray, List.getElem_cons_zero, List.getElem_cons_succ] at hSw ⊢; go_simp; try (with_reducible rfl))
          try simp only [Act.put, List.getElem_toArray, List.getElem_cons_zero, List.getElem_cons_succ, List.setIfInBounds_toArray, List.set_cons_zero, List.set_cons_succ]
          refine wpAnyH_take (i := 9) (v := ?v17) rfl (by kernel_rfl) (by kernel_rfl) (by kernel_rfl) (fun _ _ _ h => h) (Or.inl ⟨by rfl, ?hy17⟩) (by assumption) ?rest17
          case hy17 => (intro w' hSw; dsimp only [List.getElem_toArray, List.getElem_cons_zero, List.getElem_cons_succ] at hSw ⊢; go_simp; try (with_reducible rfl))
          try simp only [Act.put, List.getElem_toArray, List.getElem_cons_zero, List.getElem_cons_succ, List.setIfInBounds_toArray, List.set_cons_zero, List.set_cons_succ]
          refine wpAnyH_take (i := 10) (v := ?v18) rfl (by kernel_rfl) (by kernel_rfl) (by kernel_rfl) (fun _ _ _ h => h) (Or.inl ⟨by rfl, ?hy18⟩) (by assumption) ?rest18
          case hy18 => (intro w' hSw; dsimp only [List.getElem_toArray, List.getElem_cons_zero, List.getElem_cons_succ] at hSw ⊢; go_simp; try (with_reducible rfl))
          try simp only [Act.put, List.getElem_toArray, List.getElem_cons_zero, List.getElem_cons_succ, List.setIfInBounds_toArray, List.set_cons_zero, List.set_cons_succ]
          refine wpAnyH_take (i := 11) (v := ?v19) rfl (by kernel_rfl) (by kernel_rfl) (by kernel_rfl) (fun _ _ _ h => h) (Or.inl ⟨by rfl, ?hy19⟩) (by assumption) ?rest19
          case hy19 => (intro w' hSw; dsimp only [List.getElem_toArray, List.getElem_cons_zero, List.getElem_cons_succ] at hSw ⊢; go_simp; try (with_reducible rfl))
          try simp only [Act.put, List.getElem_toArray, List.getElem_cons_zero, List.getElem_cons_succ, List.setIfInBounds_toArray, List.set_cons_zero, List.set_cons_succ]
          refine wpAnyH_take (i := 12) (v := ?v20) rfl (by kernel_rfl) (by kernel_rfl) (by kernel_rfl) (fun _ _ _ h => h) (Or.inl ⟨by rfl, ?hy20⟩) (by assumption) ?rest20
          case hy20 => (intro w' hSw; dsimp only [List.getElem_toArray, List.getElem_cons_zero, List.getElem_cons_succ] at hSw ⊢; go_simp; try (with_reducible rfl))
          try simp only [Act.put, List.getElem_toArray, List.getElem_cons_zero, List.getElem_cons_succ, List.setIfInBounds_toArray, List.set_cons_zero, List.set_cons_succ]
          refine wpAnyH_ready (rs := [7]) (by kernel_rfl) (by simp) ?_
          refine AllReadyH.cons rfl (fun K hK => ?_) AllReadyH.nil
          have nc := HC1.out
          dsimp only [List.getElem_toArray, List.getElem_cons_zero, List.getElem_cons_succ]
          go_simp
          clear nc
          refine hK.out _ _ (hHeld) (fun hHeld => ?_)
          clear hK K
          try simp only [Act.put, List.getElem_toArray, List.getElem_cons_zero, List.getElem_cons_succ, List.setIfInBounds_toArray, List.set_cons_zero, List.set_cons_succ]
          refine wpAnyH_ready (rs := [13]) (by kernel_rfl) (by simp) ?_
          refine AllReadyH.cons rfl (fun K hK => ?_) AllReadyH.nil
          dsimp only [List.getElem_toArray, List.getElem_cons_zero, List.getElem_cons_succ]
          go_simp
          rw [WQ.out]
          clear WQ
          refine (l1PutE_calls _ xs ((a : Int) + p) _ U1.out (by omega)).mono ?_
          rintro e' w2 ⟨v2, rfl, hv2, b2⟩
          have O2 : Hid (Own w2 V0.heap.size v2 (putS ((a : Int) + p) xs)) := hv2.resolve_left (fun h => NI.out (by have := (mem_putS ((a : Int) + p) xs ((a : Int) + p)).2 (.inl rfl); rwa [h.2] at this))
          obtain ⟨a2, c2, hv3⟩ := row_slice O2.out
          obtain ⟨l2, hl2⟩ : ∃ l, l = (putS ((a : Int) + p) xs).length := ⟨_, rfl⟩
          rw [← hl2] at hv3
          subst hv3
          have R2 := hide (RD.out.below b2)
          have LAY := hide (RD.out.lay y y6 b2 O2.out)
          have hc2 := R2.out.mat.cell y y6
          have fz2 := R2.out.fz y
          clear hv2 b2 O2 RD U1 HC1 hl2
          refine hK.out _ _ (R2.out.arg.c2.1) (fun hHeld => ?_)
          clear hK K
          try simp only [Act.put, List.getElem_toArray, List.getElem_cons_zero, List.getElem_cons_succ, List.setIfInBounds_toArray, List.set_cons_zero, List.set_cons_succ]
          refine wpAnyH_take (i := 14) (v := ?v21) rfl (by kernel_rfl) (by kernel_rfl) (by kernel_rfl) (fun _ _ _ h => h) (Or.inl ⟨by rfl, ?hy21⟩) (by assumption) ?rest21
          case hy21 => (intro w' hSw; dsimp only [List.getElem_toArray, List.getElem_cons_zero, List.getElem_cons_succ] at hSw ⊢; go_simp; try (with_reducible rfl))
          try simp only [Act.put, List.getElem_toArray, List.getElem_cons_zero, List.getElem_cons_succ, List.setIfInBounds_toArray, List.set_cons_zero, List.set_cons_succ]
          refine wpAnyH_ready (rs := [15]) (by kernel_rfl) (by simp) ?_
          refine AllReadyH.cons rfl (fun K hK => ?_) AllReadyH.nil
          dsimp only [List.getElem_toArray, List.getElem_cons_zero, List.getElem_cons_succ]
          go_simp
          clear hc2 fz2 R2
          refine hK.out _ _ (LAY.out.arg.c2.1) (fun hHeld => ?_)
          clear hK K
          try simp only [Act.put, List.getElem_toArray, List.getElem_cons_zero, List.getElem_cons_succ, List.setIfInBounds_toArray, List.set_cons_zero, List.set_cons_succ]
          refine wpAnyH_done (by kernel_rfl) ?_ _
          refine NoPanic.normal ?_
          clear hHeld
          go_wp2
          go_roundw
          case rel =>
            refine ⟨j, _, _, _, by rw [HY2.out], by omega, by rw [← HY2.out]; omega, A3.out, fun q q1 q2 => ?_, P3.out, LAY.out⟩
            rw [← HY2.out] at q2
            exact F3.out q q1 q2
          case measure => simp [intOf] <;> omega

theorem l14Take_calls (f h : Value) (m : List (List Int)) (hs : List Hl) (s : Int) (lo hi : Nat) (w : World) (d : RomV w lo hi f h m hs) (hh : hi ≤ w.heap.size) (hk : RoomsOk m hs) (hor : orP s) (o a : Nat) (r : List Int) (h1 : ordN s ≤ o) (h2 : o < 6) (h3 : ∀ o', ordN s ≤ o' → o' < o → m.getD o' [] = []) (h4 : m.getD o [] = (a : Int) :: r) :
    Calls Try.prog 69 #[.agg #[f, h], .int .i64 s] w fun e w' => ∃ h', e = .returned (.tuple #[.agg #[f, h'], .int .i64 (a : Int)]) ∧ RomV w' lo w'.heap.size f h' (plR a (ordN s) (o - ordN s) (m.set o r)) (putH (a : Int) (ordN s : Int) hs) ∧ ∀ l u, (∀ k, f.ownBlock = some k → l ≤ k ∧ k < u) → Chg l u w w' := by
  obtain ⟨g, cap, rfl⟩ : ∃ g cap, f = .slice (some ⟨g, 0, none⟩) m.length cap := by
    obtain ⟨vs, mv⟩ := d.free
    have := hk.len
    rcases mv.head.2 with ⟨_, e⟩ | ⟨g, cap, cur, e, _⟩
    · omega
    · exact ⟨g, cap, e⟩
  have tw : g < w.heap.size := by
    obtain ⟨vs, mv⟩ := d.free
    exact (World.ownsRow.lt mv.head g rfl).2
  refine (l14TakeT_calls _ h m hs s lo hi g w d.t tw hh hk hor o a r h1 h2 h3 h4).mono ?_
  rintro e w' ⟨h', rfl, d', c'⟩
  exact ⟨h', rfl, d'.v, c'⟩
end Go.Proofs.Ytjffjoednmlkiaa

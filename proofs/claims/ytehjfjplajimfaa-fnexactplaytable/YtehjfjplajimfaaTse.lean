/-
  What comes goes to its place in a row, what was there to its other one: settle of the program. The contract says what it asks.
-/
import Derived.Test.YtehjfjplajimfaaTdr
namespace Go.Proofs.Ytehjfjplajimfaa
open Go.RowKit
set_option linter.unusedVariables false

/-- How many were moved. -/
def nR (R : Option (List Sl × List Sl × Nat)) : Int := match R with
  | some x => (x.2.2 : Int)
  | none => 0
/-- What the rows are then, if there was room. -/
def EndsIn (R : Option (List Sl × List Sl × Nat)) (X Y : List Sl) : Prop := ∀ a b n, R = some (a, b, n) → X = a ∧ Y = b
theorem kick_0 (s : Int) (n : Nat) (ls rs : List Sl) (c : Sl) : kick s 0 n ls rs c = none := rfl
theorem kick_L0 (s : Int) (f n : Nat) (ls rs : List Sl) (c : Sl) (hn : n % 2 = 0) (h : ls.getD (fs s c.2.1).toNat sl0 = sl0) : kick s (f + 1) n ls rs c = some (ls.set (fs s c.2.1).toNat c, rs, n) := by
  rw [kick, if_pos hn, if_pos h]
theorem kick_L1 (s : Int) (f n : Nat) (ls rs : List Sl) (c : Sl) (hn : n % 2 = 0) (h : ¬ ls.getD (fs s c.2.1).toNat sl0 = sl0) : kick s (f + 1) n ls rs c = kick s f (n + 1) (ls.set (fs s c.2.1).toNat c) rs (ls.getD (fs s c.2.1).toNat sl0) := by
  rw [kick, if_pos hn, if_neg h]
theorem kick_R0 (s : Int) (f n : Nat) (ls rs : List Sl) (c : Sl) (hn : ¬ n % 2 = 0) (h : rs.getD (sn s c.2.1).toNat sl0 = sl0) : kick s (f + 1) n ls rs c = some (ls, rs.set (sn s c.2.1).toNat c, n) := by
  rw [kick, if_neg hn, if_pos h]
theorem kick_R1 (s : Int) (f n : Nat) (ls rs : List Sl) (c : Sl) (hn : ¬ n % 2 = 0) (h : ¬ rs.getD (sn s c.2.1).toNat sl0 = sl0) : kick s (f + 1) n ls rs c = kick s f (n + 1) ls (rs.set (sn s c.2.1).toNat c) (rs.getD (sn s c.2.1).toNat sl0) := by
  rw [kick, if_neg hn, if_neg h]
/-- What is on its way after so many moves. -/
structure OnWay (s : Int) (R : Option (List Sl × List Sl × Nat)) (j : Nat) (ls rs : List Sl) (k z : Int) : Prop where
  le : j ≤ 25
  okL : rowOk (fs s) ls
  okR : rowOk (sn s) rs
  key : kOk k
  val : kOk z
  eq : kick s (25 - j) j ls rs (true, k, z) = R
theorem OnWay.last {s : Int} {R : Option (List Sl × List Sl × Nat)} {j : Nat} {ls rs : List Sl} {k z : Int} (h : OnWay s R j ls rs k z) (hj : ¬ j < 25) : R = none := by
  have e := h.eq
  rw [show 25 - j = 0 from by omega, kick_0] at e
  exact e.symm
theorem slT {f : Int → Int} {i : Nat} {u : Bool} {x z : Int} (h : slOk f i (u, x, z)) : (u = false ∧ x = 0 ∧ z = 0) ∨ (u = true ∧ kOk x ∧ kOk z) := by
  rcases h with h | h
  · left; simpa [sl0] using h
  · exact .inr ⟨h.1, h.2.1, h.2.2.1⟩
theorem OnWay.left {s : Int} {R : Option (List Sl × List Sl × Nat)} {j p : Nat} {ls rs : List Sl} {k z : Int} {u : Bool} {x y : Int} (h : OnWay s R j ls rs k z) (hj : j < 25) (he : j % 2 = 0) (hp : fs s k = (p : Int)) (hx : ls.getD p sl0 = (u, x, y)) :
    (u = false ∧ x = 0 ∧ y = 0 ∧ R = some (ls.set p (true, k, z), rs, j)) ∨ (u = true ∧ OnWay s R (j + 1) (ls.set p (true, k, z)) rs x y) := by
  have hb := fs_b s k
  have hpl : p < ls.length := by rw [h.okL.1]; omega
  have e := h.eq
  rw [show 25 - j = 25 - (j + 1) + 1 from by omega] at e
  have hk : (fs s ((true, k, z) : Sl).2.1).toNat = p := by show (fs s k).toNat = p; rw [hp, Int.toNat_natCast]
  have ok := h.okL.2 p hpl
  rw [hx] at ok
  rcases slT ok with ⟨rfl, rfl, rfl⟩ | ⟨rfl, kx, ky⟩
  · left
    rw [kick_L0 s _ j ls rs _ he (by rw [hk, hx]; rfl), hk] at e
    exact ⟨rfl, rfl, rfl, e.symm⟩
  · right
    rw [kick_L1 s _ j ls rs _ he (by rw [hk, hx]; simp [sl0]), hk, hx] at e
    exact ⟨rfl, by omega, rowOk_set h.okL _ _ (.inr ⟨rfl, h.key, h.val, hp⟩), h.okR, kx, ky, e⟩
theorem OnWay.right {s : Int} {R : Option (List Sl × List Sl × Nat)} {j p : Nat} {ls rs : List Sl} {k z : Int} {u : Bool} {x y : Int} (h : OnWay s R j ls rs k z) (hj : j < 25) (he : ¬ j % 2 = 0) (hp : sn s k = (p : Int)) (hx : rs.getD p sl0 = (u, x, y)) :
    (u = false ∧ x = 0 ∧ y = 0 ∧ R = some (ls, rs.set p (true, k, z), j)) ∨ (u = true ∧ OnWay s R (j + 1) ls (rs.set p (true, k, z)) x y) := by
  have hb := sn_b s k
  have hpl : p < rs.length := by rw [h.okR.1]; omega
  have e := h.eq
  rw [show 25 - j = 25 - (j + 1) + 1 from by omega] at e
  have hk : (sn s ((true, k, z) : Sl).2.1).toNat = p := by show (sn s k).toNat = p; rw [hp, Int.toNat_natCast]
  have ok := h.okR.2 p hpl
  rw [hx] at ok
  rcases slT ok with ⟨rfl, rfl, rfl⟩ | ⟨rfl, kx, ky⟩
  · left
    rw [kick_R0 s _ j ls rs _ he (by rw [hk, hx]; rfl), hk] at e
    exact ⟨rfl, rfl, rfl, e.symm⟩
  · right
    rw [kick_R1 s _ j ls rs _ he (by rw [hk, hx]; simp [sl0]), hk, hx] at e
    exact ⟨rfl, by omega, h.okL, rowOk_set h.okR _ _ (.inr ⟨rfl, h.key, h.val, hp⟩), kx, ky, e⟩

set_option linter.unusedSimpArgs false in
set_option maxRecDepth 100000 in
set_option maxHeartbeats 12800000 in
theorem settle_calls (s m k0 z0 : Int) (gl cl gr cr : Nat) (ls rs : List Sl) (R : Option (List Sl × List Sl × Nat)) (lo hi : Nat) (w : World) (d : TabV w lo hi (.slice (some ⟨gl, 0, none⟩) 11 cl) (.slice (some ⟨gr, 0, none⟩) 11 cr) ls rs) (hh : hi ≤ w.heap.size) (hs : sdOk s) (ow : OnWay s R 0 ls rs k0 z0) :
    Calls Try.prog 107 #[.agg #[.int .i64 s, (.slice (some ⟨gl, 0, none⟩) 11 cl), (.slice (some ⟨gr, 0, none⟩) 11 cr), .int .i64 m], .agg #[.bool true, .int .i64 k0, .int .i64 z0]] w fun e w' => e = .returned (.tuple #[.int .i64 (nR R), .bool R.isSome]) ∧ (∃ X Y, TabV w' lo hi (.slice (some ⟨gl, 0, none⟩) 11 cl) (.slice (some ⟨gr, 0, none⟩) 11 cr) X Y ∧ EndsIn R X Y) ∧ Chg lo hi w w' := by
  have G0 := hide ((Hand.twoN w #[.int .i64 s, (.slice (some ⟨gl, 0, none⟩) 11 cl), (.slice (some ⟨gr, 0, none⟩) 11 cr), .int .i64 m] #[.bool true, .int .i64 k0, .int .i64 z0] 28 81).guest hh (TTab.st _ _ _ _) d)
  have HS := hide hs
  have OW0 := hide ow
  clear d hs ow
  go_enter Try.func107, Try.ntmps107
  go_wp2_with fail
  refine (slotRows_calls s m (some ⟨gl, 0, none⟩) (some ⟨gr, 0, none⟩) 11 cl 11 cr _).mono ?_
  rintro e w1 ⟨rfl, b1⟩
  have G1 := hide ((G0.out.step b1).box #[(.slice (some ⟨gl, 0, none⟩) 11 cl), (.slice (some ⟨gr, 0, none⟩) 11 cr)] 108)
  clear b1 G0
  go_wp2
  go_loopw [12] (fun vj wr => ∃ (j : Nat) (ls rs : List Sl) (k z : Int), vj = .int .i64 j ∧ OnWay s R j ls rs k z ∧ Guest lo hi w wr (TTab (.slice (some ⟨gl, 0, none⟩) 11 cl) (.slice (some ⟨gr, 0, none⟩) 11 cr) ls rs) [TBox w1.heap.size #[(.slice (some ⟨gl, 0, none⟩) 11 cl), (.slice (some ⟨gr, 0, none⟩) 11 cr)] 108, TBox (w.heap.size + 1) #[.bool true, .int .i64 k, .int .i64 z] 81, TBox w.heap.size #[.int .i64 s, (.slice (some ⟨gl, 0, none⟩) 11 cl), (.slice (some ⟨gr, 0, none⟩) 11 cr), .int .i64 m] 28]) (fun vj _ => 25 - (intOf vj).toNat)
  case atStart => exact ⟨0, ls, rs, k0, z0, rfl, OW0.out, G1.out⟩
  case round =>
    clear G1 OW0 ls rs
    obtain ⟨j, ls, rs, k, z, rfl, ow, g⟩ := hrel
    have OW := hide ow
    have G := hide g
    clear ow g
    by_cases hj : j < 25
    · have hj' : (j : Int) < 25 := by omega
      by_cases hev : j % 2 = 0
      · have hrem : (j : Int) % 2 = 0 := by omega
        have hrem' : (j : Int).tmod 2 = 0 := by rw [Int.tmod_eq_emod_of_nonneg (by omega)]; omega
        obtain ⟨p, hp, hp2⟩ := fsN s k
        have PN := hide hp
        have PP := hide hp
        clear hp
        have hpl : (p : Int) < 11 := by omega
        have hpn : p < ls.length := by rw [OW.out.okL.1]; omega
        obtain ⟨⟨⟨u, x, y⟩, hx⟩⟩ : Nonempty { o : Sl // ls.getD p sl0 = o } := ⟨⟨_, rfl⟩⟩
        have CSE := hide (OW.out.left hj hev PN.out hx)
        have F : Hid (∀ W, Below wr.heap.size wr W → (W.cell? ⟨w1.heap.size, 0, none⟩ = some (.slice (some ⟨gl, 0, none⟩) 11 cl) ∧ W.cell? ⟨w1.heap.size, 1, none⟩ = some (.slice (some ⟨gr, 0, none⟩) 11 cr)) ∧ W.cell? ⟨w.heap.size, 0, none⟩ = some (.int .i64 s) ∧ W.cell? ⟨w.heap.size + 1, 1, none⟩ = some (.int .i64 k)) := fun W hb => ⟨((G.out.step hb).atBox 0 rfl).c2, ((G.out.step hb).atBox 2 rfl).cell 0, ((G.out.step hb).atBox 1 rfl).cell 1⟩
        have ix := ixI0
        have HX := hide hx
        clear hx
        go_upto_region 6 with fail
        refine wp_region_noPanic ?_
        refine wp_region_held_drew (S := fun w' => (w'.cell? ⟨w1.heap.size, 0, none⟩ = some (.slice (some ⟨gl, 0, none⟩) 11 cl) ∧ w'.cell? ⟨w1.heap.size, 1, none⟩ = some (.slice (some ⟨gr, 0, none⟩) 11 cr)) ∧ w'.cell? ⟨w.heap.size, 0, none⟩ = some (.int .i64 s) ∧ w'.cell? ⟨w.heap.size + 1, 1, none⟩ = some (.int .i64 k)) (by kernel_rfl) (F.out _ (Below.refl _ _).drew) (fun hHeld => ?_)
        refine wpAnyH_take (i := 0) (v := ?v1) rfl (by kernel_rfl) (by kernel_rfl) (by kernel_rfl) (fun _ _ _ h => h) (Or.inl ⟨by rfl, ?hy1⟩) (by assumption) ?rest1
        case hy1 => (intro w' hSw; dsimp only [List.getElem_toArray, List.getElem_cons_zero, List.getElem_cons_succ] at hSw ⊢; go_simp; try (with_reducible rfl))
        try simp only [Act.put, List.getElem_toArray, List.getElem_cons_zero, List.getElem_cons_succ, List.setIfInBounds_toArray, List.set_cons_zero, List.set_cons_succ]
        refine wpAnyH_take (i := 1) (v := ?v2) rfl (by kernel_rfl) (by kernel_rfl) (by kernel_rfl) (fun _ _ _ h => h) (Or.inl ⟨by rfl, ?hy2⟩) (by assumption) ?rest2
        case hy2 => (intro w' hSw; dsimp only [List.getElem_toArray, List.getElem_cons_zero, List.getElem_cons_succ] at hSw ⊢; go_simp; try (with_reducible rfl))
        try simp only [Act.put, List.getElem_toArray, List.getElem_cons_zero, List.getElem_cons_succ, List.setIfInBounds_toArray, List.set_cons_zero, List.set_cons_succ]
        refine wpAnyH_take (i := 2) (v := ?v3) rfl (by kernel_rfl) (by kernel_rfl) (by kernel_rfl) (fun _ _ _ h => h) (Or.inl ⟨by rfl, ?hy3⟩) (by assumption) ?rest3
        case hy3 => (intro w' hSw; dsimp only [List.getElem_toArray, List.getElem_cons_zero, List.getElem_cons_succ] at hSw ⊢; go_simp; try (with_reducible rfl))
        try simp only [Act.put, List.getElem_toArray, List.getElem_cons_zero, List.getElem_cons_succ, List.setIfInBounds_toArray, List.set_cons_zero, List.set_cons_succ]
        refine wpAnyH_take (i := 3) (v := ?v4) rfl (by kernel_rfl) (by kernel_rfl) (by kernel_rfl) (fun _ _ _ h => h) (Or.inl ⟨by rfl, ?hy4⟩) (by assumption) ?rest4
        case hy4 => (intro w' hSw; dsimp only [List.getElem_toArray, List.getElem_cons_zero, List.getElem_cons_succ] at hSw ⊢; go_simp; try (with_reducible rfl))
        try simp only [Act.put, List.getElem_toArray, List.getElem_cons_zero, List.getElem_cons_succ, List.setIfInBounds_toArray, List.set_cons_zero, List.set_cons_succ]
        refine wpAnyH_take (i := 4) (v := ?v5) rfl (by kernel_rfl) (by kernel_rfl) (by kernel_rfl) (fun _ _ _ h => h) (Or.inl ⟨by rfl, ?hy5⟩) (by assumption) ?rest5
        case hy5 => (intro w' hSw; dsimp only [List.getElem_toArray, List.getElem_cons_zero, List.getElem_cons_succ] at hSw ⊢; go_simp; try (with_reducible rfl))
        try simp only [Act.put, List.getElem_toArray, List.getElem_cons_zero, List.getElem_cons_succ, List.setIfInBounds_toArray, List.set_cons_zero, List.set_cons_succ]
        refine wpAnyH_take (i := 5) (v := ?v6) rfl (by kernel_rfl) (by kernel_rfl) (by kernel_rfl) (fun _ _ _ h => h) (Or.inl ⟨by rfl, ?hy6⟩) (by assumption) ?rest6
        case hy6 => (intro w' hSw; dsimp only [List.getElem_toArray, List.getElem_cons_zero, List.getElem_cons_succ] at hSw ⊢; go_simp; try (with_reducible rfl))
        try simp only [Act.put, List.getElem_toArray, List.getElem_cons_zero, List.getElem_cons_succ, List.setIfInBounds_toArray, List.set_cons_zero, List.set_cons_succ]
        refine wpAnyH_take (i := 6) (v := ?v7) rfl (by kernel_rfl) (by kernel_rfl) (by kernel_rfl) (fun _ _ _ h => h) (Or.inl ⟨by rfl, ?hy7⟩) (by assumption) ?rest7
        case hy7 => (intro w' hSw; dsimp only [List.getElem_toArray, List.getElem_cons_zero, List.getElem_cons_succ] at hSw ⊢; go_simp; try (with_reducible rfl))
        try simp only [Act.put, List.getElem_toArray, List.getElem_cons_zero, List.getElem_cons_succ, List.setIfInBounds_toArray, List.set_cons_zero, List.set_cons_succ]
        refine wpAnyH_take (i := 8) (v := ?v8) rfl (by kernel_rfl) (by kernel_rfl) (by kernel_rfl) (fun _ _ _ h => h) (Or.inl ⟨by rfl, ?hy8⟩) (by assumption) ?rest8
        case hy8 => (intro w' hSw; dsimp only [List.getElem_toArray, List.getElem_cons_zero, List.getElem_cons_succ] at hSw ⊢; go_simp; try (with_reducible rfl))
        try simp only [Act.put, List.getElem_toArray, List.getElem_cons_zero, List.getElem_cons_succ, List.setIfInBounds_toArray, List.set_cons_zero, List.set_cons_succ]
        refine wpAnyH_ready (rs := [7]) (by kernel_rfl) (by simp) ?_
        refine AllReadyH.cons rfl (fun K hK => ?_) AllReadyH.nil
        dsimp only [List.getElem_toArray, List.getElem_cons_zero, List.getElem_cons_succ]
        go_simp
        refine (placesIn_calls s k _ HS.out OW.out.key).mono ?_
        rw [PP.out]
        rintro e' u1 ⟨rfl, b1⟩
        have B1 := hide ((Below.refl wr.heap.size wr).drew.trans b1)
        clear b1
        refine hK.out _ _ (F.out _ B1.out) (fun hHeld => ?_)
        clear hK K
        try simp only [Act.put, List.getElem_toArray, List.getElem_cons_zero, List.getElem_cons_succ, List.setIfInBounds_toArray, List.set_cons_zero, List.set_cons_succ]
        refine wpAnyH_take (i := 9) (v := ?v9) rfl (by kernel_rfl) (by kernel_rfl) (by kernel_rfl) (fun _ _ _ h => h) (Or.inl ⟨by rfl, ?hy9⟩) (by assumption) ?rest9
        case hy9 => (intro w' hSw; dsimp only [List.getElem_toArray, List.getElem_cons_zero, List.getElem_cons_succ] at hSw ⊢; go_simp; try (with_reducible rfl))
        try simp only [Act.put, List.getElem_toArray, List.getElem_cons_zero, List.getElem_cons_succ, List.setIfInBounds_toArray, List.set_cons_zero, List.set_cons_succ]
        refine wpAnyH_take (i := 10) (v := ?v10) rfl (by kernel_rfl) (by kernel_rfl) (by kernel_rfl) (fun _ _ _ h => h) (Or.inl ⟨by rfl, ?hy10⟩) (by assumption) ?rest10
        case hy10 => (intro w' hSw; dsimp only [List.getElem_toArray, List.getElem_cons_zero, List.getElem_cons_succ] at hSw ⊢; go_simp; try (with_reducible rfl))
        try simp only [Act.put, List.getElem_toArray, List.getElem_cons_zero, List.getElem_cons_succ, List.setIfInBounds_toArray, List.set_cons_zero, List.set_cons_succ]
        refine wpAnyH_take (i := 11) (v := ?v11) rfl (by kernel_rfl) (by kernel_rfl) (by kernel_rfl) (fun _ _ _ h => h) (Or.inl ⟨by rfl, ?hy11⟩) (by assumption) ?rest11
        case hy11 => (intro w' hSw; dsimp only [List.getElem_toArray, List.getElem_cons_zero, List.getElem_cons_succ] at hSw ⊢; go_simp; try (with_reducible rfl))
        try simp only [Act.put, List.getElem_toArray, List.getElem_cons_zero, List.getElem_cons_succ, List.setIfInBounds_toArray, List.set_cons_zero, List.set_cons_succ]
        refine wpAnyH_done (by kernel_rfl) ?_ _
        refine NoPanic.normal ?_
        clear hHeld
        have G2 := hide (G.out.step B1.out)
        clear G F B1
        go_upto_region 7 with fail
        have G3 := hide (G2.out.step (Below.refl _ _).drew)
        clear G2
        refine wp_region_noPanic ?_
        refine wp_region_held_drew (S := fun _ => True) (by kernel_rfl) (trivial) (fun hHeld => ?_)
        generalize u1.drew = V1 at *
        obtain ⟨⟨d0, d1, d2⟩, d3, d4, d5⟩ := TabV.cellsL G3.out.it p hpn
        rw [HX.out] at d0 d1 d2
        simp only at d0 d1 d2
        obtain ⟨c0, c1, c2⟩ := (G3.out.atBox 1 rfl).c3
        have f0 := (G3.out.atBox 1 rfl).frozen 0
        have f1 := (G3.out.atBox 1 rfl).frozen 1
        have f2 := (G3.out.atBox 1 rfl).frozen 2
        have G4 : Hid (Guest lo hi w (((V1.setCell ⟨(w.heap.size + 1), 0, none⟩ (.bool u)).setCell ⟨(w.heap.size + 1), 1, none⟩ (.int .i64 x)).setCell ⟨(w.heap.size + 1), 2, none⟩ (.int .i64 y)) _ _) := G3.out.store3 1 rfl (.bool u) (.int .i64 x) (.int .i64 y)
        obtain ⟨⟨e0, e1, e2⟩, e3, e4, e5⟩ := TabV.cellsL G4.out.it p hpn
        rw [HX.out] at e0 e1 e2
        simp only at e0 e1 e2
        have G5 : Hid (Guest lo hi w ((((((V1.setCell ⟨(w.heap.size + 1), 0, none⟩ (.bool u)).setCell ⟨(w.heap.size + 1), 1, none⟩ (.int .i64 x)).setCell ⟨(w.heap.size + 1), 2, none⟩ (.int .i64 y)).setCell ⟨gl, p * 3, none⟩ (.bool true)).setCell ⟨gl, p * 3 + 1, none⟩ (.int .i64 k)).setCell ⟨gl, p * 3 + 2, none⟩ (.int .i64 z)) (TTab _ _ (ls.set p (true, k, z)) rs) _) := G4.out.putL p hpn (true, k, z)
        obtain ⟨h0, h1, h2⟩ := (G5.out.atBox 1 rfl).c3
        clear G3 G4
        refine wpAnyH_take (i := 0) (v := ?v12) rfl (by kernel_rfl) (by kernel_rfl) (by kernel_rfl) (fun _ _ _ h => h) (Or.inl ⟨by rfl, ?hy12⟩) (by assumption) ?rest12
        case hy12 => (intro w' hSw; dsimp only [List.getElem_toArray, List.getElem_cons_zero, List.getElem_cons_succ] at hSw ⊢; go_simp; try (with_reducible rfl))
        try simp only [Act.put, List.getElem_toArray, List.getElem_cons_zero, List.getElem_cons_succ, List.setIfInBounds_toArray, List.set_cons_zero, List.set_cons_succ]
        refine wpAnyH_take (i := 1) (v := ?v13) rfl (by kernel_rfl) (by kernel_rfl) (by kernel_rfl) (fun _ _ _ h => h) (Or.inl ⟨by rfl, ?hy13⟩) (by assumption) ?rest13
        case hy13 => (intro w' hSw; dsimp only [List.getElem_toArray, List.getElem_cons_zero, List.getElem_cons_succ] at hSw ⊢; go_simp; try (with_reducible rfl))
        try simp only [Act.put, List.getElem_toArray, List.getElem_cons_zero, List.getElem_cons_succ, List.setIfInBounds_toArray, List.set_cons_zero, List.set_cons_succ]
        refine wpAnyH_take (i := 2) (v := ?v14) rfl (by kernel_rfl) (by kernel_rfl) (by kernel_rfl) (fun _ _ _ h => h) (Or.inl ⟨by rfl, ?hy14⟩) (by assumption) ?rest14
        case hy14 => (intro w' hSw; dsimp only [List.getElem_toArray, List.getElem_cons_zero, List.getElem_cons_succ] at hSw ⊢; go_simp; try (with_reducible rfl))
        try simp only [Act.put, List.getElem_toArray, List.getElem_cons_zero, List.getElem_cons_succ, List.setIfInBounds_toArray, List.set_cons_zero, List.set_cons_succ]
        refine wpAnyH_ready (rs := [3, 4]) (by kernel_rfl) (by simp) ?_
        refine AllReadyH.cons rfl (fun K hK => ?_) (AllReadyH.cons rfl (fun K hK => ?_) AllReadyH.nil)
        · dsimp only [List.getElem_toArray, List.getElem_cons_zero, List.getElem_cons_succ]
          go_simp
          refine hK.out _ _ (trivial) (fun hHeld => ?_)
          clear hK K
          try simp only [Act.put, List.getElem_toArray, List.getElem_cons_zero, List.getElem_cons_succ, List.setIfInBounds_toArray, List.set_cons_zero, List.set_cons_succ]
          refine wpAnyH_ready (rs := [4]) (by kernel_rfl) (by simp) ?_
          refine AllReadyH.cons rfl (fun K hK => ?_) AllReadyH.nil
          dsimp only [List.getElem_toArray, List.getElem_cons_zero, List.getElem_cons_succ]
          go_simp
          refine hK.out _ _ (trivial) (fun hHeld => ?_)
          clear hK K
          try simp only [Act.put, List.getElem_toArray, List.getElem_cons_zero, List.getElem_cons_succ, List.setIfInBounds_toArray, List.set_cons_zero, List.set_cons_succ]
          refine wpAnyH_ready (rs := [5]) (by kernel_rfl) (by simp) ?_
          refine AllReadyH.cons rfl (fun K hK => ?_) AllReadyH.nil
          dsimp only [List.getElem_toArray, List.getElem_cons_zero, List.getElem_cons_succ]
          go_simp
          refine hK.out _ _ (trivial) (fun hHeld => ?_)
          clear hK K
          try simp only [Act.put, List.getElem_toArray, List.getElem_cons_zero, List.getElem_cons_succ, List.setIfInBounds_toArray, List.set_cons_zero, List.set_cons_succ]
          refine wpAnyH_take (i := 6) (v := ?v15) rfl (by kernel_rfl) (by kernel_rfl) (by kernel_rfl) (fun _ _ _ h => h) (Or.inl ⟨by rfl, ?hy15⟩) (by assumption) ?rest15
          case hy15 => (intro w' hSw; dsimp only [List.getElem_toArray, List.getElem_cons_zero, List.getElem_cons_succ] at hSw ⊢; go_simp; try (with_reducible rfl))
          try simp only [Act.put, List.getElem_toArray, List.getElem_cons_zero, List.getElem_cons_succ, List.setIfInBounds_toArray, List.set_cons_zero, List.set_cons_succ]
          refine wpAnyH_ready (rs := [7]) (by kernel_rfl) (by simp) ?_
          refine AllReadyH.cons rfl (fun K hK => ?_) AllReadyH.nil
          dsimp only [List.getElem_toArray, List.getElem_cons_zero, List.getElem_cons_succ]
          go_simp
          refine hK.out _ _ (trivial) (fun hHeld => ?_)
          clear hK K
          try simp only [Act.put, List.getElem_toArray, List.getElem_cons_zero, List.getElem_cons_succ, List.setIfInBounds_toArray, List.set_cons_zero, List.set_cons_succ]
          refine wpAnyH_done (by kernel_rfl) ?_ _
          refine NoPanic.normal ?_
          clear hHeld
          clear d0 d1 d2 d3 d4 d5 c0 c1 c2 f0 f1 f2 e0 e1 e2 e3 e4 e5
          rcases CSE.out with ⟨rfl, rfl, rfl, hR⟩ | ⟨rfl, ow⟩
          · have ER : Hid (nR R = (j : Int) ∧ R.isSome = true ∧ EndsIn R (ls.set p (true, k, z)) rs) := by
              show _ ∧ _
              rw [hR]
              exact ⟨rfl, rfl, fun a b n e => by simp only [Option.some.injEq, Prod.mk.injEq] at e; exact ⟨e.1, e.2.1⟩⟩
            clear CSE hR
            go_wp2
            go_ret2
            exact ⟨by rw [ER.out.1, ER.out.2.1]; rfl, ⟨_, _, G5.out.it, ER.out.2.2⟩, G5.out.chg⟩
          · have OW2 := hide ow
            clear CSE ow
            go_wp2
            exact ⟨⟨j + 1, _, _, x, y, by go_num, OW2.out, G5.out⟩, by simp [intOf]; omega⟩
        · dsimp only [List.getElem_toArray, List.getElem_cons_zero, List.getElem_cons_succ]
          go_simp
          refine hK.out _ _ (trivial) (fun hHeld => ?_)
          clear hK K
          try simp only [Act.put, List.getElem_toArray, List.getElem_cons_zero, List.getElem_cons_succ, List.setIfInBounds_toArray, List.set_cons_zero, List.set_cons_succ]
          refine wpAnyH_ready (rs := [3]) (by kernel_rfl) (by simp) ?_
          refine AllReadyH.cons rfl (fun K hK => ?_) AllReadyH.nil
          dsimp only [List.getElem_toArray, List.getElem_cons_zero, List.getElem_cons_succ]
          go_simp
          refine hK.out _ _ (trivial) (fun hHeld => ?_)
          clear hK K
          try simp only [Act.put, List.getElem_toArray, List.getElem_cons_zero, List.getElem_cons_succ, List.setIfInBounds_toArray, List.set_cons_zero, List.set_cons_succ]
          refine wpAnyH_ready (rs := [5]) (by kernel_rfl) (by simp) ?_
          refine AllReadyH.cons rfl (fun K hK => ?_) AllReadyH.nil
          dsimp only [List.getElem_toArray, List.getElem_cons_zero, List.getElem_cons_succ]
          go_simp
          refine hK.out _ _ (trivial) (fun hHeld => ?_)
          clear hK K
          try simp only [Act.put, List.getElem_toArray, List.getElem_cons_zero, List.getElem_cons_succ, List.setIfInBounds_toArray, List.set_cons_zero, List.set_cons_succ]
          refine wpAnyH_take (i := 6) (v := ?v16) rfl (by kernel_rfl) (by kernel_rfl) (by kernel_rfl) (fun _ _ _ h => h) (Or.inl ⟨by rfl, ?hy16⟩) (by assumption) ?rest16
          case hy16 => (intro w' hSw; dsimp only [List.getElem_toArray, List.getElem_cons_zero, List.getElem_cons_succ] at hSw ⊢; go_simp; try (with_reducible rfl))
          try simp only [Act.put, List.getElem_toArray, List.getElem_cons_zero, List.getElem_cons_succ, List.setIfInBounds_toArray, List.set_cons_zero, List.set_cons_succ]
          refine wpAnyH_ready (rs := [7]) (by kernel_rfl) (by simp) ?_
          refine AllReadyH.cons rfl (fun K hK => ?_) AllReadyH.nil
          dsimp only [List.getElem_toArray, List.getElem_cons_zero, List.getElem_cons_succ]
          go_simp
          refine hK.out _ _ (trivial) (fun hHeld => ?_)
          clear hK K
          try simp only [Act.put, List.getElem_toArray, List.getElem_cons_zero, List.getElem_cons_succ, List.setIfInBounds_toArray, List.set_cons_zero, List.set_cons_succ]
          refine wpAnyH_done (by kernel_rfl) ?_ _
          refine NoPanic.normal ?_
          clear hHeld
          clear d0 d1 d2 d3 d4 d5 c0 c1 c2 f0 f1 f2 e0 e1 e2 e3 e4 e5
          rcases CSE.out with ⟨rfl, rfl, rfl, hR⟩ | ⟨rfl, ow⟩
          · have ER : Hid (nR R = (j : Int) ∧ R.isSome = true ∧ EndsIn R (ls.set p (true, k, z)) rs) := by
              show _ ∧ _
              rw [hR]
              exact ⟨rfl, rfl, fun a b n e => by simp only [Option.some.injEq, Prod.mk.injEq] at e; exact ⟨e.1, e.2.1⟩⟩
            clear CSE hR
            go_wp2
            go_ret2
            exact ⟨by rw [ER.out.1, ER.out.2.1]; rfl, ⟨_, _, G5.out.it, ER.out.2.2⟩, G5.out.chg⟩
          · have OW2 := hide ow
            clear CSE ow
            go_wp2
            exact ⟨⟨j + 1, _, _, x, y, by go_num, OW2.out, G5.out⟩, by simp [intOf]; omega⟩
      · have hrem : (j : Int) % 2 = 1 := by omega
        have hrem' : (j : Int).tmod 2 = 1 := by rw [Int.tmod_eq_emod_of_nonneg (by omega)]; omega
        obtain ⟨p, hp, hp2⟩ := snN s k
        have PN := hide hp
        have PP := hide hp
        clear hp
        have hpl : (p : Int) < 11 := by omega
        have hpn : p < rs.length := by rw [OW.out.okR.1]; omega
        obtain ⟨⟨⟨u, x, y⟩, hx⟩⟩ : Nonempty { o : Sl // rs.getD p sl0 = o } := ⟨⟨_, rfl⟩⟩
        have CSE := hide (OW.out.right hj hev PN.out hx)
        have F : Hid (∀ W, Below wr.heap.size wr W → (W.cell? ⟨w1.heap.size, 0, none⟩ = some (.slice (some ⟨gl, 0, none⟩) 11 cl) ∧ W.cell? ⟨w1.heap.size, 1, none⟩ = some (.slice (some ⟨gr, 0, none⟩) 11 cr)) ∧ W.cell? ⟨w.heap.size, 0, none⟩ = some (.int .i64 s) ∧ W.cell? ⟨w.heap.size + 1, 1, none⟩ = some (.int .i64 k)) := fun W hb => ⟨((G.out.step hb).atBox 0 rfl).c2, ((G.out.step hb).atBox 2 rfl).cell 0, ((G.out.step hb).atBox 1 rfl).cell 1⟩
        have ix := ixI1
        have HX := hide hx
        clear hx
        go_upto_region 6 with fail
        refine wp_region_noPanic ?_
        refine wp_region_held_drew (S := fun w' => (w'.cell? ⟨w1.heap.size, 0, none⟩ = some (.slice (some ⟨gl, 0, none⟩) 11 cl) ∧ w'.cell? ⟨w1.heap.size, 1, none⟩ = some (.slice (some ⟨gr, 0, none⟩) 11 cr)) ∧ w'.cell? ⟨w.heap.size, 0, none⟩ = some (.int .i64 s) ∧ w'.cell? ⟨w.heap.size + 1, 1, none⟩ = some (.int .i64 k)) (by kernel_rfl) (F.out _ (Below.refl _ _).drew) (fun hHeld => ?_)
        refine wpAnyH_take (i := 0) (v := ?v17) rfl (by kernel_rfl) (by kernel_rfl) (by kernel_rfl) (fun _ _ _ h => h) (Or.inl ⟨by rfl, ?hy17⟩) (by assumption) ?rest17
        case hy17 => (intro w' hSw; dsimp only [List.getElem_toArray, List.getElem_cons_zero, List.getElem_cons_succ] at hSw ⊢; go_simp; try (with_reducible rfl))
        try simp only [Act.put, List.getElem_toArray, List.getElem_cons_zero, List.getElem_cons_succ, List.setIfInBounds_toArray, List.set_cons_zero, List.set_cons_succ]
        refine wpAnyH_take (i := 1) (v := ?v18) rfl (by kernel_rfl) (by kernel_rfl) (by kernel_rfl) (fun _ _ _ h => h) (Or.inl ⟨by rfl, ?hy18⟩) (by assumption) ?rest18
        case hy18 => (intro w' hSw; dsimp only [List.getElem_toArray, List.getElem_cons_zero, List.getElem_cons_succ] at hSw ⊢; go_simp; try (with_reducible rfl))
        try simp only [Act.put, List.getElem_toArray, List.getElem_cons_zero, List.getElem_cons_succ, List.setIfInBounds_toArray, List.set_cons_zero, List.set_cons_succ]
        refine wpAnyH_take (i := 2) (v := ?v19) rfl (by kernel_rfl) (by kernel_rfl) (by kernel_rfl) (fun _ _ _ h => h) (Or.inl ⟨by rfl, ?hy19⟩) (by assumption) ?rest19
        case hy19 => (intro w' hSw; dsimp only [List.getElem_toArray, List.getElem_cons_zero, List.getElem_cons_succ] at hSw ⊢; go_simp; try (with_reducible rfl))
        try simp only [Act.put, List.getElem_toArray, List.getElem_cons_zero, List.getElem_cons_succ, List.setIfInBounds_toArray, List.set_cons_zero, List.set_cons_succ]
        refine wpAnyH_take (i := 3) (v := ?v20) rfl (by kernel_rfl) (by kernel_rfl) (by kernel_rfl) (fun _ _ _ h => h) (Or.inl ⟨by rfl, ?hy20⟩) (by assumption) ?rest20
        case hy20 => (intro w' hSw; dsimp only [List.getElem_toArray, List.getElem_cons_zero, List.getElem_cons_succ] at hSw ⊢; go_simp; try (with_reducible rfl))
        try simp only [Act.put, List.getElem_toArray, List.getElem_cons_zero, List.getElem_cons_succ, List.setIfInBounds_toArray, List.set_cons_zero, List.set_cons_succ]
        refine wpAnyH_take (i := 4) (v := ?v21) rfl (by kernel_rfl) (by kernel_rfl) (by kernel_rfl) (fun _ _ _ h => h) (Or.inl ⟨by rfl, ?hy21⟩) (by assumption) ?rest21
        case hy21 => (intro w' hSw; dsimp only [List.getElem_toArray, List.getElem_cons_zero, List.getElem_cons_succ] at hSw ⊢; go_simp; try (with_reducible rfl))
        try simp only [Act.put, List.getElem_toArray, List.getElem_cons_zero, List.getElem_cons_succ, List.setIfInBounds_toArray, List.set_cons_zero, List.set_cons_succ]
        refine wpAnyH_take (i := 5) (v := ?v22) rfl (by kernel_rfl) (by kernel_rfl) (by kernel_rfl) (fun _ _ _ h => h) (Or.inl ⟨by rfl, ?hy22⟩) (by assumption) ?rest22
        case hy22 => (intro w' hSw; dsimp only [List.getElem_toArray, List.getElem_cons_zero, List.getElem_cons_succ] at hSw ⊢; go_simp; try (with_reducible rfl))
        try simp only [Act.put, List.getElem_toArray, List.getElem_cons_zero, List.getElem_cons_succ, List.setIfInBounds_toArray, List.set_cons_zero, List.set_cons_succ]
        refine wpAnyH_take (i := 6) (v := ?v23) rfl (by kernel_rfl) (by kernel_rfl) (by kernel_rfl) (fun _ _ _ h => h) (Or.inl ⟨by rfl, ?hy23⟩) (by assumption) ?rest23
        case hy23 => (intro w' hSw; dsimp only [List.getElem_toArray, List.getElem_cons_zero, List.getElem_cons_succ] at hSw ⊢; go_simp; try (with_reducible rfl))
        try simp only [Act.put, List.getElem_toArray, List.getElem_cons_zero, List.getElem_cons_succ, List.setIfInBounds_toArray, List.set_cons_zero, List.set_cons_succ]
        refine wpAnyH_take (i := 8) (v := ?v24) rfl (by kernel_rfl) (by kernel_rfl) (by kernel_rfl) (fun _ _ _ h => h) (Or.inl ⟨by rfl, ?hy24⟩) (by assumption) ?rest24
        case hy24 => (intro w' hSw; dsimp only [List.getElem_toArray, List.getElem_cons_zero, List.getElem_cons_succ] at hSw ⊢; go_simp; try (with_reducible rfl))
        try simp only [Act.put, List.getElem_toArray, List.getElem_cons_zero, List.getElem_cons_succ, List.setIfInBounds_toArray, List.set_cons_zero, List.set_cons_succ]
        refine wpAnyH_ready (rs := [7]) (by kernel_rfl) (by simp) ?_
        refine AllReadyH.cons rfl (fun K hK => ?_) AllReadyH.nil
        dsimp only [List.getElem_toArray, List.getElem_cons_zero, List.getElem_cons_succ]
        go_simp
        refine (placesIn_calls s k _ HS.out OW.out.key).mono ?_
        rw [PP.out]
        rintro e' u1 ⟨rfl, b1⟩
        have B1 := hide ((Below.refl wr.heap.size wr).drew.trans b1)
        clear b1
        refine hK.out _ _ (F.out _ B1.out) (fun hHeld => ?_)
        clear hK K
        try simp only [Act.put, List.getElem_toArray, List.getElem_cons_zero, List.getElem_cons_succ, List.setIfInBounds_toArray, List.set_cons_zero, List.set_cons_succ]
        refine wpAnyH_take (i := 9) (v := ?v25) rfl (by kernel_rfl) (by kernel_rfl) (by kernel_rfl) (fun _ _ _ h => h) (Or.inl ⟨by rfl, ?hy25⟩) (by assumption) ?rest25
        case hy25 => (intro w' hSw; dsimp only [List.getElem_toArray, List.getElem_cons_zero, List.getElem_cons_succ] at hSw ⊢; go_simp; try (with_reducible rfl))
        try simp only [Act.put, List.getElem_toArray, List.getElem_cons_zero, List.getElem_cons_succ, List.setIfInBounds_toArray, List.set_cons_zero, List.set_cons_succ]
        refine wpAnyH_take (i := 10) (v := ?v26) rfl (by kernel_rfl) (by kernel_rfl) (by kernel_rfl) (fun _ _ _ h => h) (Or.inl ⟨by rfl, ?hy26⟩) (by assumption) ?rest26
        case hy26 => (intro w' hSw; dsimp only [List.getElem_toArray, List.getElem_cons_zero, List.getElem_cons_succ] at hSw ⊢; go_simp; try (with_reducible rfl))
        try simp only [Act.put, List.getElem_toArray, List.getElem_cons_zero, List.getElem_cons_succ, List.setIfInBounds_toArray, List.set_cons_zero, List.set_cons_succ]
        refine wpAnyH_take (i := 11) (v := ?v27) rfl (by kernel_rfl) (by kernel_rfl) (by kernel_rfl) (fun _ _ _ h => h) (Or.inl ⟨by rfl, ?hy27⟩) (by assumption) ?rest27
        case hy27 => (intro w' hSw; dsimp only [List.getElem_toArray, List.getElem_cons_zero, List.getElem_cons_succ] at hSw ⊢; go_simp; try (with_reducible rfl))
        try simp only [Act.put, List.getElem_toArray, List.getElem_cons_zero, List.getElem_cons_succ, List.setIfInBounds_toArray, List.set_cons_zero, List.set_cons_succ]
        refine wpAnyH_done (by kernel_rfl) ?_ _
        refine NoPanic.normal ?_
        clear hHeld
        have G2 := hide (G.out.step B1.out)
        clear G F B1
        go_upto_region 7 with fail
        have G3 := hide (G2.out.step (Below.refl _ _).drew)
        clear G2
        refine wp_region_noPanic ?_
        refine wp_region_held_drew (S := fun _ => True) (by kernel_rfl) (trivial) (fun hHeld => ?_)
        generalize u1.drew = V1 at *
        obtain ⟨⟨d0, d1, d2⟩, d3, d4, d5⟩ := TabV.cellsR G3.out.it p hpn
        rw [HX.out] at d0 d1 d2
        simp only at d0 d1 d2
        obtain ⟨c0, c1, c2⟩ := (G3.out.atBox 1 rfl).c3
        have f0 := (G3.out.atBox 1 rfl).frozen 0
        have f1 := (G3.out.atBox 1 rfl).frozen 1
        have f2 := (G3.out.atBox 1 rfl).frozen 2
        have G4 : Hid (Guest lo hi w (((V1.setCell ⟨(w.heap.size + 1), 0, none⟩ (.bool u)).setCell ⟨(w.heap.size + 1), 1, none⟩ (.int .i64 x)).setCell ⟨(w.heap.size + 1), 2, none⟩ (.int .i64 y)) _ _) := G3.out.store3 1 rfl (.bool u) (.int .i64 x) (.int .i64 y)
        obtain ⟨⟨e0, e1, e2⟩, e3, e4, e5⟩ := TabV.cellsR G4.out.it p hpn
        rw [HX.out] at e0 e1 e2
        simp only at e0 e1 e2
        have G5 : Hid (Guest lo hi w ((((((V1.setCell ⟨(w.heap.size + 1), 0, none⟩ (.bool u)).setCell ⟨(w.heap.size + 1), 1, none⟩ (.int .i64 x)).setCell ⟨(w.heap.size + 1), 2, none⟩ (.int .i64 y)).setCell ⟨gr, p * 3, none⟩ (.bool true)).setCell ⟨gr, p * 3 + 1, none⟩ (.int .i64 k)).setCell ⟨gr, p * 3 + 2, none⟩ (.int .i64 z)) (TTab _ _ ls (rs.set p (true, k, z))) _) := G4.out.putR p hpn (true, k, z)
        obtain ⟨h0, h1, h2⟩ := (G5.out.atBox 1 rfl).c3
        clear G3 G4
        refine wpAnyH_take (i := 0) (v := ?v28) rfl (by kernel_rfl) (by kernel_rfl) (by kernel_rfl) (fun _ _ _ h => h) (Or.inl ⟨by rfl, ?hy28⟩) (by assumption) ?rest28
        case hy28 => (intro w' hSw; dsimp only [List.getElem_toArray, List.getElem_cons_zero, List.getElem_cons_succ] at hSw ⊢; go_simp; try (with_reducible rfl))
        try simp only [Act.put, List.getElem_toArray, List.getElem_cons_zero, List.getElem_cons_succ, List.setIfInBounds_toArray, List.set_cons_zero, List.set_cons_succ]
        refine wpAnyH_take (i := 1) (v := ?v29) rfl (by kernel_rfl) (by kernel_rfl) (by kernel_rfl) (fun _ _ _ h => h) (Or.inl ⟨by rfl, ?hy29⟩) (by assumption) ?rest29
        case hy29 => (intro w' hSw; dsimp only [List.getElem_toArray, List.getElem_cons_zero, List.getElem_cons_succ] at hSw ⊢; go_simp; try (with_reducible rfl))
        try simp only [Act.put, List.getElem_toArray, List.getElem_cons_zero, List.getElem_cons_succ, List.setIfInBounds_toArray, List.set_cons_zero, List.set_cons_succ]
        refine wpAnyH_take (i := 2) (v := ?v30) rfl (by kernel_rfl) (by kernel_rfl) (by kernel_rfl) (fun _ _ _ h => h) (Or.inl ⟨by rfl, ?hy30⟩) (by assumption) ?rest30
        case hy30 => (intro w' hSw; dsimp only [List.getElem_toArray, List.getElem_cons_zero, List.getElem_cons_succ] at hSw ⊢; go_simp; try (with_reducible rfl))
        try simp only [Act.put, List.getElem_toArray, List.getElem_cons_zero, List.getElem_cons_succ, List.setIfInBounds_toArray, List.set_cons_zero, List.set_cons_succ]
        refine wpAnyH_ready (rs := [3, 4]) (by kernel_rfl) (by simp) ?_
        refine AllReadyH.cons rfl (fun K hK => ?_) (AllReadyH.cons rfl (fun K hK => ?_) AllReadyH.nil)
        · dsimp only [List.getElem_toArray, List.getElem_cons_zero, List.getElem_cons_succ]
          go_simp
          refine hK.out _ _ (trivial) (fun hHeld => ?_)
          clear hK K
          try simp only [Act.put, List.getElem_toArray, List.getElem_cons_zero, List.getElem_cons_succ, List.setIfInBounds_toArray, List.set_cons_zero, List.set_cons_succ]
          refine wpAnyH_ready (rs := [4]) (by kernel_rfl) (by simp) ?_
          refine AllReadyH.cons rfl (fun K hK => ?_) AllReadyH.nil
          dsimp only [List.getElem_toArray, List.getElem_cons_zero, List.getElem_cons_succ]
          go_simp
          refine hK.out _ _ (trivial) (fun hHeld => ?_)
          clear hK K
          try simp only [Act.put, List.getElem_toArray, List.getElem_cons_zero, List.getElem_cons_succ, List.setIfInBounds_toArray, List.set_cons_zero, List.set_cons_succ]
          refine wpAnyH_ready (rs := [5]) (by kernel_rfl) (by simp) ?_
          refine AllReadyH.cons rfl (fun K hK => ?_) AllReadyH.nil
          dsimp only [List.getElem_toArray, List.getElem_cons_zero, List.getElem_cons_succ]
          go_simp
          refine hK.out _ _ (trivial) (fun hHeld => ?_)
          clear hK K
          try simp only [Act.put, List.getElem_toArray, List.getElem_cons_zero, List.getElem_cons_succ, List.setIfInBounds_toArray, List.set_cons_zero, List.set_cons_succ]
          refine wpAnyH_take (i := 6) (v := ?v31) rfl (by kernel_rfl) (by kernel_rfl) (by kernel_rfl) (fun _ _ _ h => h) (Or.inl ⟨by rfl, ?hy31⟩) (by assumption) ?rest31
          case hy31 => (intro w' hSw; dsimp only [List.getElem_toArray, List.getElem_cons_zero, List.getElem_cons_succ] at hSw ⊢; go_simp; try (with_reducible rfl))
          try simp only [Act.put, List.getElem_toArray, List.getElem_cons_zero, List.getElem_cons_succ, List.setIfInBounds_toArray, List.set_cons_zero, List.set_cons_succ]
          refine wpAnyH_ready (rs := [7]) (by kernel_rfl) (by simp) ?_
          refine AllReadyH.cons rfl (fun K hK => ?_) AllReadyH.nil
          dsimp only [List.getElem_toArray, List.getElem_cons_zero, List.getElem_cons_succ]
          go_simp
          refine hK.out _ _ (trivial) (fun hHeld => ?_)
          clear hK K
          try simp only [Act.put, List.getElem_toArray, List.getElem_cons_zero, List.getElem_cons_succ, List.setIfInBounds_toArray, List.set_cons_zero, List.set_cons_succ]
          refine wpAnyH_done (by kernel_rfl) ?_ _
          refine NoPanic.normal ?_
          clear hHeld
          clear d0 d1 d2 d3 d4 d5 c0 c1 c2 f0 f1 f2 e0 e1 e2 e3 e4 e5
          rcases CSE.out with ⟨rfl, rfl, rfl, hR⟩ | ⟨rfl, ow⟩
          · have ER : Hid (nR R = (j : Int) ∧ R.isSome = true ∧ EndsIn R ls (rs.set p (true, k, z))) := by
              show _ ∧ _
              rw [hR]
              exact ⟨rfl, rfl, fun a b n e => by simp only [Option.some.injEq, Prod.mk.injEq] at e; exact ⟨e.1, e.2.1⟩⟩
            clear CSE hR
            go_wp2
            go_ret2
            exact ⟨by rw [ER.out.1, ER.out.2.1]; rfl, ⟨_, _, G5.out.it, ER.out.2.2⟩, G5.out.chg⟩
          · have OW2 := hide ow
            clear CSE ow
            go_wp2
            exact ⟨⟨j + 1, _, _, x, y, by go_num, OW2.out, G5.out⟩, by simp [intOf]; omega⟩
        · dsimp only [List.getElem_toArray, List.getElem_cons_zero, List.getElem_cons_succ]
          go_simp
          refine hK.out _ _ (trivial) (fun hHeld => ?_)
          clear hK K
          try simp only [Act.put, List.getElem_toArray, List.getElem_cons_zero, List.getElem_cons_succ, List.setIfInBounds_toArray, List.set_cons_zero, List.set_cons_succ]
          refine wpAnyH_ready (rs := [3]) (by kernel_rfl) (by simp) ?_
          refine AllReadyH.cons rfl (fun K hK => ?_) AllReadyH.nil
          dsimp only [List.getElem_toArray, List.getElem_cons_zero, List.getElem_cons_succ]
          go_simp
          refine hK.out _ _ (trivial) (fun hHeld => ?_)
          clear hK K
          try simp only [Act.put, List.getElem_toArray, List.getElem_cons_zero, List.getElem_cons_succ, List.setIfInBounds_toArray, List.set_cons_zero, List.set_cons_succ]
          refine wpAnyH_ready (rs := [5]) (by kernel_rfl) (by simp) ?_
          refine AllReadyH.cons rfl (fun K hK => ?_) AllReadyH.nil
          dsimp only [List.getElem_toArray, List.getElem_cons_zero, List.getElem_cons_succ]
          go_simp
          refine hK.out _ _ (trivial) (fun hHeld => ?_)
          clear hK K
          try simp only [Act.put, List.getElem_toArray, List.getElem_cons_zero, List.getElem_cons_succ, List.setIfInBounds_toArray, List.set_cons_zero, List.set_cons_succ]
          refine wpAnyH_take (i := 6) (v := ?v32) rfl (by kernel_rfl) (by kernel_rfl) (by kernel_rfl) (fun _ _ _ h => h) (Or.inl ⟨by rfl, ?hy32⟩) (by assumption) ?rest32
          case hy32 => (intro w' hSw; dsimp only [List.getElem_toArray, List.getElem_cons_zero, List.getElem_cons_succ] at hSw ⊢; go_simp; try (with_reducible rfl))
          try simp only [Act.put, List.getElem_toArray, List.getElem_cons_zero, List.getElem_cons_succ, List.setIfInBounds_toArray, List.set_cons_zero, List.set_cons_succ]
          refine wpAnyH_ready (rs := [7]) (by kernel_rfl) (by simp) ?_
          refine AllReadyH.cons rfl (fun K hK => ?_) AllReadyH.nil
          dsimp only [List.getElem_toArray, List.getElem_cons_zero, List.getElem_cons_succ]
          go_simp
          refine hK.out _ _ (trivial) (fun hHeld => ?_)
          clear hK K
          try simp only [Act.put, List.getElem_toArray, List.getElem_cons_zero, List.getElem_cons_succ, List.setIfInBounds_toArray, List.set_cons_zero, List.set_cons_succ]
          refine wpAnyH_done (by kernel_rfl) ?_ _
          refine NoPanic.normal ?_
          clear hHeld
          clear d0 d1 d2 d3 d4 d5 c0 c1 c2 f0 f1 f2 e0 e1 e2 e3 e4 e5
          rcases CSE.out with ⟨rfl, rfl, rfl, hR⟩ | ⟨rfl, ow⟩
          · have ER : Hid (nR R = (j : Int) ∧ R.isSome = true ∧ EndsIn R ls (rs.set p (true, k, z))) := by
              show _ ∧ _
              rw [hR]
              exact ⟨rfl, rfl, fun a b n e => by simp only [Option.some.injEq, Prod.mk.injEq] at e; exact ⟨e.1, e.2.1⟩⟩
            clear CSE hR
            go_wp2
            go_ret2
            exact ⟨by rw [ER.out.1, ER.out.2.1]; rfl, ⟨_, _, G5.out.it, ER.out.2.2⟩, G5.out.chg⟩
          · have OW2 := hide ow
            clear CSE ow
            go_wp2
            exact ⟨⟨j + 1, _, _, x, y, by go_num, OW2.out, G5.out⟩, by simp [intOf]; omega⟩
    · have hR := OW.out.last hj
      obtain rfl : R = none := hR
      have hj' : ¬ (j : Int) < 25 := by omega
      go_wp2
      go_ret2
      exact ⟨rfl, ⟨ls, rs, G.out.it, fun a b n e => by simp at e⟩, G.out.chg⟩
end Go.Proofs.Ytehjfjplajimfaa

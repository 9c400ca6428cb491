/-
  Copies of pools: copyBranch, eachOf and copyPool of the program, l11Own of the model, call by call. Each contract says what it asks.
-/
import Derived.Test.YthmijjcddjlebaaPle
namespace Go.Proofs.Ythmijjcddjlebaa
open Go.RowKit
set_option linter.unusedVariables false

theorem BoxAt.store2P {w : World} {g : Nat} {a b : Value} {T : TypeId} (h : BoxAt w g #[a, b] T) (v0 v1 : Value) : BoxAt ((w.setCell ⟨g, 0, none⟩ v0).setCell ⟨g, 1, none⟩ v1) g #[v0, v1] T := by
  simpa using (h.set 0 v0).set 1 v1

set_option linter.unusedSimpArgs false in
set_option maxRecDepth 100000 in
set_option maxHeartbeats 800000 in
theorem copyBranch_calls (v : Value) (ks : List Int) (z : Bool) (w : World) (h : Rd w v ks) (hks : ks.length ≤ 1048576) :
    Calls Try.prog 138 #[.agg #[v, .bool z]] w fun e w' => ∃ v', e = .returned (.agg #[v', .bool z]) ∧ Own w' w.heap.size v' ks ∧ Below w.heap.size w w' := by
  have U := hide h
  obtain ⟨ua, uc, rfl, _, _⟩ := h.slc
  have A0 := hide (Hand.twoN w #[.slice ua ks.length uc, .bool z] #[.slice none 0 0, .bool false] 104 104)
  clear h
  go_enter Try.func138, Try.ntmps138
  go_wp2
  refine wp_region_noPanic ?_
  refine wp_region_held_drew (S := fun w' => w'.cell? ⟨w.heap.size, 0, none⟩ = some (.slice ua ks.length uc) ∧ w'.cell? ⟨w.heap.size, 1, none⟩ = some (.bool z)) (by kernel_rfl) ((A0.out.step (Below.refl _ _).drew).atBox 1 rfl |>.c2) (fun hHeld => ?_)
  have G0 := hide (A0.out.step (Below.refl _ _).drew)
  clear A0
  generalize World.drew _ = V0 at *
  refine wpAnyH_take (i := 0) (v := ?v1) rfl (by kernel_rfl) (by kernel_rfl) (by kernel_rfl) (fun _ _ _ h => h) (Or.inl ⟨by rfl, ?hy1⟩) (by assumption) ?rest1
  case hy1 => (intro w' hSw; dsimp only [List.getElem_toArray, List.getElem_cons_zero, List.getElem_cons_succ] at hSw ⊢; go_simp; try (with_reducible rfl))
  try simp only [Act.put, List.getElem_toArray, List.getElem_cons_zero, List.getElem_cons_succ, List.setIfInBounds_toArray, List.set_cons_zero, List.set_cons_succ]
  refine wpAnyH_take (i := 1) (v := ?v2) rfl (by kernel_rfl) (by kernel_rfl) (by kernel_rfl) (fun _ _ _ h => h) (Or.inl ⟨by rfl, ?hy2⟩) (by assumption) ?rest2
  case hy2 => (intro w' hSw; dsimp only [List.getElem_toArray, List.getElem_cons_zero, List.getElem_cons_succ] at hSw ⊢; go_simp; try (with_reducible rfl))
  try simp only [Act.put, List.getElem_toArray, List.getElem_cons_zero, List.getElem_cons_succ, List.setIfInBounds_toArray, List.set_cons_zero, List.set_cons_succ]
  refine wpAnyH_take (i := 3) (v := ?v3) rfl (by kernel_rfl) (by kernel_rfl) (by kernel_rfl) (fun _ _ _ h => h) (Or.inl ⟨by rfl, ?hy3⟩) (by assumption) ?rest3
  case hy3 => (intro w' hSw; dsimp only [List.getElem_toArray, List.getElem_cons_zero, List.getElem_cons_succ] at hSw ⊢; go_simp; try (with_reducible rfl))
  try simp only [Act.put, List.getElem_toArray, List.getElem_cons_zero, List.getElem_cons_succ, List.setIfInBounds_toArray, List.set_cons_zero, List.set_cons_succ]
  refine wpAnyH_take (i := 4) (v := ?v4) rfl (by kernel_rfl) (by kernel_rfl) (by kernel_rfl) (fun _ _ _ h => h) (Or.inl ⟨by rfl, ?hy4⟩) (by assumption) ?rest4
  case hy4 => (intro w' hSw; dsimp only [List.getElem_toArray, List.getElem_cons_zero, List.getElem_cons_succ] at hSw ⊢; go_simp; try (with_reducible rfl))
  try simp only [Act.put, List.getElem_toArray, List.getElem_cons_zero, List.getElem_cons_succ, List.setIfInBounds_toArray, List.set_cons_zero, List.set_cons_succ]
  refine wpAnyH_ready (rs := [2]) (by kernel_rfl) (by simp) ?_
  refine AllReadyH.cons rfl (fun K hK => ?_) AllReadyH.nil
  dsimp only [List.getElem_toArray, List.getElem_cons_zero, List.getElem_cons_succ]
  go_simp
  refine (copyInts_calls _ ks _ (U.out.below G0.out.below) hks).mono ?_
  rintro e' u1 ⟨v1, rfl, o1, b1⟩
  obtain ⟨a1, k1, rfl⟩ := row_slice o1
  have G1 := hide (G0.out.add b1 (TInts.st _ _) ⟨o1, row_top o1⟩)
  clear b1 o1 G0
  refine hK.out _ _ ((G1.out.atBox 2 rfl).c2) (fun hHeld => ?_)
  clear hK K
  try simp only [Act.put, List.getElem_toArray, List.getElem_cons_zero, List.getElem_cons_succ, List.setIfInBounds_toArray, List.set_cons_zero, List.set_cons_succ]
  refine wpAnyH_take (i := 5) (v := ?v5) rfl (by kernel_rfl) (by kernel_rfl) (by kernel_rfl) (fun _ _ _ h => h) (Or.inl ⟨by rfl, ?hy5⟩) (by assumption) ?rest5
  case hy5 => (intro w' hSw; dsimp only [List.getElem_toArray, List.getElem_cons_zero, List.getElem_cons_succ] at hSw ⊢; go_simp; try (with_reducible rfl))
  try simp only [Act.put, List.getElem_toArray, List.getElem_cons_zero, List.getElem_cons_succ, List.setIfInBounds_toArray, List.set_cons_zero, List.set_cons_succ]
  refine wpAnyH_ready (rs := [6]) (by kernel_rfl) (by simp) ?_
  refine AllReadyH.cons rfl (fun K hK => ?_) AllReadyH.nil
  have xr := G1.out.atBox 1 rfl
  obtain ⟨d0, d1⟩ := xr.c2
  have g0 := xr.frozen 0
  have g1 := xr.frozen 1
  have G2 := hide (G1.out.store2 1 rfl (.slice a1 ks.length k1) (.bool z))
  dsimp only [List.getElem_toArray, List.getElem_cons_zero, List.getElem_cons_succ]
  go_simp
  clear xr d0 d1 g0 g1 G1
  refine hK.out _ _ ((G2.out.atBox 2 rfl).c2) (fun hHeld => ?_)
  clear hK K
  try simp only [Act.put, List.getElem_toArray, List.getElem_cons_zero, List.getElem_cons_succ, List.setIfInBounds_toArray, List.set_cons_zero, List.set_cons_succ]
  refine wpAnyH_done (by kernel_rfl) ?_ _
  refine NoPanic.normal ?_
  clear hHeld
  go_wp2
  exact bodyPost_ret (res_ndB rfl _ _ (w.heap.size + 1) _ _ (0, 0) rfl (G2.out.atBox 1 rfl)) rfl ⟨_, rfl, G2.out.wideI 0 rfl, G2.out.below⟩

set_option linter.unusedSimpArgs false in
set_option maxRecDepth 100000 in
set_option maxHeartbeats 1600000 in
theorem eachBr_calls (v : Value) (m : List Nd) (w : World) (h : RdN w v m) (hn : m.length + totN m ≤ 1048576) :
    Calls Try.prog 137 #[v, .func (.func 138) #[] #[]] w fun e w' => ∃ g, e = .returned (.slice (some ⟨g, 0, none⟩) m.length m.length) ∧ TBrs (.slice (some ⟨g, 0, none⟩) m.length m.length) m w.heap.size w'.heap.size w' ∧ Below w.heap.size w w' := by
  have R := hide h
  obtain ⟨a, cap, rfl, h1, h2, h3⟩ := h
  clear h3 h2 h1
  have hn1 : m.length ≤ 1048576 := by omega
  have Hn := hide hn
  clear hn
  go_enter Try.func137, Try.ntmps137
  go_wp2_with (at_make; refine wpList_make_ndsB rfl _ _ rfl _ _ m.length rfl rfl (by omega) (by omega) hn1 ?_)
  intro w0 hm0 hg0
  have M0 := hide hm0
  have G0 := hide hg0
  clear hm0 hg0
  go_wp2
  go_loopw [13] (fun vi wr => ∃ (k : Nat) (us : List Value), k ≤ m.length ∧ vi = .int .i64 k ∧ BrV wr w.heap.size wr.heap.size (.slice (some ⟨w.heap.size, 0, none⟩) m.length m.length) [] us [] (cpN m k) ∧ Below w.heap.size w wr) (fun vi _ => m.length - (intOf vi).toNat)
  case atStart => exact ⟨0, _, Nat.zero_le _, rfl, by rw [cpN_zero]; exact M0.out, (Below.refl _ _).grown G0.out (Nat.le_refl _) (fun k h => by cases h)⟩
  case round =>
    obtain ⟨k, us, hk, rfl, hm, hb⟩ := hrel
    have M := hide hm
    have B := hide hb
    clear hm hb M0 G0
    by_cases hlt : k < m.length
    · obtain ⟨b, off, u, ks, z, rfl, hx, hu, c0, c1⟩ := (R.out.below B.out).at k hlt
      have HX := hide hx
      have hks : ks.length ≤ 1048576 := by
        have hr := totN_row_le m k hlt
        rw [hx] at hr
        have := Hn.out
        simp only at hr
        omega
      have hlt' : (k : Int) < (m.length : Int) := by omega
      obtain ⟨ua, uc, rfl, _, _⟩ := hu.slc
      obtain ⟨w6, hw6⟩ : ∃ w1, w1 = wr.alloc (.cells #[.slice ua ks.length uc, .bool z] 104) := ⟨_, rfl⟩
      have b6 : Below wr.heap.size wr w6 := by rw [hw6]; exact below_box _ _
      have W6 : Hid (wr.alloc (.cells #[.slice ua ks.length uc, .bool z] 104) = w6) := hw6.symm
      have U := hide (hu.below b6)
      have M6 := hide (M.out.below b6)
      have B6 := hide (B.out.trans (b6.mono B.out.size))
      have hs6 := b6.size
      clear hu hx b6 hw6
      go_wp2_with fail
      rw [W6.out]
      refine (copyBranch_calls _ ks z _ U.out hks).mono ?_
      rintro e w1 ⟨x, rfl, hx, hb1⟩
      obtain ⟨xa, xc, rfl⟩ := row_slice hx
      have M1 := hide (M6.out.below hb1)
      obtain ⟨d0, d1, f0, f1⟩ := M1.out.cells k (by rw [cpN_len m k hk]; exact hlt)
      have P := M1.out.setBoth (z := z) (hi2 := w1.heap.size) k (by rw [cpN_len m k hk]; exact hlt) hx hs6 B6.out.size (Nat.le_trans hs6 hb1.size) (row_top hx)
      have e1 : (cpN m k).set k (ks, z) = cpN m (k + 1) := by rw [← HX.out]; exact cpN_step m k hlt
      rw [e1] at P
      have Q4 := hide P
      have B1 := hide (B6.out.trans (hb1.mono B6.out.size))
      clear hb1 hx P e1 M1 M M6 hs6 B6
      go_wp2
      go_roundw
      case rel =>
        refine ⟨k + 1, us.set k (.slice xa ks.length xc), by omega, by go_num, ?_, ?_⟩
        · simpa using Q4.out
        · exact (B1.out.setCell (Nat.le_refl _) _).setCell (Nat.le_refl _) _
      case measure => simp [intOf]; omega
    · obtain rfl : k = m.length := by omega
      go_wp2
      go_ret
      refine ⟨_, rfl, ⟨us, ?_⟩, B.out⟩
      have := M.out
      rwa [cpN_end] at this

set_option linter.unusedSimpArgs false in
set_option maxRecDepth 100000 in
set_option maxHeartbeats 1600000 in
theorem copyPool_calls (p r : Value) (m : List Nd) (rs : List Int) (w : World) (h : RdP w p r m rs) (hz : SzP m rs) :
    Calls Try.prog 100 #[.agg #[p, r]] w fun e w' => ∃ p' r', e = .returned (.agg #[p', r']) ∧ TPol p' r' m rs w.heap.size w'.heap.size w' ∧ Below w.heap.size w w' := by
  have R := hide h
  have Z := hide hz
  obtain ⟨⟨ap, cp, rfl, _⟩, ⟨ar, cr, rfl, _⟩⟩ := h
  have A0 := hide (Hand.twoN w #[.slice ap m.length cp, .slice ar rs.length cr] nilP 43 43)
  clear hz
  go_enter Try.func100, Try.ntmps100
  go_wp2
  refine wp_region_noPanic ?_
  refine wp_region_held_drew (S := fun w' => w'.cell? ⟨w.heap.size, 0, none⟩ = some (.slice ap m.length cp) ∧ w'.cell? ⟨w.heap.size, 1, none⟩ = some (.slice ar rs.length cr)) (by kernel_rfl) ((A0.out.step (Below.refl _ _).drew).atBox 1 rfl |>.c2) (fun hHeld => ?_)
  have G0 := hide (A0.out.step (Below.refl _ _).drew)
  clear A0
  generalize World.drew _ = V0 at *
  refine wpAnyH_take (i := 0) (v := ?v1) rfl (by kernel_rfl) (by kernel_rfl) (by kernel_rfl) (fun _ _ _ h => h) (Or.inl ⟨by rfl, ?hy1⟩) (by assumption) ?rest1
  case hy1 => (intro w' hSw; dsimp only [List.getElem_toArray, List.getElem_cons_zero, List.getElem_cons_succ] at hSw ⊢; go_simp; try (with_reducible rfl))
  try simp only [Act.put, List.getElem_toArray, List.getElem_cons_zero, List.getElem_cons_succ, List.setIfInBounds_toArray, List.set_cons_zero, List.set_cons_succ]
  refine wpAnyH_take (i := 1) (v := ?v2) rfl (by kernel_rfl) (by kernel_rfl) (by kernel_rfl) (fun _ _ _ h => h) (Or.inl ⟨by rfl, ?hy2⟩) (by assumption) ?rest2
  case hy2 => (intro w' hSw; dsimp only [List.getElem_toArray, List.getElem_cons_zero, List.getElem_cons_succ] at hSw ⊢; go_simp; try (with_reducible rfl))
  try simp only [Act.put, List.getElem_toArray, List.getElem_cons_zero, List.getElem_cons_succ, List.setIfInBounds_toArray, List.set_cons_zero, List.set_cons_succ]
  refine wpAnyH_take (i := 3) (v := ?v3) rfl (by kernel_rfl) (by kernel_rfl) (by kernel_rfl) (fun _ _ _ h => h) (Or.inl ⟨by rfl, ?hy3⟩) (by assumption) ?rest3
  case hy3 => (intro w' hSw; dsimp only [List.getElem_toArray, List.getElem_cons_zero, List.getElem_cons_succ] at hSw ⊢; go_simp; try (with_reducible rfl))
  try simp only [Act.put, List.getElem_toArray, List.getElem_cons_zero, List.getElem_cons_succ, List.setIfInBounds_toArray, List.set_cons_zero, List.set_cons_succ]
  refine wpAnyH_take (i := 4) (v := ?v4) rfl (by kernel_rfl) (by kernel_rfl) (by kernel_rfl) (fun _ _ _ h => h) (Or.inl ⟨by rfl, ?hy4⟩) (by assumption) ?rest4
  case hy4 => (intro w' hSw; dsimp only [List.getElem_toArray, List.getElem_cons_zero, List.getElem_cons_succ] at hSw ⊢; go_simp; try (with_reducible rfl))
  try simp only [Act.put, List.getElem_toArray, List.getElem_cons_zero, List.getElem_cons_succ, List.setIfInBounds_toArray, List.set_cons_zero, List.set_cons_succ]
  refine wpAnyH_ready (rs := [2]) (by kernel_rfl) (by simp) ?_
  refine AllReadyH.cons rfl (fun K hK => ?_) AllReadyH.nil
  dsimp only [List.getElem_toArray, List.getElem_cons_zero, List.getElem_cons_succ]
  go_simp
  refine (eachBr_calls _ m _ (R.out.1.below G0.out.below) Z.out.1).mono ?_
  rintro e' u1 ⟨g1, rfl, d1, b1⟩
  have G1 := hide (G0.out.add b1 (TBrs.st _ _) d1)
  clear b1 d1 G0
  refine hK.out _ _ ((G1.out.atBox 2 rfl).c2) (fun hHeld => ?_)
  clear hK K
  try simp only [Act.put, List.getElem_toArray, List.getElem_cons_zero, List.getElem_cons_succ, List.setIfInBounds_toArray, List.set_cons_zero, List.set_cons_succ]
  refine wpAnyH_ready (rs := [5]) (by kernel_rfl) (by simp) ?_
  refine AllReadyH.cons rfl (fun K hK => ?_) AllReadyH.nil
  dsimp only [List.getElem_toArray, List.getElem_cons_zero, List.getElem_cons_succ]
  go_simp
  refine (copyInts_calls _ rs _ (R.out.2.below G1.out.below) Z.out.2).mono ?_
  rintro e' u2 ⟨v2, rfl, o2, b2⟩
  obtain ⟨a2, k2, rfl⟩ := row_slice o2
  have G2 := hide (G1.out.add b2 (TInts.st _ _) ⟨o2, row_top o2⟩)
  clear b2 o2 G1
  refine hK.out _ _ ((G2.out.atBox 3 rfl).c2) (fun hHeld => ?_)
  clear hK K
  try simp only [Act.put, List.getElem_toArray, List.getElem_cons_zero, List.getElem_cons_succ, List.setIfInBounds_toArray, List.set_cons_zero, List.set_cons_succ]
  refine wpAnyH_take (i := 6) (v := ?v5) rfl (by kernel_rfl) (by kernel_rfl) (by kernel_rfl) (fun _ _ _ h => h) (Or.inl ⟨by rfl, ?hy5⟩) (by assumption) ?rest5
  case hy5 => (intro w' hSw; dsimp only [List.getElem_toArray, List.getElem_cons_zero, List.getElem_cons_succ] at hSw ⊢; go_simp; try (with_reducible rfl))
  try simp only [Act.put, List.getElem_toArray, List.getElem_cons_zero, List.getElem_cons_succ, List.setIfInBounds_toArray, List.set_cons_zero, List.set_cons_succ]
  refine wpAnyH_ready (rs := [7]) (by kernel_rfl) (by simp) ?_
  refine AllReadyH.cons rfl (fun K hK => ?_) AllReadyH.nil
  have xr := G2.out.atBox 2 rfl
  obtain ⟨d0, d1⟩ := xr.c2
  have f0 := xr.frozen 0
  have f1 := xr.frozen 1
  have G4 := hide (G2.out.store2 2 rfl (.slice (some ⟨g1, 0, none⟩) m.length m.length) (.slice a2 rs.length k2))
  dsimp only [List.getElem_toArray, List.getElem_cons_zero, List.getElem_cons_succ]
  go_simp
  clear xr d0 d1 f0 f1 G2
  refine hK.out _ _ ((G4.out.atBox 3 rfl).c2) (fun hHeld => ?_)
  clear hK K
  try simp only [Act.put, List.getElem_toArray, List.getElem_cons_zero, List.getElem_cons_succ, List.setIfInBounds_toArray, List.set_cons_zero, List.set_cons_succ]
  refine wpAnyH_done (by kernel_rfl) ?_ _
  refine NoPanic.normal ?_
  clear hHeld
  go_wp2
  exact bodyPost_ret (res_pl rfl _ _ (w.heap.size + 1) _ _ (0, 0) rfl (G4.out.atBox 2 rfl)) rfl ⟨_, _, rfl, G4.out.pool, G4.out.below⟩

/-- A node behind nodes of a call's own, in a row that grows. -/
theorem wpList_app_br {W : World} {ops : Array Oper} {rest : List Oper} {o : Oper} {a : Act} {Q : Exit → Act → World → Prop} (hgd : o.guard = none) (s x : Operand)
    (ho : o.op = .call { callee := .builtin .append, args := #[s, x], argTypes := #[40, 40] }) (lo hi : Nat) (v : Value) (hs : a.eval s = v) (es us : List Value) (qs : List (List Int)) (xs : List Nd) (hN : BrV W lo hi v es us qs xs)
    (gx : Nat) (hx : a.eval x = .slice (some ⟨gx, 0, none⟩) 1 1) (u : Value) (y : Nd) (c0 : W.cell? ⟨gx, 0, none⟩ = some u) (c1 : W.cell? ⟨gx, 1, none⟩ = some (.bool y.2)) (hu1 : u.oneCell' = true) (ho1 : Own W lo u y.1) (hub : ∀ b, u.ownBlock = some b → hi ≤ b) (hh : hi ≤ W.heap.size) (hm : xs.length ≤ 1048576) (hlo : lo ≤ W.heap.size)
    (h : ∀ v' w', BrV w' lo w'.heap.size v' es (us ++ [u]) qs (xs ++ [y]) → W.grownBy w' v.ownBlock → wpList Try.prog ops Q rest (a.put o.dst v') w') : wpList Try.prog ops Q (o :: rest) a W := by
  obtain ⟨i0, hi0, hz0, hz1, hz2⟩ := info_parts infoNdB
  refine wpList_append_own (w := W) hgd s x _ ho lo _ i0 (.agg #[.slice none 0 0, .bool false]) 2 32 Try.underlying40 hi0 hz0 hz1 hz2 rfl (by decide) v xs.length _ hs hN.head ⟨gx, 0, none⟩ 1 1 [u, .bool y.2] hx rfl ?_ ?_ (by unfold maxLen; omega) (by omega) hlo ?_
  · intro j z hj
    rcases j with _ | _ | j
    · simp at hj
      subst hj
      simpa [Addr.add] using c0
    · simp at hj
      subst hj
      simpa [Addr.add] using c1
    · simp at hj
  · intro z hz
    simp only [List.mem_cons, List.not_mem_nil, or_false] at hz
    rcases hz with rfl | rfl
    · exact hu1
    · rfl
  · intro v' w' ho' hg' _
    refine h v' w' (hN.push (hi2 := w'.heap.size) ho1 (Nat.le_trans hh hg'.size) (fun b hb => ⟨?_, hub b hb⟩) ho' hg' (fun k hk => (World.ownsRow.lt ho' k hk).2)) hg'
    have := (World.ownsRow.lt ho1 b hb).2
    have := hg'.size
    omega
/-- A variable of another type is written. -/
theorem BrV.atBox {w : World} {lo hi g : Nat} {v : Value} {es us : List Value} {qs : List (List Int)} {xs : List Nd} {cs : Array Value} {T : TypeId} (h : BrV w lo hi v es us qs xs) (hx : BoxAt w g cs T) (h1 : 104 ≠ T) (h2 : 3 ≠ T) (j : Nat) (x : Value) : BrV (w.setCell ⟨g, j, none⟩ x) lo hi v es us qs xs :=
  ⟨World.ownsRow.kept h.head (grown_setCell w g j x) (.inr (hx.offT h.head h1)), h.top, h.lenE, h.rws.kept (grown_setCell w g j x) (fun i hi' => .inr (hx.offT (h.rws.row i hi') h2))⟩

set_option linter.unusedSimpArgs false in
set_option maxRecDepth 100000 in
set_option maxHeartbeats 6400000 in
theorem l11Own_calls (p r : Value) (m : List Nd) (rs : List Int) (w : World) (h : RdP w p r m rs) (hz : SzP m rs) :
    Calls Try.prog 94 #[.agg #[p, r]] w fun e w' => ∃ p' r', e = .returned (.agg #[p', r']) ∧ TPol p' r' m rs w.heap.size w'.heap.size w' ∧ Below w.heap.size w w' := by
  have R := hide h
  have Z := hide hz
  obtain ⟨⟨ap, cp, rfl, _⟩, ⟨ar, cr, rfl, _⟩⟩ := h
  have A0 := hide (Hand.twoN w #[.slice ap m.length cp, .slice ar rs.length cr] nilP 43 43)
  have hml : m.length ≤ 1048576 := by have := hz.1; omega
  have hrl : rs.length ≤ 1048576 := hz.2
  clear hz
  obtain ⟨V0, hV0⟩ : ∃ V0, V0 = (w.alloc (.cells #[.slice ap m.length cp, .slice ar rs.length cr] 43)).alloc (.cells nilP 43) := ⟨_, rfl⟩
  obtain ⟨w1, hw1⟩ : ∃ w1, w1 = V0.alloc (.cells #[] 3) := ⟨_, rfl⟩
  rw [← hV0] at A0
  have sV : V0.heap.size = w.heap.size + 1 + 1 := by rw [hV0]; simp
  have b1 : Below V0.heap.size V0 w1 := by rw [hw1]; exact below_box _ _
  have o1 : Own w1 V0.heap.size (.slice (some ⟨w.heap.size + 1 + 1, 0, none⟩) 0 0) [] := by
    have := World.ownsRow_lit (base := V0.heap.size) (e := 3) (size := 1) V0 #[] 0 (by simp) (Nat.zero_le _) rfl
    rw [sV] at this
    rw [hw1, sV]
    exact this
  have W1 : Hid (((w.alloc (.cells #[.slice ap m.length cp, .slice ar rs.length cr] 43)).alloc (.cells nilP 43)).alloc (.cells #[] 3) = w1) := by show _ = _; rw [hw1, hV0]
  have HA := hide A0.out
  have SV := hide sV
  have O1 := hide o1
  have B1 := hide b1
  have s1 := b1.size
  have U1 := hide (R.out.2.below (HA.out.step b1).below)
  have HB : Hid (V0.heap.size ≤ w1.heap.size) := s1
  clear o1 b1 hw1 hV0 A0 sV s1
  go_enter Try.func94, Try.ntmps94
  go_wp2_with (refine wpList_app_int rfl _ _ rfl V0.heap.size (.slice (some ⟨w.heap.size + 1 + 1, 0, none⟩) 0 0) rfl [] (by rw [W1.out]; exact O1.out) (.slice ar rs.length cr) rfl rs (by rw [W1.out]; exact U1.out) (by simp only [List.length_nil]; omega) (by rw [W1.out]; exact HB.out) ?_)
  rw [W1.out]
  intro v3 w3 o3 g3 at3
  obtain ⟨a3, c3, rfl⟩ := row_slice o3
  have b3 : Below V0.heap.size V0 w3 := B1.out.grown g3 B1.out.size (fun j hj => by have := own_at1 (Nat.le_refl _) hj; have := SV.out; omega)
  obtain ⟨w4, hw4⟩ : ∃ w4, w4 = w3.alloc (.cells #[.slice none 0 0, .slice a3 rs.length c3] 43) := ⟨_, rfl⟩
  have b4 : Below w3.heap.size w3 w4 := by rw [hw4]; exact below_box _ _
  obtain ⟨g9, hg9⟩ : ∃ g9, g9 = w3.heap.size := ⟨_, rfl⟩
  have x4 : BoxAt w4 g9 #[.slice none 0 0, .slice a3 rs.length c3] 43 := by rw [hw4, hg9]; exact BoxAt.new _ _ _
  have o4 := Own.below o3 b4
  have W4 : Hid (w3.alloc (.cells #[.slice none 0 0, .slice a3 rs.length c3] 43) = w4) := hw4.symm
  have N0 : Hid (BrV w4 V0.heap.size w4.heap.size nilRow [.slice a3 rs.length c3] [] [rs] []) := (BrV.nil w4 V0.heap.size V0.heap.size).addE o4 (by have := b3.size; have := b4.size; omega) (fun b hb => ⟨(World.ownsRow.lt o4 b hb).2, (World.ownsRow.lt o4 b hb).1⟩)
  have X0 := hide x4
  have B0 := hide (b3.trans (b4.mono b3.size))
  have HG : Hid (V0.heap.size ≤ g9) := by rw [hg9]; exact b3.size
  have G9 := hide hg9
  obtain ⟨e0, e1⟩ := ((HA.out.step B0.out).atBox 1 rfl).c2
  clear o3 g3 at3 b3 b4 x4 o4 hw4 hg9 O1 B1 U1
  go_upto_region 2 with fail
  rw [W4.out, ← G9.out]
  go_wp2
  go_loopw [14] (fun vi wr => ∃ (k : Nat) (va : Option Addr) (vc : Nat) (us : List Value), k ≤ m.length ∧ vi = .int .i64 k ∧ BrV wr V0.heap.size wr.heap.size (.slice va k vc) [.slice a3 rs.length c3] us [rs] (m.take k) ∧ BoxAt wr g9 #[.slice va k vc, .slice a3 rs.length c3] 43 ∧ Below V0.heap.size V0 wr) (fun vi _ => m.length - (intOf vi).toNat)
  case atStart => exact ⟨0, none, 0, [], Nat.zero_le _, rfl, by simpa using N0.out, X0.out, B0.out⟩
  case round =>
    obtain ⟨k, va, vc, us, hk, rfl, hn, hx, hb⟩ := hrel
    clear N0 X0 B0 e0 e1
    by_cases hlt : k < m.length
    · obtain ⟨b, off, u, ks, z, rfl, hxx, hu, c0, c1⟩ := (R.out.below (HA.out.step hb).below).1.at k hlt
      obtain ⟨ua, uc, rfl, _, _⟩ := hu.slc
      have hks : ks.length ≤ 1048576 := by
        have h8 := totN_row_le m k hlt
        rw [hxx] at h8
        have h9 := Z.out.1
        simp only at h8
        omega
      have hlt' : (k : Int) < (m.length : Int) := by omega
      have hlo := hb.size
      have g9lt := hx.lt
      -- the node's variable, an empty row
      obtain ⟨w2, hw2⟩ : ∃ w2, w2 = (wr.alloc (.cells #[.slice ua ks.length uc, .bool z] 104)).alloc (.cells #[] 3) := ⟨_, rfl⟩
      have b2 : Below wr.heap.size wr w2 := by
        rw [hw2]
        exact (below_box wr _).trans ((below_box _ _).mono (by simp))
      have s2 : w2.heap.size = wr.heap.size + 1 + 1 := by rw [hw2]; simp
      have x2 : BoxAt w2 wr.heap.size #[.slice ua ks.length uc, .bool z] 104 := by
        rw [hw2]
        exact BoxAt.below (BoxAt.new wr _ _) (below_box _ _)
      have o2 : Own w2 (wr.heap.size + 1) (.slice (some ⟨wr.heap.size + 1, 0, none⟩) 0 0) [] := by
        have := World.ownsRow_lit (base := wr.heap.size + 1) (e := 3) (size := 1) (wr.alloc (.cells #[.slice ua ks.length uc, .bool z] 104)) #[] 0 (by simp) (Nat.zero_le _) rfl
        rw [World.size_alloc] at this
        rw [hw2]
        exact this
      have W2 : Hid ((wr.alloc (.cells #[.slice ua ks.length uc, .bool z] 104)).alloc (.cells #[] 3) = w2) := hw2.symm
      have U2 := hide (hu.below b2)
      have O2 := hide o2
      have X2 := hide x2
      have M2 := hide (hn.below b2)
      have XG := hide (hx.below b2)
      have BB2 := hide (hb.trans (b2.mono hb.size))
      have HXX := hide hxx
      have S2 := hide s2
      clear hu o2 x2 hn hx b2 hw2 hxx
      go_wp2_with (refine wpList_app_int rfl _ _ rfl (wr.heap.size + 1) (.slice (some ⟨wr.heap.size + 1, 0, none⟩) 0 0) rfl [] (by rw [W2.out]; exact O2.out) (.slice ua ks.length uc) rfl ks (by rw [W2.out]; exact U2.out) (by simp only [List.length_nil]; omega) (by simp) ?_)
      rw [W2.out]
      intro v3 w3 o3 g3 at3
      obtain ⟨xa, xc, rfl⟩ := row_slice o3
      have c3g : Chg (wr.heap.size + 1) (wr.heap.size + 1 + 1) w2 w3 := Chg.ofGrown g3 (fun j hj => own_at2 hj)
      have s3 := c3g.size
      have x3 := X2.out.chg c3g (.inl (by omega))
      obtain ⟨p0, p1⟩ := x3.c2
      have f0 := x3.frozen 0
      have c4g := Chg.ofSetCell (lo := wr.heap.size) (hi := wr.heap.size + 1) w3 wr.heap.size 0 (.slice xa ks.length xc) (Nat.le_refl _) (by omega)
      have x4 : BoxAt (w3.setCell ⟨wr.heap.size, 0, none⟩ (.slice xa ks.length xc)) wr.heap.size #[.slice xa ks.length xc, .bool z] 104 := by simpa using x3.set 0 (.slice xa ks.length xc)
      have m4 := (M2.out.chg c3g (.inl (by omega))).chg c4g (.inl (Nat.le_refl _))
      have y4 := (XG.out.chg c3g (.inl (by omega))).chg c4g (.inl (by omega))
      have o4 := ownsRow_chg o3 (row_top o3) c4g (.inr (Nat.le_refl _))
      have BB4 := hide ((BB2.out.grown g3 BB2.out.size (fun j hj => own_at1 (by omega) hj)).setCell (p := ⟨wr.heap.size, 0, none⟩) (by exact hlo) (.slice xa ks.length xc))
      have cb := below_box (w3.setCell ⟨wr.heap.size, 0, none⟩ (.slice xa ks.length xc)) (.cells #[.slice xa ks.length xc, .bool z] 104)
      obtain ⟨w5, hw5⟩ : ∃ w5, w5 = (w3.setCell ⟨wr.heap.size, 0, none⟩ (.slice xa ks.length xc)).alloc (.cells #[.slice xa ks.length xc, .bool z] 104) := ⟨_, rfl⟩
      have x5 : BoxAt w5 w3.heap.size #[.slice xa ks.length xc, .bool z] 104 := by
        have := BoxAt.new (w3.setCell ⟨wr.heap.size, 0, none⟩ (.slice xa ks.length xc)) #[.slice xa ks.length xc, .bool z] 104
        rw [World.size_setCell] at this
        rw [hw5]
        exact this
      rw [← hw5] at cb
      have s5 := cb.size
      rw [World.size_setCell] at s5
      have M5 := hide (m4.below cb)
      have Y5 := hide (y4.below cb)
      have O5 := hide (Own.mono (Own.below o4 cb) (by omega : V0.heap.size ≤ wr.heap.size + 1))
      have L5 : Hid (∀ b, (Value.slice xa ks.length xc).ownBlock = some b → wr.heap.size ≤ b) := fun b hb' => by have := (World.ownsRow.lt o3 b hb').1; omega
      have BB5 := hide (BB4.out.trans (cb.mono BB4.out.size))
      have W5 : Hid ((w3.setCell ⟨wr.heap.size, 0, none⟩ (.slice xa ks.length xc)).alloc (.cells #[.slice xa ks.length xc, .bool z] 104) = w5) := hw5.symm
      obtain ⟨q0, q1⟩ := x5.c2
      obtain ⟨r0, r1⟩ := y4.c2
      obtain ⟨t0, t1⟩ := x4.c2
      have KT : Hid (m.take k ++ [(ks, z)] = m.take (k + 1)) := by show _ = _; rw [take_succ_getD m k nd0 hlt, HXX.out]
      have hkt : (m.take k).length = k := by simp; omega
      have HKT := hide hkt
      clear o3 at3 x3 c3g c4g m4 y4 o4 cb hw5 x5 x4 M2 XG BB2 O2 U2 hkt
      go_wp2_with (refine wpList_app_br rfl _ _ rfl V0.heap.size wr.heap.size (.slice va k vc) rfl _ us _ (m.take k) (by rw [W5.out]; exact M5.out) w3.heap.size rfl (.slice xa ks.length xc) (ks, z) (by rw [W5.out]; exact q0) (by rw [W5.out]; exact q1) rfl (by rw [W5.out]; exact O5.out) L5.out (by simp; omega) (by rw [HKT.out]; omega) (by simp; omega) ?_)
      rw [W5.out]
      intro v6 w6 n6 g6
      rw [KT.out] at n6
      have y6 := Y5.out.kept g6 (Y5.out.offT M5.out.head (by decide))
      have b6 : Below V0.heap.size V0 w6 := BB5.out.grown g6 BB5.out.size (fun j hj => by
        have := World.ownsRow.lt M5.out.head j hj
        omega)
      obtain ⟨va6, vc6, h6⟩ := n6.slice
      have hkt2 : (m.take (k + 1)).length = k + 1 := by simp; omega
      rw [hkt2] at h6
      subst h6
      obtain ⟨r0', r1'⟩ := y6.c2
      have f6 := y6.frozen 0
      have N7 := hide (n6.atBox y6 (by decide) (by decide) 0 (.slice va6 (k + 1) vc6))
      have Y7 : Hid (BoxAt (w6.setCell ⟨g9, 0, none⟩ (.slice va6 (k + 1) vc6)) g9 #[.slice va6 (k + 1) vc6, .slice a3 rs.length c3] 43) := by show BoxAt _ _ _ _; simpa using y6.set 0 (.slice va6 (k + 1) vc6)
      have B7 := hide (b6.setCell (p := ⟨g9, 0, none⟩) (by exact HG.out) (.slice va6 (k + 1) vc6))
      clear n6 g6 y6 b6 hkt2 M5 Y5 O5 L5 BB5 q0 q1 r0 r1 t0 t1
      go_wp2
      go_roundw
      case rel => exact ⟨k + 1, va6, vc6, _, by omega, by go_num, by simpa using N7.out, Y7.out, B7.out⟩
      case measure => simp [intOf]; omega
    · obtain rfl : k = m.length := by omega
      rw [List.take_length] at hn
      have A1 := hide (HA.out.step hb)
      obtain ⟨c0, c1⟩ := hx.c2
      have xr := A1.out.atBox 0 rfl
      obtain ⟨d0, d1⟩ := xr.c2
      have f0 := xr.frozen 0
      have f1 := xr.frozen 1
      skip
      have lr := (HA.out.atBox 0 rfl).lt
      have cs3 := (Chg.ofSetCell (lo := w.heap.size + 1) (hi := w.heap.size + 1 + 1) wr (w.heap.size + 1) 0 (.slice va m.length vc) (Nat.le_refl _) (by omega)).trans (Chg.ofSetCell _ (w.heap.size + 1) 1 (.slice a3 rs.length c3) (Nat.le_refl _) (by omega))
      have N9 := hide ((hn.chg cs3 (.inr (by omega))).wider (lo' := w.heap.size) (by have := HA.out.below.size; omega) cs3.size)
      have X9 := hide (BoxAt.store2P xr (.slice va m.length vc) (.slice a3 rs.length c3))
      have B9 := hide (A1.out.below.trans (cs3.below (B := w.heap.size) (by omega) A1.out.below.size))
      clear hn hx hb xr cs3 lr A1
      go_wp2
      exact bodyPost_ret (res_pl rfl _ _ (w.heap.size + 1) _ _ (0, 0) rfl X9.out) rfl ⟨_, _, rfl, ⟨us, N9.out⟩, B9.out⟩
end Go.Proofs.Ythmijjcddjlebaa

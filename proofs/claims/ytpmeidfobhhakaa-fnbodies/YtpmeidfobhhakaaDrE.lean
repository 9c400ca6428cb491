/-
  The model's draws for the law of bodies, call by call: what comes out is within its bounds, and nothing that was there is written. Each contract says what it asks.
-/
import Derived.Test.YtpmeidfobhhakaaDrD
namespace Go.Proofs.Ytpmeidfobhhakaa
open Go.RowKit
set_option linter.unusedVariables false

theorem results_tmp4 {fn : Func} {t u v x : Tmp} (h : fn.results = #[.tmp t, .tmp u, .tmp v, .tmp x]) (tmps : Array Value) (P : Program) (w : World) :
    (results fn tmps).run P w = .ok (.tuple #[tmps.getD t undef, tmps.getD u undef, tmps.getD v undef, tmps.getD x undef]) w := by
  simp [results, h]

set_option maxRecDepth 100000 in
set_option maxHeartbeats 800000 in
theorem drawSplitBody_calls (cv : Value) (w : World) (h : RdB w cv) :
    Calls Try.prog 18 #[cv] w fun e w' => ∃ s : ByteArray, s.size ≤ 161 ∧ e = .returned (.string s) ∧ Below w.heap.size w w' := by
  have C0 := hide (cur_new h)
  obtain ⟨a0, cap0, zs, rfl, _, _, _⟩ := h
  go_enter Try.func18, Try.ntmps18
  go_wp2_with fail
  refine (body_calls w.heap.size _ 0 _ C0.out (by omega)).mono ?_
  rintro e w1 ⟨s, hs, rfl, hc1, hg1⟩
  have B := hide (cur_below hg1)
  clear hc1 hg1
  go_wp2
  go_ret
  exact ⟨s, hs, rfl, B.out⟩

set_option maxRecDepth 100000 in
set_option maxHeartbeats 800000 in
theorem drawFrameAll_calls (cv : Value) (w : World) (h : RdB w cv) :
    Calls Try.prog 13 #[cv] w fun e w' => ∃ (K A E : Int) (s : ByteArray), (-1 ≤ A ∧ A ≤ 60001) ∧ s.size ≤ 161 ∧ e = .returned (.tuple #[.int .i64 K, .int .i64 A, .int .i64 E, .string s]) ∧ Below w.heap.size w w' := by
  have C0 := hide (cur_new h)
  obtain ⟨a0, cap0, zs, rfl, _, _, _⟩ := h
  go_enter Try.func13, Try.ntmps13
  go_wp2_with fail
  refine (frame_calls w.heap.size _ 0 _ C0.out (by omega)).mono ?_
  rintro e w1 ⟨K, A, E, b, hA, hb, rfl, hc1, hg1⟩
  have hgl : w.heap.size < w1.heap.size := curS_lt hc1
  have CX := hide ((hc1.alloc (.cells #[.int .i64 K, .int .i64 A, .int .i64 E, .string b] 48)).drewN 1)
  have G1 := hide (grown_alloc hg1 (.cells #[.int .i64 K, .int .i64 A, .int .i64 E, .string b] 48))
  have F : Hid (∀ w', (w1.alloc (.cells #[.int .i64 K, .int .i64 A, .int .i64 E, .string b] 48)).grownBy w' (some w.heap.size) →
      w'.cell? ⟨w1.heap.size, 0, none⟩ = some (.int .i64 K) ∧ w'.cell? ⟨w1.heap.size, 1, none⟩ = some (.int .i64 A) ∧ w'.cell? ⟨w1.heap.size, 2, none⟩ = some (.int .i64 E)) := by
    show ∀ w', _
    intro w' hg
    have hh : w'.heap[w1.heap.size]? = some (.cells #[.int .i64 K, .int .i64 A, .int .i64 E, .string b] 48 (0, 0)) := by
      rw [hg.block w1.heap.size (by simp) (by simp; omega)]
      exact heap_alloc_new w1 _
    obtain ⟨⟨c0, c1, c2, _⟩, _⟩ := cells4 hh
    exact ⟨c0, c1, c2⟩
  clear hc1 hg1
  go_wp2
  go_region_held3 (fun w' => w'.cell? ⟨w1.heap.size, 0, none⟩ = some (.int .i64 K) ∧ w'.cell? ⟨w1.heap.size, 1, none⟩ = some (.int .i64 A) ∧ w'.cell? ⟨w1.heap.size, 2, none⟩ = some (.int .i64 E))
    (first | exact F.out _ G2.out | exact F.out _ (grown_drewN (World.grownBy.refl _ _) 1))
    ((go_at_call 30; refine (body_calls w.heap.size _ 12 _ CX.out (by omega)).mono ?_; rintro e' w2 ⟨s, hs, rfl, hc2, hg2⟩; have G2 := hide (grown_trans (grown_drewN (World.grownBy.refl (w1.alloc (.cells #[.int .i64 K, .int .i64 A, .int .i64 E, .string b] 48)) _) 1) hg2); clear hc2 hg2))
  have B2 := hide (cur_below (grown_trans G1.out G2.out))
  go_wp2
  (try simp only [Exit.inBlock, Exit.then])
  exact bodyPost_ret (results_tmp4 rfl _ _ _) rfl ⟨K, A, E, s, hA, hs, rfl, B2.out⟩

theorem mem_set_small {xs : List ByteArray} {i : Nat} {t : ByteArray} (h : ∀ s ∈ xs, s.size ≤ maxLen) (ht : t.size ≤ maxLen) : ∀ s ∈ xs.set i t, s.size ≤ maxLen := by
  intro s hs
  rcases List.mem_or_eq_of_mem_set hs with h' | h'
  · exact h s h'
  · rw [h']; exact ht

set_option maxRecDepth 100000 in
set_option maxHeartbeats 1600000 in
theorem drawJoinBody_calls (cv : Value) (w : World) (h : RdB w cv) :
    Calls Try.prog 21 #[cv] w fun e w' => ∃ (v : Value) (xs : List ByteArray), e = .returned v ∧ RdT w' v xs ∧ Below w.heap.size w w' := by
  have C0 := hide (cur_new h)
  obtain ⟨a0, cap0, zs, rfl, _, _, _⟩ := h
  go_enter Try.func21, Try.ntmps21
  go_wp2_with fail
  refine (body_calls w.heap.size _ 0 _ C0.out (by omega)).mono ?_
  rintro e w1 ⟨s, hs, rfl, hc1, hg1⟩
  have hgl : w.heap.size < w1.heap.size := curS_lt hc1
  have C1 := hide hc1
  have G1 := hide hg1
  clear hc1 hg1
  go_wp2_with fail
  refine (sSplitBody_calls s _ (by unfold maxLen; omega)).mono ?_
  rintro e w2 ⟨v2, rfl, o2, b2⟩
  obtain ⟨hn, hsm⟩ := splR_facts s
  generalize (splR s).1 = ys at o2 hn hsm
  generalize (splR s).2 = ok
  have SM := hide hsm
  have C2 := hide (C1.out.made (below_grow b2 none))
  have G2 := hide (grown_trans G1.out (below_grow b2 _))
  have O2 := hide o2
  have GE := hide (own_ge o2)
  have R2 := hide (o2.rd hsm)
  obtain ⟨a2, c2, rfl⟩ := own_slice o2
  clear o2 b2 C1 G1 hsm
  by_cases h0 : 0 < ys.length
  case neg =>
    have h0' : ¬ (0 : Int) < (ys.length : Int) := by omega
    have B := hide (cur_below G2.out)
    go_wp2
    go_ret
    exact ⟨_, ys, rfl, R2.out, B.out⟩
  have h0' : (0 : Int) < (ys.length : Int) := by omega
  go_wp2_with fail
  refine (one_calls w.heap.size _ _ 4 _ C2.out (by omega) (by omega) (by omega)).mono ?_
  rintro e w3 ⟨y, rfl, hc3, hg3⟩
  have C3 := hide hc3
  have G3 := hide (grown_trans G2.out hg3)
  have O3 := hide (World.ownsRow.kept O2.out hg3 (by
    rcases hh : (Value.slice a2 ys.length c2).ownBlock with _ | j
    · exact .inl rfl
    · right; have := GE.out j hh; simp; omega))
  clear hc3 hg3 C2 G2
  cases y with
  | false =>
    have R3 := hide (OwnT.rd O3.out SM.out)
    have B := hide (cur_below G3.out)
    go_wp2
    go_ret
    exact ⟨_, ys, rfl, R3.out, B.out⟩
  | true =>
    go_wp2_with fail
    refine (pick_calls w.heap.size _ _ ys.length _ C3.out (by omega) (by omega) (by omega)).mono ?_
    rintro e w4 ⟨i, hi, rfl, hc4, hg4⟩
    have C4 := hide hc4
    have G4 := hide (grown_trans G3.out hg4)
    have O4 := hide (World.ownsRow.kept O3.out hg4 (by
      rcases hh : (Value.slice a2 ys.length c2).ownBlock with _ | j
      · exact .inl rfl
      · right; have := GE.out j hh; simp; omega))
    have hl4 : w.heap.size < w4.heap.size := curS_lt hc4
    clear hc4 hg4 C3 G3
    go_wp2_with fail
    refine (of_calls w.heap.size _ _ [⟨#[]⟩, ⟨#[120]⟩] _ 1 _ (C4.out.alloc _) (by omega) (rdS_build hl4) (by decide) (by decide) (by decide)).mono ?_
    rintro e w5 ⟨T, hT, rfl, hc5, hg5⟩
    have G5 := hide (grown_trans G4.out (grown_trans (World.grownBy_alloc _ _ _) hg5))
    have o5 := World.ownsRow.kept (World.ownsRow.alloc O4.out (.cells #[.string ⟨#[]⟩, .string ⟨#[120]⟩] 9)) hg5 (by
      rcases hh : (Value.slice a2 ys.length c2).ownBlock with _ | j
      · exact .inl rfl
      · right; have := GE.out j hh; simp; omega)
    rcases o5.2 with ⟨h', hz⟩ | ⟨g, cap, cur, h', hbg, hg, _⟩
    · omega
    simp only [Value.slice.injEq] at h'
    obtain ⟨rfl, _, rfl⟩ := h'
    have f5 : w5.frozen? ⟨g, i, none⟩ = false := o5.frozenAt i
    obtain ⟨old, hc3⟩ : ∃ old, w5.cell? ⟨g, i, none⟩ = some old := by
      rw [o5.cellAt i (by omega)]
      exact ⟨_, List.getElem?_eq_getElem (by rw [List.length_map]; exact hi)⟩
    have hst := o5.stored i (.string T)
    have K5 := hide hst
    have hi' : (i : Int) < (ys.length : Int) := by omega
    have B := hide ((cur_below G5.out).setCell (p := ⟨g, i, none⟩) (by show w.heap.size ≤ g; omega) (.string T))
    clear o5 hst hc5 hg5 hg
    go_wp2
    go_ret
    refine ⟨_, ys.set i T, rfl, ?_, B.out⟩
    have := K5.out.1
    rw [← List.map_set] at this
    have o6 : OwnT (w5.setCell ⟨g, i, none⟩ (.string T)) w1.heap.size (.slice (some ⟨g, 0, none⟩) ys.length c2) (ys.set i T) := by
      show World.ownsRow _ _ _ _ _ (ys.set i T).length _
      rw [List.length_set]
      exact this
    have r6 := o6.rd (mem_set_small SM.out (by unfold maxLen; omega))
    exact r6

set_option maxRecDepth 100000 in
set_option maxHeartbeats 1600000 in
theorem drawReadAll_calls (cv : Value) (w : World) (h : RdB w cv) :
    Calls Try.prog 22 #[cv] w fun e w' => ∃ (v : Value) (xs : List ByteArray) (K A E : Int), e = .returned (.tuple #[v, .int .i64 K, .int .i64 A, .int .i64 E]) ∧ RdT w' v xs ∧ Below w.heap.size w w' := by
  have C0 := hide (cur_new h)
  obtain ⟨a0, cap0, zs, rfl, _, _, _⟩ := h
  go_enter Try.func22, Try.ntmps22
  go_wp2_with fail
  refine (frame_calls w.heap.size _ 0 _ C0.out (by omega)).mono ?_
  rintro e w1 ⟨K, A, E, b, hA, hb, rfl, hc1, hg1⟩
  have hgl : w.heap.size < w1.heap.size := curS_lt hc1
  have CX := hide ((hc1.alloc (.cells #[.int .i64 K, .int .i64 A, .int .i64 E, .string b] 48)).drewN 1)
  have G1 := hide (grown_alloc hg1 (.cells #[.int .i64 K, .int .i64 A, .int .i64 E, .string b] 48))
  have F : Hid (∀ w', (w1.alloc (.cells #[.int .i64 K, .int .i64 A, .int .i64 E, .string b] 48)).grownBy w' (some w.heap.size) →
      w'.cell? ⟨w1.heap.size, 0, none⟩ = some (.int .i64 K) ∧ w'.cell? ⟨w1.heap.size, 1, none⟩ = some (.int .i64 A) ∧ w'.cell? ⟨w1.heap.size, 2, none⟩ = some (.int .i64 E)) := by
    show ∀ w', _
    intro w' hg
    have hh : w'.heap[w1.heap.size]? = some (.cells #[.int .i64 K, .int .i64 A, .int .i64 E, .string b] 48 (0, 0)) := by
      rw [hg.block w1.heap.size (by simp) (by simp; omega)]
      exact heap_alloc_new w1 _
    obtain ⟨⟨c0, c1, c2, _⟩, _⟩ := cells4 hh
    exact ⟨c0, c1, c2⟩
  have hlX : w1.heap.size < (w1.alloc (.cells #[.int .i64 K, .int .i64 A, .int .i64 E, .string b] 48)).heap.size := by simp
  clear hc1 hg1
  go_wp2
  generalize w1.alloc (.cells #[.int .i64 K, .int .i64 A, .int .i64 E, .string b] 48) = X at CX G1 F hlX ⊢
  go_region_held3 (fun w' => w'.cell? ⟨w1.heap.size, 0, none⟩ = some (.int .i64 K) ∧ w'.cell? ⟨w1.heap.size, 1, none⟩ = some (.int .i64 A) ∧ w'.cell? ⟨w1.heap.size, 2, none⟩ = some (.int .i64 E))
    (first | exact F.out _ G3.out | exact F.out _ G2.out | exact F.out _ (grown_drewN (World.grownBy.refl _ _) 1))
    ((first
      | (go_at_call 30; refine (body_calls w.heap.size _ 12 _ CX.out (by omega)).mono ?_; rintro e' w2 ⟨s, hs, rfl, hc2, hg2⟩; have C2 := hide hc2; have G2 := hide (grown_trans (grown_drewN (World.grownBy.refl X _) 1) hg2); clear hc2 hg2)
      | (go_at_call 15; refine (sFrameAll_calls K A E s _ (by unfold maxLen; omega)).mono ?_; rintro e' w3 ⟨v3, rfl, o3, b3⟩; have C3 := hide (C2.out.made (below_grow b3 none)); have G3 := hide (grown_trans G2.out (below_grow b3 _)))))
  obtain ⟨hn, hsm⟩ := faR_facts K A E s
  generalize (faR K A E s).1 = ys at o3 hn hsm
  generalize (faR K A E s).2 = ok
  have SM := hide hsm
  have hl2 : w1.heap.size < w2.heap.size := Nat.lt_of_lt_of_le hlX G2.out.size
  have O3 := hide o3
  have GE := hide (own_ge o3)
  have GX3 := hide (grown_trans G1.out G3.out)
  obtain ⟨a2, c2, rfl⟩ := own_slice o3
  clear o3 b3 hsm C2
  by_cases h0 : 0 < ys.length
  case neg =>
    have h0' : ¬ (0 : Int) < (ys.length : Int) := by omega
    have F3 := hide (fun w' hg => F.out w' (grown_trans G3.out hg))
    have CY := hide (C3.out.drewN 1)
    go_wp2
    go_region_held3 (fun w' => w'.cell? ⟨w1.heap.size, 0, none⟩ = some (.int .i64 K) ∧ w'.cell? ⟨w1.heap.size, 1, none⟩ = some (.int .i64 A) ∧ w'.cell? ⟨w1.heap.size, 2, none⟩ = some (.int .i64 E))
      (first | exact F3.out _ G9.out | exact F3.out _ (grown_drewN (World.grownBy.refl _ _) 1))
      ((go_at_call 36; refine (pick_calls w.heap.size _ _ 3 _ CY.out (by omega) (by omega) (by omega)).mono ?_; rintro e' w9 ⟨r9, hr9, rfl, hc9, hg9⟩; have G9 := hide (grown_trans (grown_drewN (World.grownBy.refl w3 _) 1) hg9); clear hc9 hg9))
    have B := hide (cur_below (grown_trans GX3.out G9.out))
    have R9 := hide (OwnT.rd (World.ownsRow.kept O3.out G9.out (by
      rcases hh : (Value.slice a2 ys.length c2).ownBlock with _ | j
      · exact .inl rfl
      · right; have := GE.out j hh; simp; omega)) SM.out)
    go_wp2
    (try simp only [Exit.inBlock, Exit.then])
    exact bodyPost_ret (results_tmp4 rfl _ _ _) rfl ⟨_, ys, K, A, _, rfl, R9.out, B.out⟩
  have h0' : (0 : Int) < (ys.length : Int) := by omega
  go_wp2_with fail
  refine (one_calls w.heap.size _ _ 3 _ C3.out (by omega) (by omega) (by omega)).mono ?_
  rintro e w4 ⟨y, rfl, hc4, hg4⟩
  have C4 := hide hc4
  have G4 := hide (grown_trans G3.out hg4)
  have GX4 := hide (grown_trans GX3.out hg4)
  have O4 := hide (World.ownsRow.kept O3.out hg4 (by
      rcases hh : (Value.slice a2 ys.length c2).ownBlock with _ | j
      · exact .inl rfl
      · right; have := GE.out j hh; simp; omega))
  clear hc4 hg4 C3 G3 GX3
  cases y with
  | false =>
    have F3 := hide (fun w' hg => F.out w' (grown_trans G4.out hg))
    have CY := hide (C4.out.drewN 1)
    go_wp2
    go_region_held3 (fun w' => w'.cell? ⟨w1.heap.size, 0, none⟩ = some (.int .i64 K) ∧ w'.cell? ⟨w1.heap.size, 1, none⟩ = some (.int .i64 A) ∧ w'.cell? ⟨w1.heap.size, 2, none⟩ = some (.int .i64 E))
      (first | exact F3.out _ G9.out | exact F3.out _ (grown_drewN (World.grownBy.refl _ _) 1))
      ((go_at_call 36; refine (pick_calls w.heap.size _ _ 3 _ CY.out (by omega) (by omega) (by omega)).mono ?_; rintro e' w9 ⟨r9, hr9, rfl, hc9, hg9⟩; have G9 := hide (grown_trans (grown_drewN (World.grownBy.refl w4 _) 1) hg9); clear hc9 hg9))
    have B := hide (cur_below (grown_trans GX4.out G9.out))
    have R9 := hide (OwnT.rd (World.ownsRow.kept O4.out G9.out (by
          rcases hh : (Value.slice a2 ys.length c2).ownBlock with _ | j
          · exact .inl rfl
          · right; have := GE.out j hh; simp; omega)) SM.out)
    go_wp2
    (try simp only [Exit.inBlock, Exit.then])
    exact bodyPost_ret (results_tmp4 rfl _ _ _) rfl ⟨_, ys, K, A, _, rfl, R9.out, B.out⟩
  | true =>
    go_wp2_with fail
    refine (pick_calls w.heap.size _ _ ys.length _ C4.out (by omega) (by omega) (by omega)).mono ?_
    rintro e w5 ⟨i, hi, rfl, hc5, hg5⟩
    have C5 := hide hc5
    have G5 := hide (grown_trans G4.out hg5)
    have GX5 := hide (grown_trans GX4.out hg5)
    have O5 := hide (World.ownsRow.kept O4.out hg5 (by
      rcases hh : (Value.slice a2 ys.length c2).ownBlock with _ | j
      · exact .inl rfl
      · right; have := GE.out j hh; simp; omega))
    clear hc5 hg5 C4 G4 GX4
    go_wp2_with fail
    refine (sector_calls w.heap.size _ _ _ C5.out (by omega)).mono ?_
    rintro e w6 ⟨T, hT, rfl, hc6, hg6⟩
    have C6 := hide hc6
    have G6 := hide (grown_trans G5.out hg6)
    have GX6 := hide (grown_trans GX5.out hg6)
    have o6 := World.ownsRow.kept O5.out hg6 (by
      rcases hh : (Value.slice a2 ys.length c2).ownBlock with _ | j
      · exact .inl rfl
      · right; have := GE.out j hh; simp; omega)
    rcases o6.2 with ⟨h', hz⟩ | ⟨gg, cap, cur, h', hbg, hgg, _⟩
    · omega
    simp only [Value.slice.injEq] at h'
    obtain ⟨rfl, _, rfl⟩ := h'
    have f6 : w6.frozen? ⟨gg, i, none⟩ = false := o6.frozenAt i
    obtain ⟨old, hc3⟩ : ∃ old, w6.cell? ⟨gg, i, none⟩ = some old := by
      rw [o6.cellAt i (by omega)]
      exact ⟨_, List.getElem?_eq_getElem (by rw [List.length_map]; exact hi)⟩
    have hst := o6.stored i (.string T)
    have hi' : (i : Int) < (ys.length : Int) := by omega
    have o7 : OwnT (w6.setCell ⟨gg, i, none⟩ (.string T)) w2.heap.size (.slice (some ⟨gg, 0, none⟩) ys.length c2) (ys.set i T) := by
      have := hst.1
      rw [← List.map_set] at this
      show World.ownsRow _ _ _ _ _ (ys.set i T).length _
      rw [List.length_set]
      exact this
    have hX2 : X.heap.size ≤ gg := Nat.le_trans G2.out.size hbg
    have C7 := hide (CurS.set_far C6.out ⟨_, C0.out⟩ GX6.out (p := gg) (by simp; omega) (by omega) i (.string T))
    have G7 := hide (grown_set G6.out hX2 i (.string T))
    have GX7 := hide (grown_set GX6.out (p := gg) (by simp; omega) i (.string T))
    have O7 := hide o7
    have SM7 := hide (mem_set_small (i := i) (t := T) SM.out (by unfold maxLen; omega))
    clear o6 o7 hst hc6 hg6 hgg C5 C6 G6 GX6 G5 GX5 O5 O4
    go_wp2
    generalize w6.setCell ⟨gg, i, none⟩ (.string T) = w7 at C7 G7 GX7 O7 ⊢
    have F3 := hide (fun w' hg => F.out w' (grown_trans G7.out hg))
    have CY := hide (C7.out.drewN 1)
    go_wp2
    go_region_held3 (fun w' => w'.cell? ⟨w1.heap.size, 0, none⟩ = some (.int .i64 K) ∧ w'.cell? ⟨w1.heap.size, 1, none⟩ = some (.int .i64 A) ∧ w'.cell? ⟨w1.heap.size, 2, none⟩ = some (.int .i64 E))
      (first | exact F3.out _ G9.out | exact F3.out _ (grown_drewN (World.grownBy.refl _ _) 1))
      ((go_at_call 36; refine (pick_calls w.heap.size _ _ 3 _ CY.out (by omega) (by omega) (by omega)).mono ?_; rintro e' w9 ⟨r9, hr9, rfl, hc9, hg9⟩; have G9 := hide (grown_trans (grown_drewN (World.grownBy.refl w7 _) 1) hg9); clear hc9 hg9))
    have B := hide (cur_below (grown_trans GX7.out G9.out))
    have R9 := hide (OwnT.rd (World.ownsRow.kept O7.out G9.out (by
          rcases hh : (Value.slice (some ⟨gg, 0, none⟩) ys.length c2).ownBlock with _ | j
          · exact .inl rfl
          · right; have := GE.out j hh; simp; omega)) SM7.out)
    go_wp2
    (try simp only [Exit.inBlock, Exit.then])
    exact bodyPost_ret (results_tmp4 rfl _ _ _) rfl ⟨_, (ys.set i T), K, A, _, rfl, R9.out, B.out⟩
end Go.Proofs.Ytpmeidfobhhakaa

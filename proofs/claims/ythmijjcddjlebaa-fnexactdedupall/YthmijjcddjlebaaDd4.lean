/-
  Texts whose chunks are kept once each, by the model: the whole call. It says what it asks.
-/
import Derived.Test.YthmijjcddjlebaaDd3
namespace Go.Proofs.Ythmijjcddjlebaa
open Go.RowKit
set_option linter.unusedVariables false

theorem KeepsWalks9 (W : World) (p : Addr) (v : Value) : (W.setCell p v).heap.size = W.heap.size := by simp [World.setCell]
theorem rdT_nil9 (w : World) : RdT w (.slice none 0 0) [] := ⟨none, 0, rfl, Nat.le_refl _, ⟨Nat.zero_le _, fun _ => rfl⟩, fun _ h => (by cases h), .inl rfl⟩
theorem rdM_nil9 (w : World) : RdM w (.slice none 0 0) [] := ⟨none, 0, rfl, Nat.le_refl _, ⟨Nat.zero_le _, fun _ => rfl⟩, .inl rfl⟩
set_option maxRecDepth 100000 in
set_option maxHeartbeats 3200000 in
theorem sDedupAll_calls (v : Value) (xs : List ByteArray) (w : World) (h : RdT w v xs) :
    Calls Try.prog 15 #[v] w fun e w' => ∃ vc vu, e = .returned (.tuple #[.agg #[vc, vu], .bool (dedR xs).2.2]) ∧ RdT w' vc (dedR xs).1 ∧ RdM w' vu (dedR xs).2.1 ∧ Below w.heap.size w w' := by
  obtain ⟨is, hi0, hz0, hz1, hz2⟩ := info_parts infoStr
  have IPS := hide (And.intro hi0 (And.intro hz0 (And.intro hz1 hz2)))
  clear hi0 hz0 hz1 hz2
  obtain ⟨ii, hi0, hz0, hz1, hz2⟩ := info_parts infoInt
  have IPI := hide (And.intro hi0 (And.intro hz0 (And.intro hz1 hz2)))
  clear hi0 hz0 hz1 hz2
  obtain ⟨ir, hi0, hz0, hz1, hz2⟩ := info_parts infoRows9
  have IPR := hide (And.intro hi0 (And.intro hz0 (And.intro hz1 hz2)))
  clear hi0 hz0 hz1 hz2
  have R := hide h
  obtain ⟨a, cap, rfl, h1, h2, h4, h3⟩ := h
  have H3 := hide h3
  clear h3 h4 h2 h1
  have x0 : Boxed2 (w.alloc (.cells #[.slice none 0 0, .slice none 0 0] 27)) w.heap.size 27 (.slice none 0 0) (.slice none 0 0) := boxed2_new w _ _ _
  have X0 := hide x0
  have B0 : Hid (Below w.heap.size w (w.alloc (.cells #[.slice none 0 0, .slice none 0 0] 27))) := (Below.refl _ w).alloc (Nat.le_refl _) _
  by_cases hok : dedOk xs
  case neg =>
    rw [show dedR xs = ([], [], false) from if_neg hok]
    have HN := hide (decide_eq_false hok)
    have c0 := x0.c0
    have c1 := x0.c1
    have f0 := x0.f0 0
    have f1 := x0.f0 1
    clear x0
    go_enter Try.func15, Try.ntmps15
    go_wp2_with fail
    refine (l9Texts_calls _ xs _ (R.out.below B0.out)).mono ?_
    rintro e w1 ⟨rfl, rfl⟩
    rw [HN.out]
    go_wp2
    refine bodyPost_ret (res_rcp2 rfl _ _ w.heap.size _ _ (0, 0) rfl X0.out) rfl ⟨_, _, rfl, rdT_nil9 _, rdM_nil9 _, B0.out⟩
  rw [show dedR xs = ((dedF xs).1, (dedF xs).2, true) from if_pos hok]
  have HN := hide (decide_eq_true hok)
  have HOK := hide hok
  clear x0 hok
  have O0 : Hid (Outr w ((w.alloc (.cells #[.slice none 0 0, .slice none 0 0] 27)).alloc (.cells #[.slice none 0 0, .slice none 0 0] 27)) (.slice none 0 0) (.slice none 0 0) [] (dedF (xs.take 0)).1 (dedF (xs.take 0)).2) := by
    refine ⟨?_, boxed2_alloc X0.out _, World.ownsRow_nil _ _ _ _, grid_nil _ _, B0.out.alloc B0.out.size _, by simp⟩
    have := boxed2_new (w.alloc (.cells #[.slice none 0 0, .slice none 0 0] 27)) 27 (.slice none 0 0) (.slice none 0 0)
    rwa [World.size_alloc] at this
  go_enter Try.func15, Try.ntmps15
  go_wp2_with fail
  refine (l9Texts_calls _ xs _ (R.out.below B0.out)).mono ?_
  rintro e w1 ⟨rfl, rfl⟩
  rw [HN.out]
  go_wp2
  generalize (w.alloc (.cells #[.slice none 0 0, .slice none 0 0] 27)).alloc (.cells #[.slice none 0 0, .slice none 0 0] 27) = w1 at O0 ⊢
  go_loopw [17] (fun vi wr => ∃ (k : Nat) (vc vu : Value) (vs : List Value), k ≤ xs.length ∧ vi = .int .i64 k ∧ Outr w wr vc vu vs (dedF (xs.take k)).1 (dedF (xs.take k)).2) (fun vi _ => xs.length - (intOf vi).toNat)
  case atStart => exact ⟨0, _, _, _, Nat.zero_le _, rfl, O0.out⟩
  case round =>
    obtain ⟨k, vc, vu, vs, hk, rfl, hO⟩ := hrel
    have O := hide hO
    clear hO
    obtain ⟨wo, hwo⟩ : ∃ wo, wo = wr := ⟨_, rfl⟩
    subst hwo
    have hk8 : k ≤ 8 := by have := HOK.out.1; omega
    by_cases hlt : k < xs.length
    · rcases H3.out with h3 | ⟨b, off, rfl, hbs, hc⟩
      · subst h3; simp at hlt
      have hck := (O.out.below.cell (p := ⟨b, off + k, none⟩) hbs).trans (hc k hlt)
      clear hc
      have hsn := dedF_snoc xs k hlt
      have hs3' := HOK.out.2 k hlt
      obtain ⟨s, hs⟩ : ∃ s, s = xs.getD k ⟨#[]⟩ := ⟨_, rfl⟩
      rw [← hs] at hck hsn hs3'
      have hl9 := dedF_len xs k hk HOK.out.2
      have hal := dedF_all xs k hk HOK.out.2
      have HS := hide hsn
      have HAL := hide hal
      clear hsn hal hs
      generalize dedF (xs.take k) = D at O hl9 HAL HS
      obtain ⟨C, U⟩ := D
      simp only at O hl9 HAL HS
      obtain ⟨hUl, hCl⟩ := hl9
      have HUL := hide hUl
      clear hUl
      have hlt' : (k : Int) < (xs.length : Int) := by omega
      go_wp2_with fail
      refine (l9Chunks_calls s _ (by omega)).mono ?_
      rintro e w2 ⟨vch, rfl, och, bch⟩
      have hall := chunksT_sizes s
      have htl := chunksT_length s
      unfold stepD at HS
      generalize chunksT s = ts at och hall htl HS
      have HA := hide hall
      have I0 := hide (O.out.inn bch och)
      obtain ⟨ach, cch, rfl⟩ := own_slice6 och
      clear hall och bch
      go_wp2
      go_loopw [7, 24] (fun u vj wr2 => ∃ (j : Nat) (vc' : Value), j ≤ ts.length ∧ vj = .int .i64 j ∧ Inn w wr2 wo.heap.size w2.heap.size vc' vu u (.slice ach ts.length cch) vs (useF C (ts.take j)).2 U (useF C (ts.take j)).1 ts) (fun _ vj _ => ts.length - (intOf vj).toNat)
      case atStart => exact ⟨0, vc, Nat.zero_le _, rfl, I0.out⟩
      case round =>
        obtain ⟨j, vc', hj, rfl, hI⟩ := hrel
        have I := hide hI
        clear hI
        by_cases hlt2 : j < ts.length
        · have hsz : ∀ t ∈ ts, t.size ≤ maxLen := fun t h => by have := HA.out t h; unfold maxLen; omega
          obtain ⟨a', cap', hv, _, _, _, h3⟩ := I.out.chs.rd hsz
          rcases h3 with h3 | ⟨b2, off2, ha, hbl, hc2⟩
          · rw [h3] at hlt2; simp at hlt2
          subst ha
          simp only [Value.slice.injEq] at hv
          obtain ⟨rfl, _, rfl⟩ := hv
          have hcj := hc2 j hlt2
          have hun := useF_snoc C ts j hlt2
          have htm : ts.getD j ⟨#[]⟩ ∈ ts := by rw [List.getD_eq_getElem?_getD, List.getElem?_eq_getElem hlt2]; exact List.getElem_mem hlt2
          have ht3 := HA.out _ htm
          obtain ⟨t, ht⟩ : ∃ t, t = ts.getD j ⟨#[]⟩ := ⟨_, rfl⟩
          rw [← ht] at hcj hun ht3
          have hul := useF_len C (ts.take j)
          have hua := useF_all (P := fun u => u.size ≤ 2400) (C := C) (ts := ts.take j) (fun u h => Nat.le_trans (HAL.out u h) (by decide)) (fun u h => by have := HA.out u (List.mem_of_mem_take h); omega)
          have HU := hide hun
          have HUA := hide hua
          clear hsz hc2 hun htm ht hua hbl
          generalize useF C (ts.take j) = D at I hul HUA HU
          obtain ⟨us, C'⟩ := D
          simp only [List.length_take] at I hul HUA HU
          obtain ⟨hu1, hu2⟩ := hul
          have hu1' : us.length ≤ 300 := by omega
          have hu2' : C'.length ≤ 2700 := by omega
          clear hu1 hu2
          have c0 := I.out.box.c0
          have f0 := I.out.box.f0 0
          obtain ⟨ac, cc, rfl⟩ := row_slice9 I.out.row
          obtain ⟨au, cu, rfl⟩ := row_slice9 I.out.use
          have hlt2' : (j : Int) < (ts.length : Int) := by omega
          go_wp2_with fail
          refine (l9Text_calls _ C' t _ (OwnT.rd I.out.row (fun u h => Nat.le_trans (HUA.out u h) (by unfold maxLen; omega)))).mono ?_
          rintro e w3 ⟨⟨r, rfl, hat⟩, rfl⟩
          rcases isAt_ix hat with ⟨hm, rfl⟩ | ⟨hm, rfl⟩
          · have HM := hide hm
            have hix := ix9_le C' t
            clear hat hm
            have HU2 : Hid (useF C (ts.take (j + 1)) = (us ++ [((ix9 C' t : Nat) : Int)], C')) := by show _ = _; rw [HU.out]; unfold stepU; rw [add9_old HM.out]
            generalize ix9 C' t = y at HU2 hix ⊢
            have u1 : ¬ (y : Int) < 0 := by omega
            go_wp2_with (at_builtin; refine wpList_append_own_at (w := wr.alloc (.cells #[.int .i64 (y : Nat)] 3)) rfl _ _ _ rfl w2.heap.size 3 ii (.int .i64 0) 1 8 Try.underlying41 IPI.out.1 IPI.out.2.1 IPI.out.2.2.1 IPI.out.2.2.2 rfl (by decide) _ us.length _ rfl (World.ownsRow.alloc I.out.use _) ⟨wr.heap.size, 0, none⟩ 1 1 [.int .i64 (y : Nat)] rfl rfl (cell_one_new _ _ _) (by simp [Value.oneCell']) (by unfold maxLen; omega) (by omega) (by have := I.out.sz; simp; omega) ?_)
            intro v' w3 o3 g3 _ _
            have I3 := hide (I.out.more o3 g3)
            clear o3 g3
            go_wp2
            go_roundw
            case rel => exact ⟨j + 1, _, by omega, by go_num, by rw [HU2.out]; exact I3.out⟩
            case measure => simp [intOf]; omega
          · have HM := hide hm
            clear hat hm
            have HU2 : Hid (useF C (ts.take (j + 1)) = (us ++ [((C'.length : Nat) : Int)], C' ++ [t])) := by show _ = _; rw [HU.out]; unfold stepU; rw [add9_new HM.out, ix9_new HM.out]
            have u1 : (-1 : Int) < 0 := by omega
            go_wp2_with (at_builtin; refine wpList_append_own_at (w := wr.alloc (.cells #[.string t] 9)) rfl _ _ _ rfl w.heap.size 9 is (.string ⟨#[]⟩) 1 16 Try.underlying23 IPS.out.1 IPS.out.2.1 IPS.out.2.2.1 IPS.out.2.2.2 rfl (by decide) _ C'.length _ rfl (World.ownsRow.alloc I.out.row _) ⟨wr.heap.size, 0, none⟩ 1 1 [.string t] rfl rfl (cell_one_new _ _ _) (by simp [Value.oneCell']) (by unfold maxLen; omega) (by omega) (by have := I.out.below.size; simp; omega) ?_)
            intro v' w3 o3 g3 _ h3
            obtain ⟨x3, I3'⟩ := I.out.chunk o3 g3 h3
            have I3 := hide I3'
            have c3 := x3.c0
            have f3 := x3.f0 0
            obtain ⟨a3, c3', rfl⟩ := row_slice9 o3
            have HZ : Hid ((w3.setCell ⟨w.heap.size + 1, 0, none⟩ (.slice a3 (C'.length + 1) c3')).heap.size = w3.heap.size) := (KeepsWalks9 w3 _ _)
            clear o3 g3 h3 x3 I3' c0 f0
            go_wp2_with (at_builtin; refine wpList_append_own_at (w := (w3.setCell ⟨w.heap.size + 1, 0, none⟩ (.slice a3 (C'.length + 1) c3')).alloc (.cells #[.int .i64 (C'.length : Nat)] 3)) rfl _ _ _ rfl w2.heap.size 3 ii (.int .i64 0) 1 8 Try.underlying41 IPI.out.1 IPI.out.2.1 IPI.out.2.2.1 IPI.out.2.2.2 rfl (by decide) _ us.length _ rfl (World.ownsRow.alloc I3.out.use _) ⟨w3.heap.size, 0, none⟩ 1 1 [.int .i64 (C'.length : Nat)] rfl rfl (by rw [← HZ.out]; exact cell_one_new _ _ _) (by simp [Value.oneCell']) (by unfold maxLen; omega) (by omega) (by have := I3.out.sz; simp only [World.size_alloc]; omega) ?_)
            intro v' w4 o4 g4 _ _
            have I4 := hide (I3.out.more o4 g4)
            clear o4 g4
            go_wp2
            go_roundw
            case rel => exact ⟨j + 1, _, by omega, by go_num, by rw [HU2.out]; exact I4.out⟩
            case measure => simp [intOf]; omega
        · obtain rfl : j = ts.length := by omega
          rw [List.take_length] at I
          generalize useF C ts = D at I HS
          obtain ⟨us, C'⟩ := D
          simp only at I HS
          have hlt2' : ¬ (ts.length : Int) < (ts.length : Int) := by omega
          have c1 := I.out.box.c1
          have hUl := HUL.out
          obtain ⟨av, cv, rfl⟩ := row_slice9 I.out.grid.head
          obtain ⟨au, cu, rfl⟩ := row_slice9 I.out.use
          have hUl' : U.length ≤ 8 := by omega
          clear hUl
          go_wp2_with (at_builtin; refine wpList_append_own_at (w := wr.alloc (.cells #[.slice au us.length cu] 41)) rfl _ _ _ rfl w.heap.size 41 ir (.slice none 0 0) 1 24 Try.underlying25 IPR.out.1 IPR.out.2.1 IPR.out.2.2.1 IPR.out.2.2.2 rfl (by decide) _ U.length _ rfl (World.ownsRow.alloc I.out.grid.head _) ⟨wr.heap.size, 0, none⟩ 1 1 [.slice au us.length cu] rfl rfl (cell_one_new _ _ _) (by simp [Value.oneCell']) (by unfold maxLen; omega) (by omega) (by have := I.out.below.size; simp; omega) ?_)
          intro v' w3 o3 g3 _ _
          obtain ⟨x3, O3'⟩ := I.out.out o3 g3
          have O3 := hide O3'
          have c3 := x3.c1
          have f3 := x3.f0 1
          obtain ⟨a3, c3', rfl⟩ := row_slice9 o3
          clear o3 g3 x3 O3' c1
          go_wp2
          go_roundw
          case rel => exact ⟨k + 1, _, _, _, by omega, by go_num, by rw [HS.out]; exact O3.out⟩
          case measure => simp [intOf]; omega
    · obtain rfl : k = xs.length := by omega
      rw [List.take_length] at O
      have hlt' : ¬ (xs.length : Int) < (xs.length : Int) := by omega
      have hal := dedF_all xs xs.length (Nat.le_refl _) HOK.out.2
      rw [List.take_length] at hal
      have HAL := hide hal
      clear hal
      obtain ⟨D, hD⟩ : ∃ D, D = dedF xs := ⟨_, rfl⟩
      rw [← hD] at O HAL
      have HD := hide hD
      clear hD
      obtain ⟨C, U⟩ := D
      simp only at O HAL
      have c0 := O.out.box.c0
      have c1 := O.out.box.c1
      have r0 := O.out.res.c0
      have r1 := O.out.res.c1
      have f0 := O.out.res.f0 0
      have f1 := O.out.res.f0 1
      obtain ⟨ac, cc, rfl⟩ := row_slice9 O.out.row
      obtain ⟨av, cv, rfl⟩ := row_slice9 O.out.grid.head
      go_wp2
      have X2 := boxed2_set1 (boxed2_set0 O.out.res (.slice ac C.length cc)) (.slice av U.length cv)
      have T : Touch (fun g => g = w.heap.size) wo ((wo.setCell ⟨w.heap.size, 0, none⟩ (.slice ac C.length cc)).setCell ⟨w.heap.size, 1, none⟩ (.slice av U.length cv)) := (Touch.setCell (S := fun g => g = w.heap.size) _ _ _ _ rfl).trans (Touch.setCell (S := fun g => g = w.heap.size) _ _ _ _ rfl)
      refine bodyPost_ret (res_rcp2 rfl _ _ w.heap.size _ _ (0, 0) rfl X2) rfl ⟨_, _, rfl, ?_, ?_, Touch.below9 O.out.below T (fun g hg e => by omega) (Nat.le_refl _)⟩
      · rw [← HD.out]
        exact OwnT.rd (ownsRow_touch O.out.row T (fun g hg e => row_box2 O.out.row O.out.res (by decide) hg e)) (fun u h => by have := HAL.out u h; unfold maxLen; omega)
      · rw [← HD.out]
        exact (O.out.grid.touch T (fun g hg e => row_box2 O.out.grid.head O.out.res (by decide) hg e) (fun i g hi hg e => row_box2 (O.out.grid.rows i hi) O.out.res (by decide) hg e)).rd
end Go.Proofs.Ythmijjcddjlebaa

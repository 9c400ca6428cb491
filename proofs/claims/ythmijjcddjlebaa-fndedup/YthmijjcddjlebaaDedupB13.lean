/-
  Texts whose chunks are kept once each, by the model: the whole call. It says what it asks. Slices of Booleans: what is read, what is owned, and what the laws' own small functions do with them (copy, compare, measure, mark, look whether the marks are held), call by call. Each contract says what it asks. What a law holds in its hands, of any kind: a thing says what is so of the blocks from lo up to hi, and stays so where nothing but other blocks is changed. No condition; no call is walked here.
-/
import Derived.Test.YthmijjcddjlebaaDedupB12
import Derived.Test.YthmijjcddjlebaaDedupB3
import Derived.Test.YthmijjcddjlebaaDedupB5
namespace Go.Proofs.Ythmijjcddjlebaa
open Go.RowKit
set_option linter.unusedVariables false

set_option maxRecDepth 100000 in
set_option maxHeartbeats 3200000 in
theorem sDedupOwn_calls (v : Value) (xs : List ByteArray) (w : World) (h : RdT w v xs) :
    Calls Try.prog 15 #[v] w fun e w' => ∃ vc vu, e = .returned (.tuple #[.agg #[vc, vu], .bool (dedR xs).2.2]) ∧ RdT w' vc (dedR xs).1 ∧ RdM w' vu (dedR xs).2.1 ∧ Below w.heap.size w w' ∧ OwnT w' w.heap.size vc (dedR xs).1 ∧ ∃ vs, Grid w' w.heap.size vu vs (dedR xs).2.1 := by
  obtain ⟨is, hi0, hz0, hz1, hz2⟩ := info_parts infoStr
  have IPS := hide (And.intro hi0 (And.intro hz0 (And.intro hz1 hz2)))
  clear hi0 hz0 hz1 hz2
  obtain ⟨ii, hi0, hz0, hz1, hz2⟩ := info_parts infoInt
  have IPI := hide (And.intro hi0 (And.intro hz0 (And.intro hz1 hz2)))
  clear hi0 hz0 hz1 hz2
  obtain ⟨ir, hi0, hz0, hz1, hz2⟩ := info_parts infoRows9
  have IPR := hide (And.intro hi0 (And.intro hz0 (And.intro hz1 hz2)))
  clear hi0 hz0 hz1 hz2
  have R := hide h
  obtain ⟨a, cap, rfl, h1, h2, h4, h3⟩ := h
  have H3 := hide h3
  clear h3 h4 h2 h1
  have x0 : Boxed2 (w.alloc (.cells #[.slice none 0 0, .slice none 0 0] 27)) w.heap.size 27 (.slice none 0 0) (.slice none 0 0) := boxed2_new w _ _ _
  have X0 := hide x0
  have B0 : Hid (Below w.heap.size w (w.alloc (.cells #[.slice none 0 0, .slice none 0 0] 27))) := (Below.refl _ w).alloc (Nat.le_refl _) _
  by_cases hok : dedOk xs
  case neg =>
    rw [show dedR xs = ([], [], false) from if_neg hok]
    have HN := hide (decide_eq_false hok)
    have c0 := x0.c0
    have c1 := x0.c1
    have f0 := x0.f0 0
    have f1 := x0.f0 1
    clear x0
    go_enter Try.func15, Try.ntmps15
    go_wp2_with fail
    refine (l9Texts_calls _ xs _ (R.out.below B0.out)).mono ?_
    rintro e w1 ⟨rfl, rfl⟩
    rw [HN.out]
    go_wp2
    refine bodyPost_ret (res_rcp2 rfl _ _ w.heap.size _ _ (0, 0) rfl X0.out) rfl ⟨_, _, rfl, rdT_nil9 _, rdM_nil9 _, B0.out, World.ownsRow_nil _ _ _ _, [], grid_nil _ _⟩
  rw [show dedR xs = ((dedF xs).1, (dedF xs).2, true) from if_pos hok]
  have HN := hide (decide_eq_true hok)
  have HOK := hide hok
  clear x0 hok
  have O0 : Hid (Outr w ((w.alloc (.cells #[.slice none 0 0, .slice none 0 0] 27)).alloc (.cells #[.slice none 0 0, .slice none 0 0] 27)) (.slice none 0 0) (.slice none 0 0) [] (dedF (xs.take 0)).1 (dedF (xs.take 0)).2) := by
    refine ⟨?_, boxed2_alloc X0.out _, World.ownsRow_nil _ _ _ _, grid_nil _ _, B0.out.alloc B0.out.size _, by simp⟩
    have := boxed2_new (w.alloc (.cells #[.slice none 0 0, .slice none 0 0] 27)) 27 (.slice none 0 0) (.slice none 0 0)
    rwa [World.size_alloc] at this
  go_enter Try.func15, Try.ntmps15
  go_wp2_with fail
  refine (l9Texts_calls _ xs _ (R.out.below B0.out)).mono ?_
  rintro e w1 ⟨rfl, rfl⟩
  rw [HN.out]
  go_wp2
  generalize (w.alloc (.cells #[.slice none 0 0, .slice none 0 0] 27)).alloc (.cells #[.slice none 0 0, .slice none 0 0] 27) = w1 at O0 ⊢
  go_loopw [17] (fun vi wr => ∃ (k : Nat) (vc vu : Value) (vs : List Value), k ≤ xs.length ∧ vi = .int .i64 k ∧ Outr w wr vc vu vs (dedF (xs.take k)).1 (dedF (xs.take k)).2) (fun vi _ => xs.length - (intOf vi).toNat)
  case atStart => exact ⟨0, _, _, _, Nat.zero_le _, rfl, O0.out⟩
  case round =>
    obtain ⟨k, vc, vu, vs, hk, rfl, hO⟩ := hrel
    have O := hide hO
    clear hO
    obtain ⟨wo, hwo⟩ : ∃ wo, wo = wr := ⟨_, rfl⟩
    subst hwo
    have hk8 : k ≤ 8 := by have := HOK.out.1; omega
    by_cases hlt : k < xs.length
    · rcases H3.out with h3 | ⟨b, off, rfl, hbs, hc⟩
      · subst h3; simp at hlt
      have hck := (O.out.below.cell (p := ⟨b, off + k, none⟩) hbs).trans (hc k hlt)
      clear hc
      have hsn := dedF_snoc xs k hlt
      have hs3' := HOK.out.2 k hlt
      obtain ⟨s, hs⟩ : ∃ s, s = xs.getD k ⟨#[]⟩ := ⟨_, rfl⟩
      rw [← hs] at hck hsn hs3'
      have hl9 := dedF_len xs k hk HOK.out.2
      have hal := dedF_all xs k hk HOK.out.2
      have HS := hide hsn
      have HAL := hide hal
      clear hsn hal hs
      generalize dedF (xs.take k) = D at O hl9 HAL HS
      obtain ⟨C, U⟩ := D
      simp only at O hl9 HAL HS
      obtain ⟨hUl, hCl⟩ := hl9
      have HUL := hide hUl
      clear hUl
      have hlt' : (k : Int) < (xs.length : Int) := by omega
      go_wp2_with fail
      refine (l9Chunks_calls s _ (by omega)).mono ?_
      rintro e w2 ⟨vch, rfl, och, bch⟩
      have hall := chunksT_sizes s
      have htl := chunksT_length s
      unfold stepD at HS
      generalize chunksT s = ts at och hall htl HS
      have HA := hide hall
      have I0 := hide (O.out.inn bch och)
      obtain ⟨ach, cch, rfl⟩ := own_slice6 och
      clear hall och bch
      go_wp2
      go_loopw [7, 24] (fun u vj wr2 => ∃ (j : Nat) (vc' : Value), j ≤ ts.length ∧ vj = .int .i64 j ∧ Inn w wr2 wo.heap.size w2.heap.size vc' vu u (.slice ach ts.length cch) vs (useF C (ts.take j)).2 U (useF C (ts.take j)).1 ts) (fun _ vj _ => ts.length - (intOf vj).toNat)
      case atStart => exact ⟨0, vc, Nat.zero_le _, rfl, I0.out⟩
      case round =>
        obtain ⟨j, vc', hj, rfl, hI⟩ := hrel
        have I := hide hI
        clear hI
        by_cases hlt2 : j < ts.length
        · have hsz : ∀ t ∈ ts, t.size ≤ maxLen := fun t h => by have := HA.out t h; unfold maxLen; omega
          obtain ⟨a', cap', hv, _, _, _, h3⟩ := I.out.chs.rd hsz
          rcases h3 with h3 | ⟨b2, off2, ha, hbl, hc2⟩
          · rw [h3] at hlt2; simp at hlt2
          subst ha
          simp only [Value.slice.injEq] at hv
          obtain ⟨rfl, _, rfl⟩ := hv
          have hcj := hc2 j hlt2
          have hun := useF_snoc C ts j hlt2
          have htm : ts.getD j ⟨#[]⟩ ∈ ts := by rw [List.getD_eq_getElem?_getD, List.getElem?_eq_getElem hlt2]; exact List.getElem_mem hlt2
          have ht3 := HA.out _ htm
          obtain ⟨t, ht⟩ : ∃ t, t = ts.getD j ⟨#[]⟩ := ⟨_, rfl⟩
          rw [← ht] at hcj hun ht3
          have hul := useF_len C (ts.take j)
          have hua := useF_all (P := fun u => u.size ≤ 2400) (C := C) (ts := ts.take j) (fun u h => Nat.le_trans (HAL.out u h) (by decide)) (fun u h => by have := HA.out u (List.mem_of_mem_take h); omega)
          have HU := hide hun
          have HUA := hide hua
          clear hsz hc2 hun htm ht hua hbl
          generalize useF C (ts.take j) = D at I hul HUA HU
          obtain ⟨us, C'⟩ := D
          simp only [List.length_take] at I hul HUA HU
          obtain ⟨hu1, hu2⟩ := hul
          have hu1' : us.length ≤ 300 := by omega
          have hu2' : C'.length ≤ 2700 := by omega
          clear hu1 hu2
          have c0 := I.out.box.c0
          have f0 := I.out.box.f0 0
          obtain ⟨ac, cc, rfl⟩ := row_slice9 I.out.row
          obtain ⟨au, cu, rfl⟩ := row_slice9 I.out.use
          have hlt2' : (j : Int) < (ts.length : Int) := by omega
          go_wp2_with fail
          refine (l9Text_calls _ C' t _ (OwnT.rd I.out.row (fun u h => Nat.le_trans (HUA.out u h) (by unfold maxLen; omega)))).mono ?_
          rintro e w3 ⟨⟨r, rfl, hat⟩, rfl⟩
          rcases isAt_ix hat with ⟨hm, rfl⟩ | ⟨hm, rfl⟩
          · have HM := hide hm
            have hix := ix9_le C' t
            clear hat hm
            have HU2 : Hid (useF C (ts.take (j + 1)) = (us ++ [((ix9 C' t : Nat) : Int)], C')) := by show _ = _; rw [HU.out]; unfold stepU; rw [add9_old HM.out]
            generalize ix9 C' t = y at HU2 hix ⊢
            have u1 : ¬ (y : Int) < 0 := by omega
            go_wp2_with (at_builtin; refine wpList_append_own_at (w := wr.alloc (.cells #[.int .i64 (y : Nat)] 3)) rfl _ _ _ rfl w2.heap.size 3 ii (.int .i64 0) 1 8 Try.underlying41 IPI.out.1 IPI.out.2.1 IPI.out.2.2.1 IPI.out.2.2.2 rfl (by decide) _ us.length _ rfl (World.ownsRow.alloc I.out.use _) ⟨wr.heap.size, 0, none⟩ 1 1 [.int .i64 (y : Nat)] rfl rfl (cell_one_new _ _ _) (by simp [Value.oneCell']) (by unfold maxLen; omega) (by omega) (by have := I.out.sz; simp; omega) ?_)
            intro v' w3 o3 g3 _ _
            have I3 := hide (I.out.more o3 g3)
            clear o3 g3
            go_wp2
            go_roundw
            case rel => exact ⟨j + 1, _, by omega, by go_num, by rw [HU2.out]; exact I3.out⟩
            case measure => simp [intOf]; omega
          · have HM := hide hm
            clear hat hm
            have HU2 : Hid (useF C (ts.take (j + 1)) = (us ++ [((C'.length : Nat) : Int)], C' ++ [t])) := by show _ = _; rw [HU.out]; unfold stepU; rw [add9_new HM.out, ix9_new HM.out]
            have u1 : (-1 : Int) < 0 := by omega
            go_wp2_with (at_builtin; refine wpList_append_own_at (w := wr.alloc (.cells #[.string t] 9)) rfl _ _ _ rfl w.heap.size 9 is (.string ⟨#[]⟩) 1 16 Try.underlying23 IPS.out.1 IPS.out.2.1 IPS.out.2.2.1 IPS.out.2.2.2 rfl (by decide) _ C'.length _ rfl (World.ownsRow.alloc I.out.row _) ⟨wr.heap.size, 0, none⟩ 1 1 [.string t] rfl rfl (cell_one_new _ _ _) (by simp [Value.oneCell']) (by unfold maxLen; omega) (by omega) (by have := I.out.below.size; simp; omega) ?_)
            intro v' w3 o3 g3 _ h3
            obtain ⟨x3, I3'⟩ := I.out.chunk o3 g3 h3
            have I3 := hide I3'
            have c3 := x3.c0
            have f3 := x3.f0 0
            obtain ⟨a3, c3', rfl⟩ := row_slice9 o3
            have HZ : Hid ((w3.setCell ⟨w.heap.size + 1, 0, none⟩ (.slice a3 (C'.length + 1) c3')).heap.size = w3.heap.size) := (KeepsWalks9 w3 _ _)
            clear o3 g3 h3 x3 I3' c0 f0
            go_wp2_with (at_builtin; refine wpList_append_own_at (w := (w3.setCell ⟨w.heap.size + 1, 0, none⟩ (.slice a3 (C'.length + 1) c3')).alloc (.cells #[.int .i64 (C'.length : Nat)] 3)) rfl _ _ _ rfl w2.heap.size 3 ii (.int .i64 0) 1 8 Try.underlying41 IPI.out.1 IPI.out.2.1 IPI.out.2.2.1 IPI.out.2.2.2 rfl (by decide) _ us.length _ rfl (World.ownsRow.alloc I3.out.use _) ⟨w3.heap.size, 0, none⟩ 1 1 [.int .i64 (C'.length : Nat)] rfl rfl (by rw [← HZ.out]; exact cell_one_new _ _ _) (by simp [Value.oneCell']) (by unfold maxLen; omega) (by omega) (by have := I3.out.sz; simp only [World.size_alloc]; omega) ?_)
            intro v' w4 o4 g4 _ _
            have I4 := hide (I3.out.more o4 g4)
            clear o4 g4
            go_wp2
            go_roundw
            case rel => exact ⟨j + 1, _, by omega, by go_num, by rw [HU2.out]; exact I4.out⟩
            case measure => simp [intOf]; omega
        · obtain rfl : j = ts.length := by omega
          rw [List.take_length] at I
          generalize useF C ts = D at I HS
          obtain ⟨us, C'⟩ := D
          simp only at I HS
          have hlt2' : ¬ (ts.length : Int) < (ts.length : Int) := by omega
          have c1 := I.out.box.c1
          have hUl := HUL.out
          obtain ⟨av, cv, rfl⟩ := row_slice9 I.out.grid.head
          obtain ⟨au, cu, rfl⟩ := row_slice9 I.out.use
          have hUl' : U.length ≤ 8 := by omega
          clear hUl
          go_wp2_with (at_builtin; refine wpList_append_own_at (w := wr.alloc (.cells #[.slice au us.length cu] 41)) rfl _ _ _ rfl w.heap.size 41 ir (.slice none 0 0) 1 24 Try.underlying25 IPR.out.1 IPR.out.2.1 IPR.out.2.2.1 IPR.out.2.2.2 rfl (by decide) _ U.length _ rfl (World.ownsRow.alloc I.out.grid.head _) ⟨wr.heap.size, 0, none⟩ 1 1 [.slice au us.length cu] rfl rfl (cell_one_new _ _ _) (by simp [Value.oneCell']) (by unfold maxLen; omega) (by omega) (by have := I.out.below.size; simp; omega) ?_)
          intro v' w3 o3 g3 _ _
          obtain ⟨x3, O3'⟩ := I.out.out o3 g3
          have O3 := hide O3'
          have c3 := x3.c1
          have f3 := x3.f0 1
          obtain ⟨a3, c3', rfl⟩ := row_slice9 o3
          clear o3 g3 x3 O3' c1
          go_wp2
          go_roundw
          case rel => exact ⟨k + 1, _, _, _, by omega, by go_num, by rw [HS.out]; exact O3.out⟩
          case measure => simp [intOf]; omega
    · obtain rfl : k = xs.length := by omega
      rw [List.take_length] at O
      have hlt' : ¬ (xs.length : Int) < (xs.length : Int) := by omega
      have hal := dedF_all xs xs.length (Nat.le_refl _) HOK.out.2
      rw [List.take_length] at hal
      have HAL := hide hal
      clear hal
      obtain ⟨D, hD⟩ : ∃ D, D = dedF xs := ⟨_, rfl⟩
      rw [← hD] at O HAL
      have HD := hide hD
      clear hD
      obtain ⟨C, U⟩ := D
      simp only at O HAL
      have c0 := O.out.box.c0
      have c1 := O.out.box.c1
      have r0 := O.out.res.c0
      have r1 := O.out.res.c1
      have f0 := O.out.res.f0 0
      have f1 := O.out.res.f0 1
      obtain ⟨ac, cc, rfl⟩ := row_slice9 O.out.row
      obtain ⟨av, cv, rfl⟩ := row_slice9 O.out.grid.head
      go_wp2
      have X2 := boxed2_set1 (boxed2_set0 O.out.res (.slice ac C.length cc)) (.slice av U.length cv)
      have T : Touch (fun g => g = w.heap.size) wo ((wo.setCell ⟨w.heap.size, 0, none⟩ (.slice ac C.length cc)).setCell ⟨w.heap.size, 1, none⟩ (.slice av U.length cv)) := (Touch.setCell (S := fun g => g = w.heap.size) _ _ _ _ rfl).trans (Touch.setCell (S := fun g => g = w.heap.size) _ _ _ _ rfl)
      refine bodyPost_ret (res_rcp2 rfl _ _ w.heap.size _ _ (0, 0) rfl X2) rfl ⟨_, _, rfl, ?_, ?_, Touch.below9 O.out.below T (fun g hg e => by omega) (Nat.le_refl _), ?_, ?_⟩
      · rw [← HD.out]
        exact OwnT.rd (ownsRow_touch O.out.row T (fun g hg e => row_box2 O.out.row O.out.res (by decide) hg e)) (fun u h => by have := HAL.out u h; unfold maxLen; omega)
      · rw [← HD.out]
        exact (O.out.grid.touch T (fun g hg e => row_box2 O.out.grid.head O.out.res (by decide) hg e) (fun i g hi hg e => row_box2 (O.out.grid.rows i hi) O.out.res (by decide) hg e)).rd
      · rw [← HD.out]
        exact ownsRow_touch O.out.row T (fun g hg e => row_box2 O.out.row O.out.res (by decide) hg e)
      · rw [← HD.out]
        exact ⟨_, O.out.grid.touch T (fun g hg e => row_box2 O.out.grid.head O.out.res (by decide) hg e) (fun i g hi hg e => row_box2 (O.out.grid.rows i hi) O.out.res (by decide) hg e)⟩
end Go.Proofs.Ythmijjcddjlebaa

namespace Go.Proofs.Ythmijjcddjlebaa
open Go.RowKit
set_option linter.unusedVariables false

theorem infoBol : (Try.prog.info? 4).map (fun i => (i.zero, i.size, i.bytes)) = some (some (.bool false), 1, 1) := by kernel_rfl
theorem infoBolSize : (Try.prog.info? 4).map (·.size) = some 1 := by kernel_rfl
/-- The value v is a slice that reads as these Booleans, in this world. -/
def RdZ (w : World) (v : Value) (xs : List Bool) : Prop :=
  ∃ a cap, v = .slice a xs.length cap ∧ xs.length ≤ cap ∧ (cap ≤ maxLen ∧ (a = none → cap = 0)) ∧ (xs = [] ∨ ∃ b off, a = some ⟨b, off, none⟩ ∧ b < w.heap.size ∧ ∀ i, i < xs.length → w.cell? ⟨b, off + i, none⟩ = some (.bool (xs.getD i false)))
/-- The value v is a slice of the call's own (its block is base or later) that reads as these Booleans. -/
abbrev OwnZ (w : World) (base : Nat) (v : Value) (xs : List Bool) : Prop := w.ownsRow base 4 1 v xs.length (xs.map Value.bool)

theorem RdZ.below {w w' : World} {v : Value} {xs : List Bool} (h : RdZ w v xs) (hb : Below w.heap.size w w') : RdZ w' v xs := by
  obtain ⟨a, cap, rfl, h1, h2, h3⟩ := h
  refine ⟨a, cap, rfl, h1, h2, ?_⟩
  rcases h3 with h3 | ⟨b, off, rfl, hlt, hc⟩
  · exact .inl h3
  · exact .inr ⟨b, off, rfl, Nat.lt_of_lt_of_le hlt hb.size, fun i hi => (hb.cell (p := ⟨b, off + i, none⟩) hlt).trans (hc i hi)⟩
theorem OwnZ.rd {w : World} {base : Nat} {v : Value} {xs : List Bool} (h : OwnZ w base v xs) : RdZ w v xs := by
  rcases h.2 with ⟨rfl, hn⟩ | ⟨g, cap, cur, rfl, hb, hg, hc, hm, hs, ht⟩
  · have : xs = [] := List.eq_nil_of_length_eq_zero hn
    subst this
    exact ⟨none, 0, rfl, Nat.le_refl _, ⟨Nat.zero_le _, fun _ => rfl⟩, .inl rfl⟩
  · refine ⟨_, cap, rfl, hc, ⟨hm, fun h => by cases h⟩, .inr ⟨g, 0, rfl, (Array.getElem?_eq_some_iff.1 hg).1, fun i hi => ?_⟩⟩
    have := World.ownsRow.cellAt h i (by omega)
    rw [Nat.zero_add, this]
    simp [hi]
theorem rdZ_nil (w : World) : RdZ w (.slice none 0 0) [] := ⟨none, 0, rfl, Nat.le_refl _, ⟨Nat.zero_le _, fun _ => rfl⟩, .inl rfl⟩
theorem bols_oneCell (zs : List Bool) : ∀ u ∈ zs.map Value.bool, u.oneCell' = true := by
  intro u hu
  obtain ⟨b, _, rfl⟩ := List.mem_map.1 hu
  rfl
/-- 'make([]bool, n)': n times false, of the call's own, in the next block. -/
theorem wpList_make_bols {w : World} {ops : Array Oper} {rest : List Oper} {o : Oper} {a : Act} {Q : Exit → Act → World → Prop} (hg : o.guard = none) (l c : Operand) (hop : o.op = Op.makeSlice 126 l c)
    (base : Nat) (L C : Int) (n : Nat) (hl : a.eval l = .int .i64 L) (hc : a.eval c = .int .i64 C) (hL : L = (n : Int)) (hC : C = (n : Int)) (hn : n ≤ 1073741824) (hb : base ≤ w.heap.size)
    (h : ∀ w', OwnZ w' base (.slice (some ⟨w.heap.size, 0, none⟩) n n) (List.replicate n false) → w.grownBy w' none → wpList Try.prog ops Q rest (a.put o.dst (.slice (some ⟨w.heap.size, 0, none⟩) n n)) w') : wpList Try.prog ops Q (o :: rest) a w := by
  obtain ⟨i0, hi, hz0, hz1, hz2⟩ := info_parts infoBol
  refine wpList_make_full w hg l c _ hop base 4 i0 (.bool false) 1 Try.underlying126 hi hz0 hz1 _ _ L C n hl hc hL hC (by rw [hz2]; omega) (by unfold maxLen; omega) hb ?_
  intro w' ho hg'
  refine h w' ?_ hg'
  show World.ownsRow _ _ _ _ _ (List.replicate n false).length _
  rw [List.length_replicate, List.map_replicate]
  have e : (madeCells (Value.bool false).cells (n * 1)).toList = List.replicate n (Value.bool false) := by
    rw [Nat.mul_one]; exact toList_madeCells_one _ n
  rw [e] at ho
  exact ho

/-- What is copied so far. -/
def cpZ (xs : List Bool) (k : Nat) : List Bool := xs.take k ++ List.replicate (xs.length - k) false
theorem cpZ_length (xs : List Bool) (k : Nat) (h : k ≤ xs.length) : (cpZ xs k).length = xs.length := by simp [cpZ]; omega
theorem cpZ_step (xs : List Bool) (k : Nat) (h : k < xs.length) : (cpZ xs k).set k (xs.getD k false) = cpZ xs (k + 1) := by
  have e1 : (xs.take k).length = k := by simp; omega
  unfold cpZ
  rw [List.set_append_right _ _ (by omega), e1, Nat.sub_self]
  obtain ⟨m, hm⟩ : ∃ m, xs.length - k = m + 1 := ⟨xs.length - k - 1, by omega⟩
  have hm2 : xs.length - (k + 1) = m := by omega
  rw [hm, hm2, List.replicate_succ, List.set_cons_zero, List.take_succ_eq_append_getElem h, List.append_assoc]
  simp only [List.getD_eq_getElem?_getD, List.getElem?_eq_getElem h, Option.getD_some, List.singleton_append]
theorem cpZ_end (xs : List Bool) : cpZ xs xs.length = xs := by simp [cpZ]
theorem cpZ_zero (xs : List Bool) : cpZ xs 0 = List.replicate xs.length false := by simp [cpZ]

/-- The mark of a number. -/
def mz (k : Int) : Bool := (k % 3 == 0)
/-- The marks k, k + 1, .. -/
def marksZ (k : Int) (n : Nat) : List Bool := (List.range n).map fun i : Nat => mz (k + (i : Int))
theorem marksZ_length (k : Int) (n : Nat) : (marksZ k n).length = n := by simp [marksZ]
theorem marksZ_getD (k : Int) (n i : Nat) (h : i < n) : (marksZ k n).getD i false = mz (k + i) := by simp [marksZ, h]
/-- What is marked so far. -/
def mkZ (k : Int) (xs : List Bool) (i : Nat) : List Bool := marksZ k i ++ xs.drop i
theorem mkZ_length (k : Int) (xs : List Bool) (i : Nat) (h : i ≤ xs.length) : (mkZ k xs i).length = xs.length := by simp [mkZ, marksZ]; omega
theorem mkZ_step (k : Int) (xs : List Bool) (i : Nat) (h : i < xs.length) : (mkZ k xs i).set i (mz (k + i)) = mkZ k xs (i + 1) := by
  unfold mkZ
  rw [List.set_append_right _ _ (by simp [marksZ]), marksZ_length, Nat.sub_self, List.drop_eq_getElem_cons h, List.set_cons_zero]
  simp [marksZ, List.range_succ]
theorem mkZ_end (k : Int) (xs : List Bool) : mkZ k xs xs.length = marksZ k xs.length := by simp [mkZ]

end Go.Proofs.Ythmijjcddjlebaa

namespace Go.Proofs.Ythmijjcddjlebaa
open Go.RowKit
set_option linter.unusedVariables false

theorem Chg.ofSetCell {lo hi : Nat} (w : World) (g i : Nat) (v : Value) (h1 : lo ≤ g) (h2 : g < hi) : Chg lo hi w (w.setCell ⟨g, i, none⟩ v) := by
  refine ⟨rfl, rfl, rfl, ?_, fun k hk ho => ?_⟩
  · unfold World.setCell
    split <;> simp
  · exact heap_setCell_other w ⟨g, i, none⟩ k v (by simp; omega)
theorem Chg.ofAlloc {lo hi : Nat} (w : World) (o : Obj) : Chg lo hi w (w.alloc o) := Chg.ofBelow (below_box w o)
theorem ownsRow_chg {w w' : World} {lo hi a b n : Nat} {e : TypeId} {v : Value} {xs : List Value} (h : w.ownsRow lo e 1 v n xs) (ht : ∀ k, v.ownBlock = some k → k < hi) (hc : Chg a b w w') (hd : hi ≤ a ∨ b ≤ lo) : w'.ownsRow lo e 1 v n xs := by
  refine ⟨h.1, ?_⟩
  rcases h.2 with hn | ⟨g, cap, cur, rfl, hb', hg, rest⟩
  · exact .inl hn
  · have := ht g rfl
    exact .inr ⟨g, cap, cur, rfl, hb', by rw [hc.block g (Array.getElem?_eq_some_iff.1 hg).1 (by omega)]; exact hg, rest⟩
theorem ownsRow_mono {w : World} {lo lo' n : Nat} {e : TypeId} {v : Value} {xs : List Value} (h : w.ownsRow lo e 1 v n xs) (hl : lo' ≤ lo) : w.ownsRow lo' e 1 v n xs := by
  refine ⟨h.1, ?_⟩
  rcases h.2 with hn | ⟨g, cap, cur, rfl, hb', rest⟩
  · exact .inl hn
  · exact .inr ⟨g, cap, cur, rfl, Nat.le_trans hl hb', rest⟩
theorem ownsRow_raise {w : World} {lo n : Nat} {e : TypeId} {v : Value} {xs : List Value} (h : w.ownsRow lo e 1 v n xs) (lo' : Nat) (hl : ∀ k, v.ownBlock = some k → lo' ≤ k) : w.ownsRow lo' e 1 v n xs := by
  refine ⟨h.1, ?_⟩
  rcases h.2 with hn | ⟨g, cap, cur, rfl, hb', rest⟩
  · exact .inl hn
  · exact .inr ⟨g, cap, cur, rfl, hl g rfl, rest⟩

/-- A block of a variable's own cells. -/
def BoxAt (w : World) (g : Nat) (cs : Array Value) (T : TypeId) : Prop := w.heap[g]? = some (.cells cs T (0, 0))
theorem BoxAt.lt {w : World} {g : Nat} {cs : Array Value} {T : TypeId} (h : BoxAt w g cs T) : g < w.heap.size := (Array.getElem?_eq_some_iff.1 h).1
theorem BoxAt.chg {w w' : World} {g a b : Nat} {cs : Array Value} {T : TypeId} (h : BoxAt w g cs T) (hc : Chg a b w w') (hd : g < a ∨ b ≤ g) : BoxAt w' g cs T := by
  unfold BoxAt
  rw [hc.block g h.lt (by omega)]
  exact h
theorem BoxAt.below {w w' : World} {g : Nat} {cs : Array Value} {T : TypeId} (h : BoxAt w g cs T) (hc : Below w.heap.size w w') : BoxAt w' g cs T :=
  h.chg (Chg.ofBelow (lo := w.heap.size) (hi := w.heap.size) hc) (.inl h.lt)
theorem BoxAt.new (w : World) (cs : Array Value) (T : TypeId) : BoxAt (w.alloc (.cells cs T)) w.heap.size cs T := heap_alloc_new w _
theorem BoxAt.set {w : World} {g : Nat} {cs : Array Value} {T : TypeId} (h : BoxAt w g cs T) (i : Nat) (v : Value) : BoxAt (w.setCell ⟨g, i, none⟩ v) g (cs.setIfInBounds i v) T := heap_setCell_same w g i _ _ v h
theorem BoxAt.cell {w : World} {g : Nat} {cs : Array Value} {T : TypeId} (h : BoxAt w g cs T) (i : Nat) : w.cell? ⟨g, i, none⟩ = cs[i]? := cell_of_row w g i _ _ _ h
theorem BoxAt.frozen {w : World} {g : Nat} {cs : Array Value} {T : TypeId} (h : BoxAt w g cs T) (i : Nat) : w.frozen? ⟨g, i, none⟩ = false := frozen_of_row w g i _ _ h
theorem BoxAt.c3 {w : World} {g : Nat} {a b c : Value} {T : TypeId} (h : BoxAt w g #[a, b, c] T) : w.cell? ⟨g, 0, none⟩ = some a ∧ w.cell? ⟨g, 1, none⟩ = some b ∧ w.cell? ⟨g, 2, none⟩ = some c := ⟨h.cell 0, h.cell 1, h.cell 2⟩
theorem BoxAt.c4 {w : World} {g : Nat} {a b c d : Value} {T : TypeId} (h : BoxAt w g #[a, b, c, d] T) : w.cell? ⟨g, 0, none⟩ = some a ∧ w.cell? ⟨g, 1, none⟩ = some b ∧ w.cell? ⟨g, 2, none⟩ = some c ∧ w.cell? ⟨g, 3, none⟩ = some d := ⟨h.cell 0, h.cell 1, h.cell 2, h.cell 3⟩

theorem BoxAt.store3 {w : World} {g : Nat} {a b c : Value} {T : TypeId} (h : BoxAt w g #[a, b, c] T) (v0 v1 v2 : Value) : BoxAt (((w.setCell ⟨g, 0, none⟩ v0).setCell ⟨g, 1, none⟩ v1).setCell ⟨g, 2, none⟩ v2) g #[v0, v1, v2] T := by
  simpa using ((h.set 0 v0).set 1 v1).set 2 v2
theorem BoxAt.store4 {w : World} {g : Nat} {a b c d : Value} {T : TypeId} (h : BoxAt w g #[a, b, c, d] T) (v0 v1 v2 v3 : Value) : BoxAt ((((w.setCell ⟨g, 0, none⟩ v0).setCell ⟨g, 1, none⟩ v1).setCell ⟨g, 2, none⟩ v2).setCell ⟨g, 3, none⟩ v3) g #[v0, v1, v2, v3] T := by
  simpa using (((h.set 0 v0).set 1 v1).set 2 v2).set 3 v3
theorem Chg.store3 {lo hi : Nat} (w : World) (g : Nat) (v0 v1 v2 : Value) (h1 : lo ≤ g) (h2 : g < hi) : Chg lo hi w (((w.setCell ⟨g, 0, none⟩ v0).setCell ⟨g, 1, none⟩ v1).setCell ⟨g, 2, none⟩ v2) :=
  ((Chg.ofSetCell _ _ _ _ h1 h2).trans (Chg.ofSetCell _ _ _ _ h1 h2)).trans (Chg.ofSetCell _ _ _ _ h1 h2)
theorem Chg.store4 {lo hi : Nat} (w : World) (g : Nat) (v0 v1 v2 v3 : Value) (h1 : lo ≤ g) (h2 : g < hi) : Chg lo hi w ((((w.setCell ⟨g, 0, none⟩ v0).setCell ⟨g, 1, none⟩ v1).setCell ⟨g, 2, none⟩ v2).setCell ⟨g, 3, none⟩ v3) :=
  (Chg.store3 _ _ _ _ _ h1 h2).trans (Chg.ofSetCell _ _ _ _ h1 h2)

/-- What is new in the first world's eyes may be written besides. -/
theorem chg_new {lo hi x y : Nat} {w w1 w2 : World} (h : Chg lo hi w w1) (k : Chg x y w1 w2) (hx : w.heap.size ≤ x) : Chg lo hi w w2 :=
  ⟨k.os.trans h.os, k.tape.trans h.tape, k.output.trans h.output, Nat.le_trans h.size k.size, fun i hi' ho => (k.block i (Nat.lt_of_lt_of_le hi' h.size) (.inl (by omega))).trans (h.block i hi' ho)⟩

/-- A thing: what is so of the blocks from lo up to hi. -/
abbrev Tg := Nat → Nat → World → Prop
def Tg.st (t : Tg) : Prop := ∀ lo hi a b w w', t lo hi w → Chg a b w w' → (hi ≤ a ∨ b ≤ lo) → t lo hi w'
/-- The newest on top; each lies above what was there ahead of it. -/
def HeldG (W w : World) : Nat → List Tg → Prop
  | top, [] => W.heap.size ≤ top
  | top, t :: L => ∃ lo hi, (t.st ∧ t lo hi w) ∧ lo ≤ hi ∧ hi ≤ top ∧ HeldG W w lo L
theorem HeldG.base {W w : World} : ∀ {top : Nat} {L : List Tg}, HeldG W w top L → W.heap.size ≤ top
  | _, [], h => h
  | _, _ :: _, ⟨_, _, _, h1, h2, h⟩ => Nat.le_trans (Nat.le_trans (HeldG.base h) h1) h2
theorem HeldG.up {W w : World} {top top' : Nat} : ∀ {L : List Tg}, HeldG W w top L → top ≤ top' → HeldG W w top' L
  | [], h, hl => Nat.le_trans h hl
  | _ :: _, ⟨lo, hi, h0, h1, h2, h⟩, hl => ⟨lo, hi, h0, h1, Nat.le_trans h2 hl, h⟩
theorem HeldG.chg {W w w' : World} {a b : Nat} (hc : Chg a b w w') : ∀ {top : Nat} {L : List Tg}, HeldG W w top L → top ≤ a → HeldG W w' top L
  | _, [], h, _ => h
  | _, _ :: _, ⟨lo, hi, h0, h1, h2, h⟩, hl => ⟨lo, hi, ⟨h0.1, h0.1 _ _ _ _ _ _ h0.2 hc (.inl (by omega))⟩, h1, h2, HeldG.chg hc h (by omega)⟩
theorem HeldG.open {W w : World} : ∀ {top : Nat} {L : List Tg} {i : Nat} {t : Tg}, HeldG W w top L → L[i]? = some t →
    ∃ lo hi, t lo hi w ∧ W.heap.size ≤ lo ∧ hi ≤ top ∧ ∀ w' t', Tg.st t' → t' lo hi w' → Chg lo hi w w' → HeldG W w' top (L.set i t')
  | top, [], i, t, _, h => by simp at h
  | top, t0 :: L, 0, t, ⟨lo, hi, h0, h1, h2, h⟩, hi' => by
    simp at hi'
    subst hi'
    exact ⟨lo, hi, h0.2, h.base, h2, fun w' t' hs ht hc => ⟨lo, hi, ⟨hs, ht⟩, h1, h2, HeldG.chg hc h (Nat.le_refl _)⟩⟩
  | top, t0 :: L, i + 1, t, ⟨lo, hi, h0, h1, h2, h⟩, hi' => by
    obtain ⟨lo', hi2, ok, hb, ht, put⟩ := HeldG.open h (by simpa using hi')
    exact ⟨lo', hi2, ok, hb, by omega, fun w' t' hs ok' hc => ⟨lo, hi, ⟨h0.1, h0.1 _ _ _ _ _ _ h0.2 hc (.inr ht)⟩, h1, h2, put w' t' hs ok' hc⟩⟩
structure Hand (W w : World) (L : List Tg) : Prop where
  below : Below W.heap.size W w
  held : HeldG W w w.heap.size L
theorem Hand.start (W : World) : Hand W W [] := ⟨Below.refl _ _, Nat.le_refl _⟩
theorem Hand.step {W w w' : World} {L : List Tg} (h : Hand W w L) (hb : Below w.heap.size w w') : Hand W w' L :=
  ⟨h.below.trans (hb.mono h.below.size), (HeldG.chg (a := w.heap.size) (b := w.heap.size) (Chg.ofBelow hb) h.held (Nat.le_refl _)).up hb.size⟩
theorem Hand.add {W w w' : World} {L : List Tg} {t : Tg} (h : Hand W w L) (hb : Below w.heap.size w w') (hs : t.st) (ho : t w.heap.size w'.heap.size w') : Hand W w' (t :: L) :=
  ⟨(h.step hb).below, w.heap.size, w'.heap.size, ⟨hs, ho⟩, hb.size, Nat.le_refl _, HeldG.chg (a := w.heap.size) (b := w.heap.size) (Chg.ofBelow hb) h.held (Nat.le_refl _)⟩
theorem Hand.open {W w : World} {L : List Tg} {t : Tg} (h : Hand W w L) (i : Nat) (hi : L[i]? = some t) :
    ∃ lo hi, t lo hi w ∧ W.heap.size ≤ lo ∧ hi ≤ w.heap.size ∧ ∀ w' t', Tg.st t' → t' lo hi w' → Chg lo hi w w' → Hand W w' (L.set i t') := by
  obtain ⟨lo, hi', ok, hb, ht, put⟩ := HeldG.open h.held hi
  exact ⟨lo, hi', ok, hb, ht, fun w' t' hs ok' hc => ⟨h.below.trans (hc.below hb h.below.size), (put w' t' hs ok' hc).up hc.size⟩⟩
theorem Hand.get {W w : World} {L : List Tg} {t : Tg} (h : Hand W w L) (i : Nat) (hi : L[i]? = some t) : ∃ lo hi, t lo hi w := by
  obtain ⟨lo, hi', ok, _⟩ := h.open i hi
  exact ⟨lo, hi', ok⟩

/-- A variable's block. -/
def TBox (g : Nat) (cs : Array Value) (T : TypeId) : Tg := fun lo hi w => lo ≤ g ∧ g < hi ∧ BoxAt w g cs T
theorem TBox.st (g : Nat) (cs : Array Value) (T : TypeId) : (TBox g cs T).st := by
  intro lo hi a b w w' h hc hd
  obtain ⟨h1, h2, h3⟩ := h
  exact ⟨h1, h2, h3.chg hc (by omega)⟩
theorem Hand.box {W w : World} {L : List Tg} (h : Hand W w L) (cs : Array Value) (T : TypeId) : Hand W (w.alloc (.cells cs T)) (TBox w.heap.size cs T :: L) :=
  h.add (below_box w _) (TBox.st _ _ _) ⟨Nat.le_refl _, by simp, BoxAt.new w cs T⟩
theorem Hand.atBox {W w : World} {L : List Tg} {g : Nat} {cs : Array Value} {T : TypeId} (h : Hand W w L) (i : Nat) (hi : L[i]? = some (TBox g cs T)) : BoxAt w g cs T := by
  obtain ⟨_, _, _, _, h⟩ := h.get i hi
  exact h
/-- Rows of the call's own. -/
def TInts (v : Value) (xs : List Int) : Tg := fun lo hi w => Own w lo v xs ∧ ∀ k, v.ownBlock = some k → k < hi
theorem TInts.st (v : Value) (xs : List Int) : (TInts v xs).st := fun lo hi a b w w' h hc hd => ⟨ownsRow_chg h.1 h.2 hc hd, h.2⟩
def TBols (v : Value) (xs : List Bool) : Tg := fun lo hi w => OwnZ w lo v xs ∧ ∀ k, v.ownBlock = some k → k < hi
theorem TBols.st (v : Value) (xs : List Bool) : (TBols v xs).st := fun lo hi a b w w' h hc hd => ⟨ownsRow_chg h.1 h.2 hc hd, h.2⟩
theorem row_top {w : World} {lo n : Nat} {e : TypeId} {v : Value} {xs : List Value} (h : w.ownsRow lo e 1 v n xs) : ∀ k, v.ownBlock = some k → k < w.heap.size := fun k hk => (World.ownsRow.lt h k hk).2
theorem row_low {w : World} {lo n : Nat} {e : TypeId} {v : Value} {xs : List Value} (h : w.ownsRow lo e 1 v n xs) : ∀ k, v.ownBlock = some k → lo ≤ k := fun k hk => (World.ownsRow.lt h k hk).1

theorem row_slice {w : World} {lo n : Nat} {e : TypeId} {v : Value} {xs : List Value} (h : w.ownsRow lo e 1 v n xs) : ∃ a cap, v = .slice a n cap := by
  rcases h.2 with ⟨rfl, h0⟩ | ⟨g, cap, cur, rfl, hb, _⟩
  · exact ⟨none, 0, by rw [h0]⟩
  · exact ⟨_, cap, rfl⟩

theorem RdT.small {w : World} {v : Value} {xs : List ByteArray} (h : RdT w v xs) : ∀ s ∈ xs, s.size ≤ maxLen := by
  obtain ⟨a, cap, rfl, h1, h2, h4, h3⟩ := h
  exact h4

/-- A disk of the call's own: three rows, in blocks from lo up to hi. -/
structure DskV (w : World) (lo hi : Nat) (p h b : Value) (P H : List ByteArray) (B : List Bool) : Prop where
  plate : OwnT w lo p P
  held : OwnT w lo h H
  bad : OwnZ w lo b B
  tp : ∀ k, p.ownBlock = some k → k < hi
  th : ∀ k, h.ownBlock = some k → k < hi
  tb : ∀ k, b.ownBlock = some k → k < hi
  ph : p.ownBlock = none ∨ p.ownBlock ≠ h.ownBlock
  sp : ∀ s ∈ P, s.size ≤ maxLen
  sh : ∀ s ∈ H, s.size ≤ maxLen
theorem DskV.chg {w w' : World} {lo hi x y : Nat} {p h b : Value} {P H : List ByteArray} {B : List Bool} (d : DskV w lo hi p h b P H B) (hc : Chg x y w w') (hd : hi ≤ x ∨ y ≤ lo) : DskV w' lo hi p h b P H B :=
  ⟨ownsRow_chg d.plate d.tp hc hd, ownsRow_chg d.held d.th hc hd, ownsRow_chg d.bad d.tb hc hd, d.tp, d.th, d.tb, d.ph, d.sp, d.sh⟩
theorem DskV.below {w w' : World} {lo hi : Nat} {p h b : Value} {P H : List ByteArray} {B : List Bool} (d : DskV w lo hi p h b P H B) (hb : Below w.heap.size w w') : DskV w' lo hi p h b P H B :=
  ⟨ownsRow_below d.plate hb, ownsRow_below d.held hb, ownsRow_below d.bad hb, d.tp, d.th, d.tb, d.ph, d.sp, d.sh⟩
theorem DskV.wider {w : World} {lo hi lo' hi' : Nat} {p h b : Value} {P H : List ByteArray} {B : List Bool} (d : DskV w lo hi p h b P H B) (h1 : lo' ≤ lo) (h2 : hi ≤ hi') : DskV w lo' hi' p h b P H B :=
  ⟨ownsRow_mono d.plate h1, ownsRow_mono d.held h1, ownsRow_mono d.bad h1, fun k hk => Nat.lt_of_lt_of_le (d.tp k hk) h2, fun k hk => Nat.lt_of_lt_of_le (d.th k hk) h2, fun k hk => Nat.lt_of_lt_of_le (d.tb k hk) h2, d.ph, d.sp, d.sh⟩
theorem DskV.sl {w : World} {lo hi : Nat} {p h b : Value} {P H : List ByteArray} {B : List Bool} (d : DskV w lo hi p h b P H B) : ∃ ap cp ah ch ab cb, p = .slice ap P.length cp ∧ h = .slice ah H.length ch ∧ b = .slice ab B.length cb := by
  obtain ⟨ap, cp, rfl⟩ := row_slice d.plate
  obtain ⟨ah, ch, rfl⟩ := row_slice d.held
  obtain ⟨ab, cb, rfl⟩ := row_slice d.bad
  exact ⟨ap, cp, ah, ch, ab, cb, rfl, rfl, rfl⟩
theorem DskV.rp {w : World} {lo hi : Nat} {p h b : Value} {P H : List ByteArray} {B : List Bool} (d : DskV w lo hi p h b P H B) : RdT w p P := OwnT.rd d.plate d.sp
theorem DskV.rh {w : World} {lo hi : Nat} {p h b : Value} {P H : List ByteArray} {B : List Bool} (d : DskV w lo hi p h b P H B) : RdT w h H := OwnT.rd d.held d.sh
theorem DskV.rb {w : World} {lo hi : Nat} {p h b : Value} {P H : List ByteArray} {B : List Bool} (d : DskV w lo hi p h b P H B) : RdZ w b B := OwnZ.rd d.bad
theorem DskV.nil (w : World) (lo hi : Nat) : DskV w lo hi (.slice none 0 0) (.slice none 0 0) (.slice none 0 0) [] [] [] :=
  ⟨World.ownsRow_nil _ _ _ _, World.ownsRow_nil _ _ _ _, World.ownsRow_nil _ _ _ _, fun k hk => by simp [Value.ownBlock] at hk, fun k hk => by simp [Value.ownBlock] at hk, fun k hk => by simp [Value.ownBlock] at hk, .inl rfl, by simp, by simp⟩
def TDsk (p h b : Value) (P H : List ByteArray) (B : List Bool) : Tg := fun lo hi w => DskV w lo hi p h b P H B
theorem TDsk.st (p h b : Value) (P H : List ByteArray) (B : List Bool) : (TDsk p h b P H B).st := fun lo hi x y w w' d hc hd => d.chg hc hd
/-- A row of Booleans and a row of texts lie in unlike blocks. -/
theorem bol_txt {w : World} {lo lo' n k : Nat} {v u : Value} {xs ys : List Value} (h : w.ownsRow lo 4 1 v n xs) (h' : w.ownsRow lo' 9 1 u k ys) : (v.ownBlock = none ∨ v.ownBlock ≠ u.ownBlock) ∧ (u.ownBlock = none ∨ u.ownBlock ≠ v.ownBlock) := by
  rcases h.2 with ⟨rfl, _⟩ | ⟨g, cap, cur, rfl, _, hg, _⟩
  · refine ⟨.inl rfl, ?_⟩
    cases hu : u.ownBlock with
    | none => exact .inl rfl
    | some x => right; simp [Value.ownBlock]
  rcases h'.2 with ⟨rfl, _⟩ | ⟨g', cap', cur', rfl, _, hg', _⟩
  · exact ⟨.inr (by simp [Value.ownBlock]), .inl rfl⟩
  · have hne : g ≠ g' := by
      intro e
      subst e
      rw [hg] at hg'
      simp at hg'
    exact ⟨.inr (by simpa [Value.ownBlock] using hne), .inr (by simpa [Value.ownBlock] using fun e : g' = g => hne e.symm)⟩
/-- One row is written. -/
theorem DskV.setP {w w' : World} {lo hi : Nat} {p h b : Value} {P H P' : List ByteArray} {B : List Bool} (d : DskV w lo hi p h b P H B) (ho : OwnT w' lo p P') (hs : ∀ s ∈ P', s.size ≤ maxLen) (hg : w.grownBy w' p.ownBlock) : DskV w' lo hi p h b P' H B :=
  ⟨ho, World.ownsRow.kept d.held hg (by
      rcases d.ph with e | e
      · cases hh : h.ownBlock with
        | none => exact .inl rfl
        | some x => right; rw [e]; simp
      · exact .inr (fun h' => e h'.symm)), World.ownsRow.kept d.bad hg (bol_txt d.bad d.plate).1, d.tp, d.th, d.tb, d.ph, hs, d.sh⟩
theorem DskV.setH {w w' : World} {lo hi : Nat} {p h b : Value} {P H H' : List ByteArray} {B : List Bool} (d : DskV w lo hi p h b P H B) (ho : OwnT w' lo h H') (hs : ∀ s ∈ H', s.size ≤ maxLen) (hg : w.grownBy w' h.ownBlock) : DskV w' lo hi p h b P H' B :=
  ⟨World.ownsRow.kept d.plate hg d.ph, ho, World.ownsRow.kept d.bad hg (bol_txt d.bad d.held).1, d.tp, d.th, d.tb, d.ph, d.sp, hs⟩
theorem DskV.setB {w w' : World} {lo hi : Nat} {p h b : Value} {P H : List ByteArray} {B B' : List Bool} (d : DskV w lo hi p h b P H B) (ho : OwnZ w' lo b B') (hg : w.grownBy w' b.ownBlock) : DskV w' lo hi p h b P H B' :=
  ⟨World.ownsRow.kept d.plate hg (bol_txt d.bad d.plate).2, World.ownsRow.kept d.held hg (bol_txt d.bad d.held).2, ho, d.tp, d.th, d.tb, d.ph, d.sp, d.sh⟩
theorem DskV.chgP {w w' : World} {lo hi : Nat} {p h b : Value} {P H : List ByteArray} {B : List Bool} (d : DskV w lo hi p h b P H B) (hg : w.grownBy w' p.ownBlock) : Chg lo hi w w' := Chg.ofGrown hg (fun k hk => ⟨row_low d.plate k hk, d.tp k hk⟩)
theorem DskV.chgH {w w' : World} {lo hi : Nat} {p h b : Value} {P H : List ByteArray} {B : List Bool} (d : DskV w lo hi p h b P H B) (hg : w.grownBy w' h.ownBlock) : Chg lo hi w w' := Chg.ofGrown hg (fun k hk => ⟨row_low d.held k hk, d.th k hk⟩)
theorem DskV.chgB {w w' : World} {lo hi : Nat} {p h b : Value} {P H : List ByteArray} {B : List Bool} (d : DskV w lo hi p h b P H B) (hg : w.grownBy w' b.ownBlock) : Chg lo hi w w' := Chg.ofGrown hg (fun k hk => ⟨row_low d.bad k hk, d.tb k hk⟩)
end Go.Proofs.Ythmijjcddjlebaa

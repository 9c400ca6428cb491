/-
  A text built again out of a recipe, by the model; a recipe measured, copied, compared, by the laws, call by call. Each says what it asks.
-/
import Derived.Test.YthmijjcddjlebaaRb4
import Derived.Maps.AppendAt
namespace Go.Proofs.Ythmijjcddjlebaa
open Go.RowKit
set_option linter.unusedVariables false

set_option maxRecDepth 100000 in
set_option maxHeartbeats 400000 in
theorem szStringS9_any (v : Value) (xs : List ByteArray) (l : Int) (w : World) (h : RdT w v xs) (hl0 : 0 ≤ l) (hl1 : l ≤ 1048576) :
    Calls Try.prog 50 #[v, .int .i64 l] w fun e w' => (∃ r : Int, e = .returned (.int .i64 r) ∧ (r < 0 ∨ (0 ≤ r ∧ r ≤ 1048576 ∧ xs.length ≤ 1048576))) ∧ w = w' := by
  obtain ⟨a, cap, rfl, h1, h2, h4, h3⟩ := h
  have hm : xs.length ≤ maxLen := by omega
  unfold maxLen at hm
  have H3 := hide h3
  have H4 := hide h4
  clear h3 h4 h2 h1
  by_cases hn : (xs.length : Int) ≤ l
  case neg =>
    have hn' : l - (xs.length : Int) < 0 := by omega
    go_enter Try.func50, Try.ntmps50
    go_wp2
    go_ret
    exact ⟨⟨-1, rfl, .inl (by decide)⟩, rfl⟩
  have hn' : ¬ l - (xs.length : Int) < 0 := by omega
  go_enter Try.func50, Try.ntmps50
  go_wp2
  go_loop [1, 5] (fun vl vi => ∃ (k : Nat) (l : Int), k ≤ xs.length ∧ vi = .int .i64 k ∧ vl = .int .i64 l ∧ 0 ≤ l ∧ l ≤ 1048576) (fun _ vi => xs.length - (intOf vi).toNat)
  case atStart => exact ⟨0, _, Nat.zero_le _, rfl, rfl, by omega, by omega⟩
  case round =>
    obtain ⟨k, l2, hk, rfl, rfl, hl0, hl1⟩ := hrel
    by_cases hlt : k < xs.length
    · rcases H3.out with h3 | ⟨b, off, rfl, hbs, hc⟩
      · subst h3; simp at hlt
      have hc1 := hc k hlt
      have hz : (xs.getD k ⟨#[]⟩).size ≤ maxLen := by
        apply H4.out
        rw [List.getD_eq_getElem?_getD, List.getElem?_eq_getElem hlt]
        exact List.getElem_mem hlt
      unfold maxLen at hz
      clear hc
      generalize xs.getD k ⟨#[]⟩ = z at hc1 hz
      by_cases hle : (z.size : Int) ≤ l2
      · have t1 : ¬ l2 - (z.size : Int) < 0 := by omega
        go_wp2
        go_round
        case rel => exact ⟨k + 1, _, by omega, by go_num, rfl, by omega, by omega⟩
        case measure => simp [intOf]; omega
      · have t1 : l2 - (z.size : Int) < 0 := by omega
        go_wp2
        go_ret
        exact ⟨⟨-1, rfl, .inl (by decide)⟩, rfl⟩
    · obtain rfl : k = xs.length := by omega
      go_wp2
      go_ret
      exact ⟨⟨l2, rfl, Or.inr ⟨hl0, hl1, by omega⟩⟩, rfl⟩

/-- What a disk's measure tells. -/
def SzD (P H : List ByteArray) (B : List Bool) : Prop := P.length ≤ 1048576 ∧ H.length ≤ 1048576 ∧ B.length ≤ 1048576


theorem own_ge8 {w : World} {base k : Nat} {e : TypeId} {v : Value} {xs : List Value} (h : w.ownsRow base e 1 v k xs) : ∀ g, v.ownBlock = some g → base ≤ g := by
  intro g eg
  rcases h.2 with ⟨rfl, _⟩ | ⟨g', cap, cur, rfl, hb, _⟩
  · simp [Value.ownBlock] at eg
  · obtain rfl : g' = g := by simpa [Value.ownBlock] using eg
    exact hb
theorem own_slice6 {w : World} {base : Nat} {v : Value} {xs : List ByteArray} (h : OwnT w base v xs) : ∃ a cap, v = .slice a xs.length cap := by
  rcases h.2 with ⟨rfl, h0⟩ | ⟨g, cap, cur, rfl, _⟩
  · exact ⟨none, 0, by rw [h0]⟩
  · exact ⟨_, cap, rfl⟩

set_option maxRecDepth 100000 in
set_option maxHeartbeats 1600000 in
theorem sRebuildText_calls (vc vu : Value) (C : List ByteArray) (U : List (List Int)) (k : Int) (w : World) (hc : RdT w vc C) (hu : RdM w vu U) (hn : C.length ≤ 1048576) :
    Calls Try.prog 22 #[.agg #[vc, vu], .int .i64 k] w fun e w' => e = .returned (.tuple #[.string (rebR C U k).1, .bool (rebR C U k).2]) ∧ Below w.heap.size w w' := by
  have RC := hide hc
  have RU := hide hu
  obtain ⟨ac, cc, rfl, _, hcm, _, hc3⟩ := hc
  obtain ⟨au, cu, rfl, _, hum, _⟩ := hu
  have C3 := hide hc3
  have hlu : U.length ≤ maxLen := by omega
  unfold maxLen at hlu
  clear hcm hum hc3
  have F1 : Hid (Boxed2 (w.alloc (.cells #[.slice ac C.length cc, .slice au U.length cu] 27)) w.heap.size 27 (.slice ac C.length cc) (.slice au U.length cu)) := boxed2_new w _ _ _
  have B0 : Hid (Below w.heap.size w (w.alloc (.cells #[.slice ac C.length cc, .slice au U.length cu] 27))) := (Below.refl _ w).alloc (Nat.le_refl _) _
  have GC := hide (fun W hC hU => l9Recipe_calls (.slice ac C.length cc) (.slice au U.length cu) C U W hC hU hn)
  have RC0 := hide (RC.out.below B0.out)
  have RU0 := hide (RU.out.below B0.out)
  have hsz : (w.alloc (.cells #[.slice ac C.length cc, .slice au U.length cu] 27)).heap.size = w.heap.size + 1 := by simp
  obtain ⟨i0, hi0, hz0, hz1, hz2⟩ := info_parts infoStr
  have IP := hide (And.intro hi0 (And.intro hz0 (And.intro hz1 hz2)))
  clear hi0 hz0 hz1 hz2
  by_cases hg : goodRec C U
  case neg =>
    rw [show rebR C U k = (⟨#[]⟩, false) from if_neg (fun h => hg h.1)]
    rw [decide_eq_false hg] at GC
    go_enter Try.func22, Try.ntmps22
    go_wp2_with fail
    refine (GC.out _ RC0.out RU0.out).mono ?_
    rintro e w1 ⟨rfl, b1⟩
    have S1 := hide (B0.out.trans (b1.mono B0.out.size))
    clear b1
    go_wp2
    go_ret2
    exact ⟨rfl, S1.out⟩
  rw [decide_eq_true hg] at GC
  by_cases hk0 : 0 ≤ k
  case neg =>
    rw [show rebR C U k = (⟨#[]⟩, false) from if_neg (fun h => hk0 h.2.1)]
    have hk0' : k < 0 := by omega
    go_enter Try.func22, Try.ntmps22
    go_wp2_with fail
    refine (GC.out _ RC0.out RU0.out).mono ?_
    rintro e w1 ⟨rfl, b1⟩
    have S1 := hide (B0.out.trans (b1.mono B0.out.size))
    clear b1
    go_wp2
    go_ret2
    exact ⟨rfl, S1.out⟩
  have hk0' : ¬ k < 0 := by omega
  have hk0b : decide (k < 0) = false := decide_eq_false hk0'
  go_enter Try.func22, Try.ntmps22
  go_wp2_with fail
  refine (GC.out _ RC0.out RU0.out).mono ?_
  rintro e w1 ⟨rfl, b1⟩
  have S1 := hide (B0.out.trans (b1.mono B0.out.size))
  have g10 : w1.cell? ⟨w.heap.size, 0, none⟩ = some (.slice ac C.length cc) := (b1.cell (p := ⟨w.heap.size, 0, none⟩) (by show w.heap.size < _; omega)).trans F1.out.c0
  have g11 : w1.cell? ⟨w.heap.size, 1, none⟩ = some (.slice au U.length cu) := (b1.cell (p := ⟨w.heap.size, 1, none⟩) (by show w.heap.size < _; omega)).trans F1.out.c1
  have hl1 : w.heap.size < w1.heap.size := by have := b1.size; omega
  have RC1 := hide (RC0.out.below b1)
  have RU1 := hide (RU0.out.below b1)
  clear b1 RC0 RU0 F1
  by_cases hk1 : k < (U.length : Int)
  case neg =>
    have ER := hide (show rebR C U k = (⟨#[]⟩, false) from if_neg (fun h => hk1 h.2.2))
    have hk1' : (U.length : Int) ≤ k := by omega
    go_wp2
    go_ret2
    exact ⟨by rw [ER.out]; rfl, S1.out⟩
  have hk1' : ¬ (U.length : Int) ≤ k := by omega
  have hk1b : decide ((U.length : Int) ≤ k) = false := decide_eq_false hk1'
  have ER := hide (show rebR C U k = jchR (pick9 C (U.getD k.toNat [])) from if_pos ⟨hg, hk0, hk1⟩)
  obtain ⟨j, rfl⟩ := Int.eq_ofNat_of_zero_le hk0
  rw [Int.toNat_natCast] at ER
  have hj : j < U.length := by omega
  have hjn : ¬ U.length ≤ j := by omega
  have hjb : decide (U.length ≤ j) = false := decide_eq_false hjn
  obtain ⟨p1, p2, p3⟩ := pick9_small hg j hj
  obtain ⟨bu, ou, u, hau, hcu, hru⟩ := RU1.out.row j hj
  subst hau
  have US := hide (hg.2.2.2.2 j hj)
  generalize U.getD j [] = xs at ER p1 p2 p3 US hru
  have hx8 := US.out.1
  obtain ⟨ax, cx, rfl, hx1, hx2, hx3⟩ := hru
  have X3 := hide hx3
  have P2 := hide p2
  have P3 := hide p3
  have PL := hide (pick9_length C xs)
  have PG := hide (pick9_getD C xs)
  have G10 := hide g10
  have O0 : Hid (w1.ownsRow w1.heap.size 9 1 (.slice none 0 0) 0 (((pick9 C xs).map Value.string).take 0)) := World.ownsRow_nil _ _ _ _
  have RCW := hide RC1.out
  clear p2 p3 hg g10 hx1 hx2 hx3
  generalize pick9 C xs = ys at ER p1 P2 P3 PL PG O0
  go_wp2
  go_loopw [6, 29] (fun vo vi wr => ∃ n : Nat, n ≤ xs.length ∧ vi = .int .i64 n ∧ wr.ownsRow w1.heap.size 9 1 vo n ((ys.map Value.string).take n) ∧ Below w1.heap.size w1 wr) (fun _ vi _ => xs.length - (intOf vi).toNat)
  case atStart => exact ⟨0, Nat.zero_le _, rfl, O0.out, Below.refl _ _⟩
  case round =>
    obtain ⟨n, hnn, rfl, hown, hb⟩ := hrel
    have O := hide hown
    have HB := hide hb
    have hbs := hb.size
    clear hown
    by_cases hnl : n < xs.length
    · rcases X3.out with h3 | ⟨bx, ox, rfl, hbx, hcx⟩
      · rw [h3] at hnl; simp at hnl
      have hcx1 : wr.cell? ⟨bx, ox + n, none⟩ = some (.int .i64 (xs.getD n 0)) := (hb.cell (p := ⟨bx, ox + n, none⟩) hbx).trans (hcx n hnl)
      have hg1 : wr.cell? ⟨w.heap.size, 0, none⟩ = some (.slice ac C.length cc) := (hb.cell (p := ⟨w.heap.size, 0, none⟩) hl1).trans G10.out
      obtain ⟨hx0, hxl⟩ := US.out.2 n hnl
      have hyn := PG.out n hnl
      obtain ⟨q, hq⟩ := Int.eq_ofNat_of_zero_le hx0
      rw [hq] at hcx1 hxl hyn
      rw [Int.toNat_natCast] at hyn
      have hqc : q < C.length := by omega
      obtain ⟨ac', cc', hvc, _, _, _, h3c⟩ := RC1.out.below hb
      simp only [Value.slice.injEq] at hvc
      obtain ⟨rfl, _, rfl⟩ := hvc
      rcases h3c with h3 | ⟨bc, oc, rfl, hbc, hcc⟩
      · rw [h3] at hqc; simp at hqc
      have hcc1 := hcc q hqc
      rw [← hyn] at hcc1
      have hst : Hid ((ys.map Value.string).take (n + 1) = (ys.map Value.string).take n ++ [.string (ys.getD n ⟨#[]⟩)]) := by
        show _ = _
        have hyl : n < ys.length := by rw [PL.out]; exact hnl
        rw [List.take_succ_eq_append_getElem (by rw [List.length_map]; exact hyl), List.getElem_map, List.getD_eq_getElem?_getD, List.getElem?_eq_getElem hyl]
        rfl
      generalize ys.getD n ⟨#[]⟩ = z at hcc1 hst
      have hnl' : (n : Int) < (xs.length : Int) := by omega
      have hqc' : (q : Int) < (C.length : Int) := by omega
      clear hcx hcc hyn hq hb hx0 hxl
      go_wp2_with (at_builtin; refine wpList_append_own (w := wr.alloc (.cells #[.string z] 9)) rfl _ _ _ rfl w1.heap.size 9 i0 (.string ⟨#[]⟩) 1 16 Try.underlying23 IP.out.1 IP.out.2.1 IP.out.2.2.1 IP.out.2.2.2 rfl (by decide) _ n _ rfl (O.out.alloc _) ⟨wr.heap.size, 0, none⟩ 1 1 [.string z] rfl rfl (cell_one_new _ _ _) (by simp [Value.oneCell']) (by unfold maxLen; omega) (by omega) (by simp; omega) ?_)
      intro v' w2 o2 g2 _
      have B2 := hide ((HB.out.alloc hbs (.cells #[.string z] 9)).grown g2 (by simp; omega) (own_ge8 O.out))
      have O1 := hide o2
      clear o2 g2
      go_wp2
      go_roundw
      case rel => exact ⟨n + 1, by omega, by go_num, by rw [hst.out]; exact O1.out, B2.out⟩
      case measure => simp [intOf]; omega
    · obtain rfl : n = xs.length := by omega
      have oo : ∀ v, wr.ownsRow w1.heap.size 9 1 v xs.length ((ys.map Value.string).take xs.length) → OwnT wr w1.heap.size v ys := by
        intro v h
        have el : (ys.map Value.string).take xs.length = ys.map Value.string := List.take_of_length_le (by rw [List.length_map, PL.out]; exact Nat.le_refl _)
        rw [el, ← PL.out] at h
        exact h
      have R2 := hide ((oo _ O.out).rd P3.out)
      have hv := own_slice6 (oo _ O.out)
      obtain ⟨a2, c2, hv2⟩ := hv
      have S2 := hide (S1.out.trans (HB.out.mono S1.out.size))
      clear hb O
      subst hv2
      go_wp2_with fail
      refine (sJoinChunks_calls _ ys _ R2.out p1 P2.out).mono ?_
      rintro e w3 ⟨rfl, b3⟩
      have S3 := hide (S2.out.trans (b3.mono S2.out.size))
      clear b3
      go_wp2
      go_ret2
      exact ⟨by rw [ER.out]; rfl, S3.out⟩

set_option maxRecDepth 100000 in
set_option maxHeartbeats 800000 in
theorem eqRecipe_same (vc vu vc' vu' : Value) (C : List ByteArray) (U : List (List Int)) (w : World) (hc : RdT w vc C) (hu : RdM w vu U) (hc' : RdT w vc' C) (hu' : RdM w vu' U) :
    Calls Try.prog 52 #[.agg #[vc, vu], .agg #[vc', vu']] w fun e w' => e = .returned (.bool true) ∧ Below w.heap.size w w' := by
  have RC := hide hc
  have RU := hide hu
  have RC' := hide hc'
  have RU' := hide hu'
  obtain ⟨ac, cc, rfl, _⟩ := hc
  obtain ⟨au, cu, rfl, _⟩ := hu
  obtain ⟨ac', cc', rfl, _⟩ := hc'
  obtain ⟨au', cu', rfl, _⟩ := hu'
  have F1 : Hid (Boxed2 ((w.alloc (.cells #[.slice ac C.length cc, .slice au U.length cu] 27)).alloc (.cells #[.slice ac' C.length cc', .slice au' U.length cu'] 27)) w.heap.size 27 (.slice ac C.length cc) (.slice au U.length cu)) := boxed2_alloc (boxed2_new w _ _ _) _
  have F2 : Hid (Boxed2 ((w.alloc (.cells #[.slice ac C.length cc, .slice au U.length cu] 27)).alloc (.cells #[.slice ac' C.length cc', .slice au' U.length cu'] 27)) (w.heap.size + 1) 27 (.slice ac' C.length cc') (.slice au' U.length cu')) := by
    have := boxed2_new (w.alloc (.cells #[.slice ac C.length cc, .slice au U.length cu] 27)) 27 (.slice ac' C.length cc') (.slice au' U.length cu')
    rwa [World.size_alloc] at this
  have B0 : Hid (Below w.heap.size w ((w.alloc (.cells #[.slice ac C.length cc, .slice au U.length cu] 27)).alloc (.cells #[.slice ac' C.length cc', .slice au' U.length cu'] 27))) := ((Below.refl _ w).alloc (Nat.le_refl _) _).alloc (by simp) _
  have hsz : ((w.alloc (.cells #[.slice ac C.length cc, .slice au U.length cu] 27)).alloc (.cells #[.slice ac' C.length cc', .slice au' U.length cu'] 27)).heap.size = w.heap.size + 2 := by simp
  go_enter Try.func52, Try.ntmps52
  go_wp2_with fail
  refine (eqStringS_same _ _ C _ (RC.out.below B0.out) (RC'.out.below B0.out)).mono ?_
  rintro e w1 ⟨rfl, b1⟩
  have S1 := hide (B0.out.trans (b1.mono B0.out.size))
  have g1 : w1.cell? ⟨w.heap.size, 1, none⟩ = some (.slice au U.length cu) := (b1.cell (p := ⟨w.heap.size, 1, none⟩) (by show w.heap.size < _; omega)).trans F1.out.c1
  have g2 : w1.cell? ⟨w.heap.size + 1, 1, none⟩ = some (.slice au' U.length cu') := (b1.cell (p := ⟨w.heap.size + 1, 1, none⟩) (by show w.heap.size + 1 < _; omega)).trans F2.out.c1
  clear b1
  go_wp2_with fail
  refine (eqIntSS_same _ _ U _ (RU.out.below S1.out) (RU'.out.below S1.out)).mono ?_
  rintro e w2 ⟨rfl, b2⟩
  have S2 := hide (S1.out.trans (b2.mono S1.out.size))
  clear b2
  go_wp2
  go_ret
  exact ⟨rfl, S2.out⟩

end Go.Proofs.Ythmijjcddjlebaa

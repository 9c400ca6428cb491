/-
  A text built again out of a recipe, by the program, call by call. Each says what it asks.
-/
import Derived.Test.YthmijjcddjlebaaRb2
namespace Go.Proofs.Ythmijjcddjlebaa
open Go.RowKit
set_option linter.unusedVariables false

theorem pick9_length (C : List ByteArray) (xs : List Int) : (pick9 C xs).length = xs.length := by unfold pick9; rw [List.length_map]
theorem pick9_getD (C : List ByteArray) (xs : List Int) (k : Nat) (h : k < xs.length) : (pick9 C xs).getD k ⟨#[]⟩ = C.getD (xs.getD k 0).toNat ⟨#[]⟩ := by
  unfold pick9
  rw [List.getD_eq_getElem?_getD, List.getElem?_map, List.getElem?_eq_getElem h, List.getD_eq_getElem?_getD (l := xs), List.getElem?_eq_getElem h]
  rfl

set_option maxRecDepth 100000 in
set_option maxHeartbeats 800000 in
theorem eachChunk_calls (v : Value) (xs : List Int) (B : Nat) (vc : Value) (C : List ByteArray) (w : World) (h : Rd w v xs) (hn : xs.length ≤ 1048576) (hBl : B < w.heap.size) (hB : w.cell? ⟨B, 0, none⟩ = some vc) (hc : RdT w vc C) (hth : ∀ i, i < xs.length → thereOk C.length (xs.getD i 0)) :
    Calls Try.prog 71 #[v, .func (.func 72) #[] #[.pointer (some ⟨B, 0, none⟩)]] w fun e w' => ∃ v', e = .returned v' ∧ OwnT w' w.heap.size v' (pick9 C xs) ∧ Below w.heap.size w w' := by
  obtain ⟨a, cap, rfl, h1, h2, h3⟩ := h
  have H3 := hide h3
  have HB := hide hB
  have HC := hide hc
  have HT := hide hth
  clear h3 hB hc hth h2 h1
  obtain ⟨ys, hys⟩ : ∃ ys, ys = pick9 C xs := ⟨_, rfl⟩
  have hyl : ys.length = xs.length := by rw [hys, pick9_length]
  have HG : Hid (∀ k, k < xs.length → ys.getD k ⟨#[]⟩ = C.getD (xs.getD k 0).toNat ⟨#[]⟩) := fun k hk => by rw [hys, pick9_getD C xs k hk]
  rw [← hys]
  clear hys
  have HYL := hide hyl
  go_enter Try.func71, Try.ntmps71
  clear hyl
  go_wp2_with (at_make; refine wpList_make_texts rfl _ _ rfl w.heap.size _ _ xs.length rfl rfl (by omega) (by omega) (by omega) (Nat.le_refl _) ?_)
  intro w0 hown0 hgrow0
  have E0 := hide hown0
  have G0 := hide hgrow0
  clear hown0 hgrow0
  go_wp2
  go_loopw [13] (fun vi wr => ∃ k : Nat, k ≤ xs.length ∧ vi = .int .i64 k ∧ wr.ownsRow w.heap.size 9 1 (.slice (some ⟨w.heap.size, 0, none⟩) xs.length xs.length) xs.length ((cpT ys k).map Value.string) ∧ Below w.heap.size w wr) (fun vi _ => xs.length - (intOf vi).toNat)
  case atStart =>
    refine ⟨0, Nat.zero_le _, rfl, ?_, (Below.refl _ _).grown G0.out (Nat.le_refl _) (fun k h => by cases h)⟩
    rw [cpT_zero, HYL.out]
    have := E0.out
    unfold OwnT at this
    rwa [List.length_replicate] at this
  case round =>
    obtain ⟨k, hk, rfl, hown, hb⟩ := hrel
    by_cases hlt : k < xs.length
    · rcases H3.out with h3 | ⟨b, off, rfl, hbs, hc⟩
      · subst h3; simp at hlt
      have hc1 : wr.cell? ⟨b, off + k, none⟩ = some (.int .i64 (xs.getD k 0)) := (hb.cell (by exact hbs)).trans (hc k hlt)
      have hc2 : wr.frozen? ⟨w.heap.size, k, none⟩ = false := hown.frozenAt k
      obtain ⟨old, hc3⟩ : ∃ old, wr.cell? ⟨w.heap.size, k, none⟩ = some old := by
        rw [hown.cellAt k (by omega)]
        have := cpT_length ys k (by rw [HYL.out]; exact hk)
        have := HYL.out
        exact ⟨_, List.getElem?_eq_getElem (by simp; omega)⟩
      have hst := hown.stored k (.string (C.getD (xs.getD k 0).toNat ⟨#[]⟩))
      have K := hide hst
      have CALL := hide (chunkOf_calls (xs.getD k 0) B vc C wr ((hb.cell (p := ⟨B, 0, none⟩) hBl).trans HB.out) (HC.out.below hb) (HT.out k hlt))
      have GK := hide (HG.out k hlt)
      have HBR := hide hb
      generalize C.getD (xs.getD k 0).toNat ⟨#[]⟩ = z at K CALL GK
      generalize xs.getD k 0 = x at hc1 CALL
      have hlt' : (k : Int) < (xs.length : Int) := by omega
      clear hst hc hown hb
      go_wp2_with fail
      refine CALL.out.mono ?_
      rintro e w1 ⟨rfl, rfl⟩
      go_wp2
      go_roundw
      case rel =>
        refine ⟨k + 1, by omega, by go_num, ?_, ?_⟩
        · have := K.out.1
          rw [← List.map_set, ← GK.out, cpT_step ys k (by rw [HYL.out]; exact hlt)] at this
          rw [← GK.out]
          simpa [hlt] using this
        · exact HBR.out.setCell (Nat.le_refl _) _
      case measure => simp [intOf]; omega
    · obtain rfl : k = xs.length := by omega
      go_wp2
      go_ret
      rw [← HYL.out, cpT_end] at hown
      rw [← HYL.out]
      exact ⟨_, rfl, hown, hb⟩

abbrev rebOk (C : List ByteArray) (U : List (List Int)) (k : Int) : Prop := goodRec C U ∧ 0 ≤ k ∧ k < (U.length : Int)
def rebR (C : List ByteArray) (U : List (List Int)) (k : Int) : ByteArray × Bool := if rebOk C U k then jchR (pick9 C (U.getD k.toNat [])) else (⟨#[]⟩, false)
/-- What is picked of good chunks is small. -/
theorem pick9_small {C : List ByteArray} {U : List (List Int)} (h : goodRec C U) (j : Nat) (hj : j < U.length) : (pick9 C (U.getD j [])).length ≤ 1048576 ∧ (∀ i, i < (pick9 C (U.getD j [])).length → ((pick9 C (U.getD j [])).getD i ⟨#[]⟩).size ≤ 1048576) ∧ ∀ t ∈ pick9 C (U.getD j []), t.size ≤ maxLen := by
  obtain ⟨h1, h2⟩ := h.2.2.2.2 j hj
  have hsz : ∀ i, (C.getD i ⟨#[]⟩).size ≤ 20 := by
    intro i
    by_cases hi : i < C.length
    · exact (h.2.2.1 i hi).2
    · rw [List.getD_eq_getElem?_getD, List.getElem?_eq_none (by omega)]; exact Nat.zero_le _
  refine ⟨by rw [pick9_length]; omega, fun i hi => ?_, fun t ht => ?_⟩
  · rw [pick9_length] at hi
    rw [pick9_getD _ _ i hi]
    have := hsz ((U.getD j []).getD i 0).toNat
    omega
  · unfold pick9 at ht
    obtain ⟨n, _, rfl⟩ := List.mem_map.1 ht
    have := hsz n.toNat
    unfold maxLen
    omega

set_option maxRecDepth 100000 in
set_option maxHeartbeats 1600000 in
theorem rebuildText_calls (vc vu : Value) (C : List ByteArray) (U : List (List Int)) (k : Int) (w : World) (hc : RdT w vc C) (hu : RdM w vu U) (hn : C.length ≤ 1048576) :
    Calls Try.prog 19 #[.agg #[vc, vu], .int .i64 k] w fun e w' => e = .returned (.tuple #[.string (rebR C U k).1, .bool (rebR C U k).2]) ∧ Below w.heap.size w w' := by
  have RC := hide hc
  have RU := hide hu
  obtain ⟨ac, cc, rfl, _, hcm, _, _⟩ := hc
  obtain ⟨au, cu, rfl, _, hum, _⟩ := hu
  have hlu : U.length ≤ maxLen := by omega
  unfold maxLen at hlu
  clear hcm hum
  have F1 : Hid (Boxed2 (w.alloc (.cells #[.slice ac C.length cc, .slice au U.length cu] 27)) w.heap.size 27 (.slice ac C.length cc) (.slice au U.length cu)) := boxed2_new w _ _ _
  have B0 : Hid (Below w.heap.size w (w.alloc (.cells #[.slice ac C.length cc, .slice au U.length cu] 27))) := (Below.refl _ w).alloc (Nat.le_refl _) _
  have GC := hide (fun W hC hU => isGoodRecipe_calls (.slice ac C.length cc) (.slice au U.length cu) C U W hC hU hn)
  have RC0 := hide (RC.out.below B0.out)
  have RU0 := hide (RU.out.below B0.out)
  have hsz : (w.alloc (.cells #[.slice ac C.length cc, .slice au U.length cu] 27)).heap.size = w.heap.size + 1 := by simp
  by_cases hg : goodRec C U
  case neg =>
    rw [show rebR C U k = (⟨#[]⟩, false) from if_neg (fun h => hg h.1)]
    rw [decide_eq_false hg] at GC
    go_enter Try.func19, Try.ntmps19
    go_wp2_with fail
    refine (GC.out _ RC0.out RU0.out).mono ?_
    rintro e w1 ⟨rfl, b1⟩
    have S1 := hide (B0.out.trans (b1.mono B0.out.size))
    clear b1
    go_wp2
    go_ret2
    exact ⟨rfl, S1.out⟩
  rw [decide_eq_true hg] at GC
  by_cases hk0 : 0 ≤ k
  case neg =>
    rw [show rebR C U k = (⟨#[]⟩, false) from if_neg (fun h => hk0 h.2.1)]
    have hk0' : k < 0 := by omega
    go_enter Try.func19, Try.ntmps19
    go_wp2_with fail
    refine (GC.out _ RC0.out RU0.out).mono ?_
    rintro e w1 ⟨rfl, b1⟩
    have S1 := hide (B0.out.trans (b1.mono B0.out.size))
    clear b1
    go_wp2
    go_ret2
    exact ⟨rfl, S1.out⟩
  have hk0' : ¬ k < 0 := by omega
  have hk0b : decide (k < 0) = false := decide_eq_false hk0'
  go_enter Try.func19, Try.ntmps19
  go_wp2_with fail
  refine (GC.out _ RC0.out RU0.out).mono ?_
  rintro e w1 ⟨rfl, b1⟩
  have S1 := hide (B0.out.trans (b1.mono B0.out.size))
  have g10 : w1.cell? ⟨w.heap.size, 0, none⟩ = some (.slice ac C.length cc) := (b1.cell (p := ⟨w.heap.size, 0, none⟩) (by show w.heap.size < _; omega)).trans F1.out.c0
  have g11 : w1.cell? ⟨w.heap.size, 1, none⟩ = some (.slice au U.length cu) := (b1.cell (p := ⟨w.heap.size, 1, none⟩) (by show w.heap.size < _; omega)).trans F1.out.c1
  have hl1 : w.heap.size < w1.heap.size := by have := b1.size; omega
  have RC1 := hide (RC0.out.below b1)
  have RU1 := hide (RU0.out.below b1)
  clear b1 RC0 RU0 F1
  by_cases hk1 : k < (U.length : Int)
  case neg =>
    have ER := hide (show rebR C U k = (⟨#[]⟩, false) from if_neg (fun h => hk1 h.2.2))
    have hk1' : (U.length : Int) ≤ k := by omega
    go_wp2
    go_ret2
    exact ⟨by rw [ER.out]; rfl, S1.out⟩
  have hk1' : ¬ (U.length : Int) ≤ k := by omega
  have hk1b : decide ((U.length : Int) ≤ k) = false := decide_eq_false hk1'
  have ER := hide (show rebR C U k = jchR (pick9 C (U.getD k.toNat [])) from if_pos ⟨hg, hk0, hk1⟩)
  obtain ⟨j, rfl⟩ := Int.eq_ofNat_of_zero_le hk0
  rw [Int.toNat_natCast] at ER
  have hj : j < U.length := by omega
  obtain ⟨p1, p2, p3⟩ := pick9_small hg j hj
  obtain ⟨bu, ou, u, hau, hcu, hru⟩ := RU1.out.row j hj
  subst hau
  have US := hide (hg.2.2.2.2 j hj)
  have RX := hide hru
  generalize U.getD j [] = xs at ER p1 p2 p3 US RX hru
  have hx8 := US.out.1
  obtain ⟨ax, cx, rfl, _⟩ := hru
  have P2 := hide p2
  have P3 := hide p3
  have PL := hide (pick9_length C xs)
  have G10 := hide g10
  clear p2 p3 hg g10
  go_wp2_with fail
  refine (eachChunk_calls _ xs w.heap.size _ C _ RX.out (by omega) hl1 G10.out RC1.out US.out.2).mono ?_
  rintro e w2 ⟨v2, rfl, o2, b2⟩
  have S2 := hide (S1.out.trans (b2.mono S1.out.size))
  have R2 := hide (o2.rd P3.out)
  obtain ⟨a2, c2, rfl⟩ : ∃ a cap, v2 = .slice a (pick9 C xs).length cap := by
    rcases o2.2 with ⟨rfl, h0⟩ | ⟨g, cap, cur, rfl, _⟩
    · exact ⟨none, 0, by rw [h0]⟩
    · exact ⟨_, cap, rfl⟩
  clear o2 b2
  go_wp2_with fail
  refine (joinChunks_calls _ (pick9 C xs) _ R2.out p1 P2.out).mono ?_
  rintro e w3 ⟨rfl, b3⟩
  have S3 := hide (S2.out.trans (b3.mono S2.out.size))
  clear b3
  go_wp2
  go_ret2
  exact ⟨by rw [ER.out]; rfl, S3.out⟩
end Go.Proofs.Ythmijjcddjlebaa

/-
  Recipes held against each other by the laws, where they are alike, call by call. No condition. What FnChunks asks of the mathematics: a text comes back from its chunks; none is too long, or too short but the last; from any cut on a text is cut as if it began there. No condition but that the text has at most 300 bytes where it is said. Texts whose chunks are kept once each: what FnDedup asks of the mathematics (a text comes back from its recipe, chunks are unlike, fewer bytes are kept, texts that come twice bring no chunk). No condition; no call is walked here.
-/
import Derived.Test.YthmijjcddjlebaaDedupB4
import Derived.Test.YthmijjcddjlebaaDedupB7
import Derived.Test.YthmijjcddjlebaaDedupB20
import Derived.Test.YthmijjcddjlebaaDedupB11
import Derived.Test.YthmijjcddjlebaaDedupB12
namespace Go.Proofs.Ythmijjcddjlebaa
open Go.RowKit
set_option linter.unusedVariables false

set_option maxRecDepth 100000 in
set_option maxHeartbeats 800000 in
theorem sameLists9_same (v1 v2 : Value) (m : List (List Int)) (w : World) (h1 : RdM w v1 m) (h2 : RdM w v2 m) :
    Calls Try.prog 69 #[v1, v2] w fun e w' => e = .returned (.bool true) ∧ Below w.heap.size w w' := by
  have K := hide h1
  have L := hide h2
  obtain ⟨a1, c1, rfl, _, m1, k1⟩ := h1
  obtain ⟨a2, c2, rfl, _, _, k2⟩ := h2
  have hm : m.length ≤ maxLen := by omega
  unfold maxLen at hm
  clear k1 k2 m1
  go_enter Try.func69, Try.ntmps69
  go_wp2
  go_loopw [13] (fun vi wr => ∃ k : Nat, k ≤ m.length ∧ vi = .int .i64 k ∧ Below w.heap.size w wr) (fun vi _ => m.length - (intOf vi).toNat)
  case atStart => exact ⟨0, Nat.zero_le _, rfl, Below.refl _ _⟩
  case round =>
    obtain ⟨k, hk, rfl, hb⟩ := hrel
    by_cases hlt : k < m.length
    · obtain ⟨b, off, u, rfl, hc1, hu⟩ := (K.out.below hb).row k hlt
      obtain ⟨b', off', u', rfl, hc2, hu'⟩ := (L.out.below hb).row k hlt
      have U := hide hu
      have U' := hide hu'
      have hlt' : (k : Int) < (m.length : Int) := by omega
      have B := hide hb
      clear hu hu' hb
      go_wp2
      go_quiet ((go_at_call 124; exact quiet_more (sameInts9_quiet _ _ _ _ (Rd.drewN U.out _) (Rd.drewN U'.out _))))
      go_wp2
      go_roundw
      case rel => exact ⟨k + 1, by omega, by go_num, below_drewN B.out _⟩
      case measure => simp [intOf]; omega
    · obtain rfl : k = m.length := by omega
      go_wp2
      go_ret
      exact ⟨rfl, hb⟩

set_option maxRecDepth 100000 in
set_option maxHeartbeats 1600000 in
theorem sameRecipes_same (p h p' h' : Value) (P : List ByteArray) (H : List (List Int)) (w : World) (p1 : RdT w p P) (h1 : RdM w h H) (p2 : RdT w p' P) (h2 : RdM w h' H) :
    Calls Try.prog 18 #[.agg #[p, h], .agg #[p', h']] w fun e w' => e = .returned (.bool true) ∧ Below w.heap.size w w' := by
  have P1 := hide p1
  have H1 := hide h1
  have P2 := hide p2
  have H2 := hide h2
  have bA := below_box w (.cells #[p, h] 27)
  have bB := below_box (w.alloc (.cells #[p, h] 27)) (.cells #[p', h'] 27)
  have xA := boxed2_below (boxed2_new w 27 p h) bB
  have xB := boxed2_new (w.alloc (.cells #[p, h] 27)) 27 p' h'
  rw [World.size_alloc] at xB
  have bC := bA.trans (bB.mono bA.size)
  have XA := hide xA
  have XB := hide xB
  have BC := hide bC
  clear p1 h1 p2 h2 xA xB bA bB bC
  obtain ⟨c0, c1⟩ := And.intro XA.out.c0 XA.out.c1
  obtain ⟨d0, d1⟩ := And.intro XB.out.c0 XB.out.c1
  go_enter Try.func18, Try.ntmps18
  go_wp2_with fail
  refine (sameTexts9_same _ _ P _ (P1.out.below BC.out) (P2.out.below BC.out)).mono ?_
  rintro e w1 ⟨rfl, q⟩
  have X1 := hide (boxed2_below XA.out q)
  have Y1 := hide (boxed2_below XB.out q)
  have B1 := hide (BC.out.trans (q.mono BC.out.size))
  clear q XA XB BC c0 c1 d0 d1
  obtain ⟨c0, c1⟩ := And.intro X1.out.c0 X1.out.c1
  obtain ⟨d0, d1⟩ := And.intro Y1.out.c0 Y1.out.c1
  go_wp2_with fail
  refine (sameLists9_same _ _ H _ (H1.out.below B1.out) (H2.out.below B1.out)).mono ?_
  rintro e w2 ⟨rfl, q⟩
  have B2 := hide (B1.out.trans (q.mono B1.out.size))
  clear q X1 Y1 B1 c0 c1 d0 d1
  go_wp2
  go_ret
  exact ⟨rfl, B2.out⟩

end Go.Proofs.Ythmijjcddjlebaa

namespace Go.Proofs.Ythmijjcddjlebaa
open Go.RowKit
set_option linter.unusedVariables false

theorem lastC_end (l : List Nat) : lastC l l.length = l.length := by
  cases h : l.length with
  | zero => rfl
  | succ n => exact lastC_yes (by unfold cutAt; rw [h]; simp)
theorem pairs_join (l : List Nat) (k : Nat) (hk : k ≤ l.length) : (pairsN l k).flatMap (fun p => (l.take p.2).drop p.1) = l.take (lastC l k) := by
  induction k with
  | zero => rfl
  | succ k ih =>
    have hl := lastC_le l k
    cases h : cutAt l (lastC l k) (k + 1)
    · rw [pairsN_no h, lastC_no h, ih (by omega)]
    · rw [pairsN_yes h, lastC_yes h, List.flatMap_append, ih (by omega)]
      simp only [List.flatMap_cons, List.flatMap_nil, List.append_nil]
      have e : l.take (lastC l k) = (l.take (k + 1)).take (lastC l k) := by rw [List.take_take, Nat.min_eq_left (by omega)]
      rw [e, List.take_append_drop]
theorem chunks_join (s : ByteArray) : fl9 (chunksT s) = bs s := by
  have := pairs_join (bs s) (bs s).length (Nat.le_refl _)
  rw [lastC_end, List.take_length, bs_length] at this
  unfold fl9 chunksT
  rw [List.flatMap_map]
  refine Eq.trans ?_ this
  congr 1
  funext p
  exact bs_mid9 s p.1 p.2
theorem gap_lt (l : List Nat) (k : Nat) : k - lastC l k < 20 := by
  induction k with
  | zero => simp [lastC, cutsN]
  | succ k ih =>
    cases h : cutAt l (lastC l k) (k + 1)
    · rw [lastC_no h]
      have h20 : ¬ (k + 1 - lastC l k = 20) := by
        intro e
        unfold cutAt at h
        simp [e] at h
      omega
    · rw [lastC_yes h]; omega
theorem pair_facts (l : List Nat) (k : Nat) : ∀ p ∈ pairsN l k, p.1 < p.2 ∧ p.2 ≤ k ∧ p.2 - p.1 ≤ 20 ∧ (p.2 = l.length ∨ 4 ≤ p.2 - p.1) := by
  induction k with
  | zero => intro p hp; simp [pairsN] at hp
  | succ k ih =>
    intro p hp
    cases h : cutAt l (lastC l k) (k + 1)
    · rw [pairsN_no h] at hp
      have := ih p hp
      omega
    · rw [pairsN_yes h, List.mem_append] at hp
      rcases hp with hp | hp
      · have := ih p hp
        omega
      · simp at hp
        subst hp
        have h1 := lastC_le l k
        have h2 := gap_lt l k
        have h3 : k + 1 = l.length ∨ 4 ≤ k + 1 - lastC l k := by
          unfold cutAt at h
          simp at h
          omega
        simp only
        omega
theorem count_le (l : List Nat) : ∀ k, k < l.length → 4 * (pairsN l k).length ≤ lastC l k := by
  intro k
  induction k with
  | zero => intro _; simp [pairsN]
  | succ k ih =>
    intro hk
    have h0 := ih (by omega)
    have h1 := lastC_le l k
    cases h : cutAt l (lastC l k) (k + 1)
    · rw [pairsN_no h, lastC_no h]; exact h0
    · rw [pairsN_yes h, lastC_yes h, List.length_append]
      have h3 : 4 ≤ k + 1 - lastC l k := by
        unfold cutAt at h
        simp at h
        omega
      simp
      omega
theorem count_end (l : List Nat) : 4 * (pairsN l l.length).length ≤ l.length + 4 := by
  cases h : l.length with
  | zero => simp [pairsN]
  | succ n =>
    have h0 := count_le l n (by omega)
    have h1 := lastC_le l n
    cases hc : cutAt l (lastC l n) (n + 1)
    · rw [pairsN_no hc]; omega
    · rw [pairsN_yes hc, List.length_append]; simp; omega
theorem chunks_ok (s : ByteArray) (h : s.size ≤ 300) : jchR (chunksT s) = (s, true) := by
  have hj := chunks_join s
  unfold jchR
  rw [if_pos]
  · rw [hj, ofN_bs]
  · constructor
    · have := count_end (bs s)
      rw [bs_length] at this
      have e : (chunksT s).length = (pairsN (bs s) s.size).length := by unfold chunksT; rw [List.length_map]
      omega
    · rw [hj, bs_length]; exact h
theorem chunk_sizes (s : ByteArray) (i : Nat) (h : i < (chunksT s).length) : ((chunksT s).getD i ⟨#[]⟩).size ≤ 20 ∧ (i + 1 < (chunksT s).length → 4 ≤ ((chunksT s).getD i ⟨#[]⟩).size) := by
  have hl : i < (pairsN (bs s) s.size).length := by unfold chunksT at h; rwa [List.length_map] at h
  obtain ⟨p, hp⟩ : ∃ p, (pairsN (bs s) s.size)[i]? = some p := ⟨_, List.getElem?_eq_getElem hl⟩
  have e : (chunksT s).getD i ⟨#[]⟩ = s.extract p.1 p.2 := by rw [List.getD_eq_getElem?_getD, chunksT_at hp]; rfl
  obtain ⟨f1, f2, f3, f4⟩ := pair_facts (bs s) s.size p (List.mem_of_getElem? hp)
  rw [e, extract_size9 s p.1 p.2 f2]
  refine ⟨f3, fun h' => ?_⟩
  have hl' : i + 1 < (pairsN (bs s) s.size).length := by unfold chunksT at h'; rwa [List.length_map] at h'
  obtain ⟨q, hq⟩ : ∃ q, (pairsN (bs s) s.size)[i + 1]? = some q := ⟨_, List.getElem?_eq_getElem hl'⟩
  have g1 := pairsN_fst (bs s) s.size (i + 1) q hq
  have g2 := pair_facts (bs s) s.size q (List.mem_of_getElem? hq)
  have hc : (cutsN (bs s) s.size)[i]? = some p.2 := by rw [← pairsN_cuts, List.getElem?_map, hp]; rfl
  rw [List.getD_eq_getElem?_getD, List.getElem?_cons_succ, hc] at g1
  simp only [Option.getD_some] at g1
  rw [bs_length] at f4
  omega

/-! From a cut on. -/
theorem cutsN_sorted (l : List Nat) (k : Nat) : (cutsN l k).Pairwise (· < ·) := by
  induction k with
  | zero => exact List.Pairwise.nil
  | succ k ih =>
    cases h : cutAt l (lastC l k) (k + 1)
    · rw [cutsN_no h]; exact ih
    · rw [cutsN_yes h]
      refine List.pairwise_append.2 ⟨ih, List.pairwise_singleton _ _, fun a ha b hb => ?_⟩
      simp at hb
      have := cutsN_le l k a ha
      omega
theorem cutsN_mem (l : List Nat) (k : Nat) : ∀ c ∈ cutsN l k, ∃ m, c = m + 1 ∧ m < k ∧ cutAt l (lastC l m) (m + 1) = true := by
  induction k with
  | zero => intro c hc; simp [cutsN] at hc
  | succ k ih =>
    intro c hc
    cases h : cutAt l (lastC l k) (k + 1)
    · rw [cutsN_no h] at hc
      obtain ⟨m, h1, h2, h3⟩ := ih c hc
      exact ⟨m, h1, by omega, h3⟩
    · rw [cutsN_yes h, List.mem_append] at hc
      rcases hc with hc | hc
      · obtain ⟨m, h1, h2, h3⟩ := ih c hc
        exact ⟨m, h1, by omega, h3⟩
      · simp at hc
        exact ⟨k, hc, by omega, h⟩
theorem wnd_drop (l : List Nat) (a j : Nat) (h : 4 ≤ j) : wnd l (a + j) = wnd (l.drop a) j := by
  unfold wnd
  rw [show a + j - 4 = a + (j - 4) by omega, ← List.drop_drop, List.drop_take, Nat.add_sub_cancel_left]
theorem cutAt_drop (l : List Nat) (a b j : Nat) (ha : a ≤ l.length) : cutAt l (a + b) (a + j) = cutAt (l.drop a) b j := by
  unfold cutAt
  rw [List.length_drop, show a + j - (a + b) = j - b by omega]
  have e1 : (a + j == l.length) = (j == l.length - a) := by rw [Bool.eq_iff_iff]; simp; omega
  rw [e1]
  by_cases h4 : 4 ≤ j - b
  · rw [wnd_drop l a j (by omega)]
  · simp [h4]
theorem cuts_drop (l : List Nat) (a : Nat) (ha : a ≤ l.length) (hc : lastC l a = a) : ∀ j, cutsN l (a + j) = cutsN l a ++ (cutsN (l.drop a) j).map (a + ·) ∧ lastC l (a + j) = a + lastC (l.drop a) j := by
  intro j
  induction j with
  | zero => exact ⟨by simp [cutsN], by rw [lastC_zero]; exact hc⟩
  | succ j ih =>
    obtain ⟨h1, h2⟩ := ih
    have e := cutAt_drop l a (lastC (l.drop a) j) (j + 1) ha
    rw [← Nat.add_assoc] at e ⊢
    cases h : cutAt (l.drop a) (lastC (l.drop a) j) (j + 1)
    · have h' : cutAt l (lastC l (a + j)) (a + j + 1) = false := by rw [h2, e, h]
      rw [cutsN_no h', lastC_no h', cutsN_no h, lastC_no h]
      exact ⟨h1, h2⟩
    · have h' : cutAt l (lastC l (a + j)) (a + j + 1) = true := by rw [h2, e, h]
      rw [cutsN_yes h', lastC_yes h', cutsN_yes h, lastC_yes h, h1, List.map_append, List.append_assoc]
      exact ⟨rfl, by omega⟩
theorem rest_cuts (s : ByteArray) (k : Nat) (h : k < (cutsN (bs s) s.size).length) : ∃ a, (cutsN (bs s) s.size)[k]? = some a ∧ a ≤ s.size ∧ cutsN (bs s) s.size = cutsN (bs s) a ++ (cutsN ((bs s).drop a) (s.size - a)).map (a + ·) ∧ (cutsN (bs s) a).length = k + 1 := by
  obtain ⟨a, hk⟩ : ∃ a, (cutsN (bs s) s.size)[k]? = some a := ⟨_, List.getElem?_eq_getElem h⟩
  obtain ⟨m, rfl, hm, hct⟩ := cutsN_mem (bs s) s.size a (List.mem_of_getElem? hk)
  have hl : lastC (bs s) (m + 1) = m + 1 := lastC_yes hct
  have h1 := (cuts_drop (bs s) (m + 1) (by rw [bs_length]; omega) hl (s.size - (m + 1))).1
  rw [show m + 1 + (s.size - (m + 1)) = s.size by omega] at h1
  refine ⟨m + 1, hk, by omega, h1, ?_⟩
  have h2 := cutsN_yes hct
  have hat : (cutsN (bs s) s.size)[(cutsN (bs s) m).length]? = some (m + 1) := by
    rw [h1, h2, List.append_assoc, List.getElem?_append_right (Nat.le_refl _), Nat.sub_self]
    rfl
  rw [h2, List.length_append]
  have hs := List.pairwise_iff_getElem.1 (cutsN_sorted (bs s) s.size)
  obtain ⟨i1, e1⟩ := List.getElem?_eq_some_iff.1 hk
  obtain ⟨i2, e2⟩ := List.getElem?_eq_some_iff.1 hat
  rcases Nat.lt_trichotomy k (cutsN (bs s) m).length with c | c | c
  · have := hs k _ i1 i2 c; omega
  · rw [← c]; rfl
  · have := hs _ k i2 i1 c; omega
/-- What the law asks of the cuts behind a cut. -/
theorem rest_ok (s : ByteArray) (k : Nat) (h : k < (cutsI s).length) : ∃ a : Nat, (cutsI s).getD k 0 = (a : Int) ∧ a ≤ s.size ∧ (cutsI (s.extract a s.size)).length = (cutsI s).length - k - 1 ∧ ∀ i, i < (cutsI (s.extract a s.size)).length → (cutsI (s.extract a s.size)).getD i 0 + (a : Int) = (cutsI s).getD (k + 1 + i) 0 := by
  have hl : (cutsI s).length = (cutsN (bs s) s.size).length := by unfold cutsI; rw [List.length_map]
  obtain ⟨a, h1, h2, h3, h4⟩ := rest_cuts s k (by omega)
  have hb : bs (s.extract a s.size) = (bs s).drop a := by rw [bs_mid9, bs_take_all]
  have hsz := extract_size9 s a s.size (Nat.le_refl _)
  have hr : (cutsI (s.extract a s.size)).length = (cutsN ((bs s).drop a) (s.size - a)).length := by unfold cutsI; rw [List.length_map, hb, hsz]
  have hlen := congrArg List.length h3
  rw [List.length_append, List.length_map, h4] at hlen
  refine ⟨a, ?_, h2, by omega, fun i hi => ?_⟩
  · unfold cutsI
    rw [List.getD_eq_getElem?_getD, List.getElem?_map, h1]
    rfl
  · have hi' : i < (cutsN ((bs s).drop a) (s.size - a)).length := by omega
    unfold cutsI
    rw [List.getD_eq_getElem?_getD, List.getD_eq_getElem?_getD, List.getElem?_map, List.getElem?_map, hb, hsz, h3, List.getElem?_append_right (by omega), h4, show k + 1 + i - (k + 1) = i by omega, List.getElem?_map, List.getElem?_eq_getElem hi']
    simp
    omega
end Go.Proofs.Ythmijjcddjlebaa

namespace Go.Proofs.Ythmijjcddjlebaa
open Go.RowKit
set_option linter.unusedVariables false

theorem pairs_few (l : List Nat) (h : l.length ≤ 300) : (pairsN l l.length).length ≤ 75 := by
  cases hl : l.length with
  | zero => exact Nat.zero_le _
  | succ k =>
    have h1 := count_le l k (by omega)
    have h2 := lastC_le l k
    have h3 : (pairsN l (k + 1)).length ≤ (pairsN l k).length + 1 := by
      cases hc : cutAt l (lastC l k) (k + 1) with
      | true => rw [pairsN_yes hc]; simp
      | false => rw [pairsN_no hc]; omega
    omega
theorem bs_len9 (s : ByteArray) : (bs s).length = s.size := by simp [bs]
theorem chunksT_few (s : ByteArray) (h : s.size ≤ 300) : (chunksT s).length ≤ 75 := by
  unfold chunksT
  rw [List.length_map]
  have := pairs_few (bs s) (by rw [bs_len9]; exact h)
  rwa [bs_len9] at this
theorem chunksT_ok (s : ByteArray) : ∀ t ∈ chunksT s, chunkOk t := by
  intro t ht
  unfold chunksT at ht
  obtain ⟨p, hp, rfl⟩ := List.mem_map.1 ht
  have h1 := pair_facts (bs s) s.size p hp
  have h2 : (s.extract p.1 p.2).size = p.2 - p.1 := by
    rw [ByteArray.size_extract]
    omega
  refine ⟨fun e => ?_, by rw [h2]; omega⟩
  rw [e] at h2
  have : (⟨#[]⟩ : ByteArray).size = 0 := rfl
  omega
theorem ix9_at {C : List ByteArray} {t : ByteArray} (h : t ∈ C) : C.getD (ix9 C t) ⟨#[]⟩ = t := by
  have hl := (ix9_mem C t).2 h
  unfold ix9 at hl ⊢
  have := List.findIdx_getElem (w := hl)
  rw [List.getD_eq_getElem?_getD, List.getElem?_eq_getElem hl]
  simpa using this
theorem add9_pre (C : List ByteArray) (t : ByteArray) : C <+: add9 C t := by
  unfold add9
  split
  · exact List.prefix_rfl
  · exact List.prefix_append _ _
theorem add9_in (C : List ByteArray) (t : ByteArray) : t ∈ add9 C t := by
  by_cases h : t ∈ C
  · rw [add9_old h]; exact h
  · rw [add9_new h]; simp
theorem pre_getD {C C' : List ByteArray} (h : C <+: C') (i : Nat) (hi : i < C.length) : C'.getD i ⟨#[]⟩ = C.getD i ⟨#[]⟩ := by
  obtain ⟨r, rfl⟩ := h
  simp only [List.getD_eq_getElem?_getD]; rw [List.getElem?_append_left hi]
theorem add9_ix (C : List ByteArray) (t : ByteArray) : (add9 C t).getD (ix9 C t) ⟨#[]⟩ = t ∧ ix9 C t < (add9 C t).length := by
  by_cases h : t ∈ C
  · rw [add9_old h]; exact ⟨ix9_at h, (ix9_mem C t).2 h⟩
  · rw [add9_new h, ix9_new h]
    refine ⟨?_, by simp⟩
    rw [List.getD_eq_getElem?_getD, List.getElem?_append_right (Nat.le_refl _)]
    simp
theorem add9_unlike {C : List ByteArray} {t : ByteArray} (h : C.Nodup) : (add9 C t).Nodup := by
  by_cases hm : t ∈ C
  · rw [add9_old hm]; exact h
  · rw [add9_new hm, List.nodup_append]
    exact ⟨h, by simp, fun a ha b hb e => hm (by simp at hb; rw [← hb, ← e]; exact ha)⟩
theorem add9_fl (C : List ByteArray) (t : ByteArray) : (fl9 (add9 C t)).length ≤ (fl9 C).length + (bs t).length := by
  by_cases h : t ∈ C
  · rw [add9_old h]; omega
  · rw [add9_new h]; simp [fl9]
theorem fl9_cons (t : ByteArray) (ts : List ByteArray) : fl9 (t :: ts) = bs t ++ fl9 ts := by simp [fl9]
/-- What the numbers of some chunks are. -/
theorem foldU_all9 : ∀ (ts : List ByteArray) (us : List Int) (C : List ByteArray), C.Nodup →
    ∃ (more : List Int) (C' : List ByteArray), ts.foldl stepU (us, C) = (us ++ more, C') ∧ C <+: C' ∧ C'.Nodup ∧ pick9 C' more = ts ∧ (∀ x ∈ more, 0 ≤ x ∧ x < (C'.length : Int)) ∧ (∀ t ∈ ts, t ∈ C') ∧ (∀ t ∈ C', t ∈ C ∨ t ∈ ts) ∧ C'.length ≤ C.length + ts.length ∧ (fl9 C').length ≤ (fl9 C).length + (fl9 ts).length
  | [], us, C, h => ⟨[], C, by simp, List.prefix_rfl, h, rfl, fun x hx => by simp at hx, fun t ht => by simp at ht, fun t ht => .inl ht, by simp, by simp [fl9]⟩
  | t :: ts, us, C, h => by
    obtain ⟨more, C', e, hp, hn, hk, hr, hin, hof, hl, hf⟩ := foldU_all9 ts (us ++ [((ix9 C t : Nat) : Int)]) (add9 C t) (add9_unlike h)
    have hx := add9_ix C t
    have hlen := hp.length_le
    refine ⟨((ix9 C t : Nat) : Int) :: more, C', ?_, (add9_pre C t).trans hp, hn, ?_, ?_, ?_, ?_, ?_, ?_⟩
    · show ts.foldl stepU (stepU (us, C) t) = _
      rw [show stepU (us, C) t = (us ++ [((ix9 C t : Nat) : Int)], add9 C t) from rfl, e]
      simp
    · show C'.getD ((ix9 C t : Nat) : Int).toNat ⟨#[]⟩ :: pick9 C' more = t :: ts
      rw [hk, Int.toNat_natCast, pre_getD hp _ hx.2, hx.1]
    · intro x hx'
      rcases List.mem_cons.1 hx' with rfl | hx'
      · have := hx.2; omega
      · exact hr x hx'
    · intro u hu
      rcases List.mem_cons.1 hu with rfl | hu
      · exact hp.subset (add9_in C u)
      · exact hin u hu
    · intro u hu
      rcases hof u hu with h1 | h1
      · by_cases hm : t ∈ C
        · rw [add9_old hm] at h1; exact .inl h1
        · rw [add9_new hm] at h1
          rcases List.mem_append.1 h1 with h2 | h2
          · exact .inl h2
          · right; simp at h2; rw [h2]; exact List.mem_cons_self
      · exact .inr (List.mem_cons_of_mem _ h1)
    · have := add9_len C t
      simp only [List.length_cons]
      omega
    · have := add9_fl C t
      rw [fl9_cons, List.length_append]
      omega
/-- What a recipe of texts is. -/
structure Rec9 (C : List ByteArray) (U : List (List Int)) (xs : List ByteArray) : Prop where
  un : C.Nodup
  ch : ∀ t ∈ C, chunkOk t
  len : U.length = xs.length
  use : ∀ i, i < xs.length → pick9 C (U.getD i []) = chunksT (xs.getD i ⟨#[]⟩) ∧ ∀ x ∈ U.getD i [], 0 ≤ x ∧ x < (C.length : Int)
  all : ∀ i, i < xs.length → ∀ t ∈ chunksT (xs.getD i ⟨#[]⟩), t ∈ C
  cnt : C.length ≤ 75 * xs.length
  sum : (fl9 C).length ≤ (fl9 xs).length
theorem pick9_pre {C C' : List ByteArray} (h : C <+: C') (xs : List Int) (hx : ∀ x ∈ xs, 0 ≤ x ∧ x < (C.length : Int)) : pick9 C' xs = pick9 C xs := by
  unfold pick9
  refine List.map_congr_left fun x hx' => ?_
  exact pre_getD h _ (by have := hx x hx'; omega)
theorem rec9_snoc {C : List ByteArray} {U : List (List Int)} {xs : List ByteArray} (h : Rec9 C U xs) (s : ByteArray) (hs : s.size ≤ 300) : Rec9 (stepD (C, U) s).1 (stepD (C, U) s).2 (xs ++ [s]) := by
  obtain ⟨more, C', e, hp, hn, hk, hr, hin, hof, hl, hf⟩ := foldU_all9 (chunksT s) [] C h.un
  have e1 : useF C (chunksT s) = (more, C') := by rw [useF, e]; rfl
  have e2 : stepD (C, U) s = (C', U ++ [more]) := by unfold stepD; simp only [e1]
  rw [e2]
  show Rec9 C' (U ++ [more]) (xs ++ [s])
  have hlen := hp.length_le
  have gl : ∀ i, i < xs.length → (U ++ [more]).getD i [] = U.getD i [] ∧ (xs ++ [s]).getD i ⟨#[]⟩ = xs.getD i ⟨#[]⟩ := fun i hi => by
    simp only [List.getD_eq_getElem?_getD]
    rw [List.getElem?_append_left (by rw [h.len]; exact hi), List.getElem?_append_left hi]
    exact ⟨rfl, rfl⟩
  have gr : (U ++ [more]).getD xs.length [] = more ∧ (xs ++ [s]).getD xs.length ⟨#[]⟩ = s := by
    simp only [List.getD_eq_getElem?_getD]
    rw [List.getElem?_append_right (by rw [h.len]; exact Nat.le_refl _), List.getElem?_append_right (Nat.le_refl _), h.len, Nat.sub_self]
    exact ⟨rfl, rfl⟩
  refine ⟨hn, fun t ht => ?_, by simp [h.len], fun i hi => ?_, fun i hi => ?_, ?_, ?_⟩
  · rcases hof t ht with h1 | h1
    · exact h.ch t h1
    · exact chunksT_ok s t h1
  · rw [List.length_append, List.length_singleton] at hi
    by_cases hx : i < xs.length
    · rw [(gl i hx).1, (gl i hx).2]
      have h1 := h.use i hx
      refine ⟨by rw [pick9_pre hp _ h1.2]; exact h1.1, fun x hx' => ?_⟩
      have := h1.2 x hx'
      omega
    · obtain rfl : i = xs.length := by omega
      rw [gr.1, gr.2]
      exact ⟨hk, hr⟩
  · rw [List.length_append, List.length_singleton] at hi
    by_cases hx : i < xs.length
    · rw [(gl i hx).2]
      exact fun t ht => hp.subset (h.all i hx t ht)
    · obtain rfl : i = xs.length := by omega
      rw [gr.2]
      exact hin
  · have h1 := h.cnt
    have h2 := chunksT_few s hs
    simp only [List.length_append, List.length_singleton]
    omega
  · have h1 := h.sum
    have h2 := chunks_join s
    rw [h2] at hf
    have h3 : fl9 (xs ++ [s]) = fl9 xs ++ bs s := by simp [fl9]
    rw [h3, List.length_append]
    omega
theorem rec9_of (xs : List ByteArray) (h : ∀ i, i < xs.length → (xs.getD i ⟨#[]⟩).size ≤ 300) : ∀ k, k ≤ xs.length → Rec9 (dedF (xs.take k)).1 (dedF (xs.take k)).2 (xs.take k)
  | 0, _ => by
    rw [List.take_zero]
    exact ⟨List.nodup_nil, fun t ht => by simp [dedF] at ht, rfl, fun i hi => by simp at hi, fun i hi => by simp at hi, by simp [dedF], by simp [dedF, fl9]⟩
  | k + 1, hk => by
    have h1 := rec9_of xs h k (by omega)
    have h2 := rec9_snoc h1 (xs.getD k ⟨#[]⟩) (h k (by omega))
    rw [dedF_snoc xs k (by omega)]
    have h3 : xs.take (k + 1) = xs.take k ++ [xs.getD k ⟨#[]⟩] := by
      rw [List.take_succ_eq_append_getElem (by omega), List.getD_eq_getElem?_getD, List.getElem?_eq_getElem (by omega)]; rfl
    rw [h3]
    exact h2
theorem rec9_all (xs : List ByteArray) (h : dedOk xs) : Rec9 (dedF xs).1 (dedF xs).2 xs := by
  have := rec9_of xs h.2 xs.length (Nat.le_refl _)
  rwa [List.take_length] at this
theorem nodup_unlike {C : List ByteArray} (h : C.Nodup) : unlike9 C := by
  intro j hj i hi e
  have hi' : i < C.length := by omega
  simp only [List.getD_eq_getElem?_getD, List.getElem?_eq_getElem hj, List.getElem?_eq_getElem hi', Option.getD_some] at e
  have := (List.getElem_inj h).1 e
  omega
theorem mem9 (l : List Int) (j : Nat) (h : j < l.length) : l.getD j 0 ∈ l := by
  rw [List.getD_eq_getElem?_getD, List.getElem?_eq_getElem h]
  exact List.getElem_mem _
theorem rec9_good {C : List ByteArray} {U : List (List Int)} {xs : List ByteArray} (h : Rec9 C U xs) (h8 : xs.length ≤ 8) (hs : ∀ i, i < xs.length → (xs.getD i ⟨#[]⟩).size ≤ 300) : goodRec C U := by
  refine ⟨by rw [h.len]; exact h8, by have := h.cnt; omega, fun i hi => h.ch _ ?_, nodup_unlike h.un, fun i hi => ?_⟩
  · rw [List.getD_eq_getElem?_getD, List.getElem?_eq_getElem hi]; exact List.getElem_mem _
  · rw [h.len] at hi
    have h1 := h.use i hi
    have h2 : (U.getD i []).length = (chunksT (xs.getD i ⟨#[]⟩)).length := by rw [← h1.1]; simp [pick9]
    have h3 := chunksT_few _ (hs i hi)
    exact ⟨by omega, fun j hj => h1.2 _ (mem9 _ j hj)⟩
/-- A text comes back. -/
theorem reb_back (xs : List ByteArray) (h : dedOk xs) (i : Nat) (hi : i < xs.length) : rebR (dedF xs).1 (dedF xs).2 (i : Int) = (xs.getD i ⟨#[]⟩, true) := by
  have r := rec9_all xs h
  have g := rec9_good r h.1 h.2
  unfold rebR
  rw [if_pos ⟨g, by omega, by rw [r.len]; omega⟩, Int.toNat_natCast, (r.use i hi).1]
  exact chunks_ok _ (h.2 i hi)
/-- Texts that are there bring no chunk. -/
theorem foldU_old : ∀ (ts : List ByteArray) (us : List Int) (C : List ByteArray), (∀ t ∈ ts, t ∈ C) → (ts.foldl stepU (us, C)).2 = C
  | [], us, C, _ => rfl
  | t :: ts, us, C, h => by
    show (ts.foldl stepU (stepU (us, C) t)).2 = C
    rw [show stepU (us, C) t = (us ++ [((ix9 C t : Nat) : Int)], add9 C t) from rfl, add9_old (h t List.mem_cons_self)]
    exact foldU_old ts _ C (fun u hu => h u (List.mem_cons_of_mem _ hu))
theorem foldD_old : ∀ (ss : List ByteArray) (C : List ByteArray) (U : List (List Int)), (∀ s ∈ ss, ∀ t ∈ chunksT s, t ∈ C) → (ss.foldl stepD (C, U)).1 = C
  | [], C, U, _ => rfl
  | s :: ss, C, U, h => by
    have e : (stepD (C, U) s).1 = C := foldU_old (chunksT s) [] C (h s List.mem_cons_self)
    show (ss.foldl stepD (stepD (C, U) s)).1 = C
    rw [show stepD (C, U) s = ((stepD (C, U) s).1, (stepD (C, U) s).2) from rfl, e]
    exact foldD_old ss C _ (fun u hu => h u (List.mem_cons_of_mem _ hu))
theorem ded_twice (xs : List ByteArray) (h : dedOk xs) : (dedF (xs ++ xs)).1 = (dedF xs).1 := by
  have r := rec9_all xs h
  show ((xs ++ xs).foldl stepD ([], [])).1 = _
  rw [List.foldl_append]
  refine foldD_old xs (dedF xs).1 (dedF xs).2 (fun s hs t ht => ?_)
  obtain ⟨i, hi, e⟩ := List.getElem_of_mem hs
  refine r.all i hi t ?_
  rw [List.getD_eq_getElem?_getD, List.getElem?_eq_getElem hi, Option.getD_some, e]
  exact ht
theorem ded_less (xs : List ByteArray) (h : dedOk xs) : (fl9 (dedF xs).1).length ≤ (fl9 xs).length := (rec9_all xs h).sum
end Go.Proofs.Ythmijjcddjlebaa

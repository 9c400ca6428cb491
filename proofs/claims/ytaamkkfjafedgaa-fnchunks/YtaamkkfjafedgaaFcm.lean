/-
  What FnChunks asks of the mathematics: a text comes back from its chunks; none is too long, or too short but the last; from any cut on a text is cut as if it began there. No condition but that the text has at most 300 bytes where it is said.
-/
import Derived.Test.YtaamkkfjafedgaaChs
import Derived.Test.YtaamkkfjafedgaaJch
namespace Go.Proofs.Ytaamkkfjafedgaa
open Go.RowKit
set_option linter.unusedVariables false

theorem lastC_end (l : List Nat) : lastC l l.length = l.length := by
  cases h : l.length with
  | zero => rfl
  | succ n => exact lastC_yes (by unfold cutAt; rw [h]; simp)
theorem pairs_join (l : List Nat) (k : Nat) (hk : k ≤ l.length) : (pairsN l k).flatMap (fun p => (l.take p.2).drop p.1) = l.take (lastC l k) := by
  induction k with
  | zero => rfl
  | succ k ih =>
    have hl := lastC_le l k
    cases h : cutAt l (lastC l k) (k + 1)
    · rw [pairsN_no h, lastC_no h, ih (by omega)]
    · rw [pairsN_yes h, lastC_yes h, List.flatMap_append, ih (by omega)]
      simp only [List.flatMap_cons, List.flatMap_nil, List.append_nil]
      have e : l.take (lastC l k) = (l.take (k + 1)).take (lastC l k) := by rw [List.take_take, Nat.min_eq_left (by omega)]
      rw [e, List.take_append_drop]
theorem chunks_join (s : ByteArray) : fl9 (chunksT s) = bs s := by
  have := pairs_join (bs s) (bs s).length (Nat.le_refl _)
  rw [lastC_end, List.take_length, bs_length] at this
  unfold fl9 chunksT
  rw [List.flatMap_map]
  refine Eq.trans ?_ this
  congr 1
  funext p
  exact bs_mid9 s p.1 p.2
theorem gap_lt (l : List Nat) (k : Nat) : k - lastC l k < 20 := by
  induction k with
  | zero => simp [lastC, cutsN]
  | succ k ih =>
    cases h : cutAt l (lastC l k) (k + 1)
    · rw [lastC_no h]
      have h20 : ¬ (k + 1 - lastC l k = 20) := by
        intro e
        unfold cutAt at h
        simp [e] at h
      omega
    · rw [lastC_yes h]; omega
theorem pair_facts (l : List Nat) (k : Nat) : ∀ p ∈ pairsN l k, p.1 < p.2 ∧ p.2 ≤ k ∧ p.2 - p.1 ≤ 20 ∧ (p.2 = l.length ∨ 4 ≤ p.2 - p.1) := by
  induction k with
  | zero => intro p hp; simp [pairsN] at hp
  | succ k ih =>
    intro p hp
    cases h : cutAt l (lastC l k) (k + 1)
    · rw [pairsN_no h] at hp
      have := ih p hp
      omega
    · rw [pairsN_yes h, List.mem_append] at hp
      rcases hp with hp | hp
      · have := ih p hp
        omega
      · simp at hp
        subst hp
        have h1 := lastC_le l k
        have h2 := gap_lt l k
        have h3 : k + 1 = l.length ∨ 4 ≤ k + 1 - lastC l k := by
          unfold cutAt at h
          simp at h
          omega
        simp only
        omega
theorem count_le (l : List Nat) : ∀ k, k < l.length → 4 * (pairsN l k).length ≤ lastC l k := by
  intro k
  induction k with
  | zero => intro _; simp [pairsN]
  | succ k ih =>
    intro hk
    have h0 := ih (by omega)
    have h1 := lastC_le l k
    cases h : cutAt l (lastC l k) (k + 1)
    · rw [pairsN_no h, lastC_no h]; exact h0
    · rw [pairsN_yes h, lastC_yes h, List.length_append]
      have h3 : 4 ≤ k + 1 - lastC l k := by
        unfold cutAt at h
        simp at h
        omega
      simp
      omega
theorem count_end (l : List Nat) : 4 * (pairsN l l.length).length ≤ l.length + 4 := by
  cases h : l.length with
  | zero => simp [pairsN]
  | succ n =>
    have h0 := count_le l n (by omega)
    have h1 := lastC_le l n
    cases hc : cutAt l (lastC l n) (n + 1)
    · rw [pairsN_no hc]; omega
    · rw [pairsN_yes hc, List.length_append]; simp; omega
theorem chunks_ok (s : ByteArray) (h : s.size ≤ 300) : jchR (chunksT s) = (s, true) := by
  have hj := chunks_join s
  unfold jchR
  rw [if_pos]
  · rw [hj, ofN_bs]
  · constructor
    · have := count_end (bs s)
      rw [bs_length] at this
      have e : (chunksT s).length = (pairsN (bs s) s.size).length := by unfold chunksT; rw [List.length_map]
      omega
    · rw [hj, bs_length]; exact h
theorem chunk_sizes (s : ByteArray) (i : Nat) (h : i < (chunksT s).length) : ((chunksT s).getD i ⟨#[]⟩).size ≤ 20 ∧ (i + 1 < (chunksT s).length → 4 ≤ ((chunksT s).getD i ⟨#[]⟩).size) := by
  have hl : i < (pairsN (bs s) s.size).length := by unfold chunksT at h; rwa [List.length_map] at h
  obtain ⟨p, hp⟩ : ∃ p, (pairsN (bs s) s.size)[i]? = some p := ⟨_, List.getElem?_eq_getElem hl⟩
  have e : (chunksT s).getD i ⟨#[]⟩ = s.extract p.1 p.2 := by rw [List.getD_eq_getElem?_getD, chunksT_at hp]; rfl
  obtain ⟨f1, f2, f3, f4⟩ := pair_facts (bs s) s.size p (List.mem_of_getElem? hp)
  rw [e, extract_size9 s p.1 p.2 f2]
  refine ⟨f3, fun h' => ?_⟩
  have hl' : i + 1 < (pairsN (bs s) s.size).length := by unfold chunksT at h'; rwa [List.length_map] at h'
  obtain ⟨q, hq⟩ : ∃ q, (pairsN (bs s) s.size)[i + 1]? = some q := ⟨_, List.getElem?_eq_getElem hl'⟩
  have g1 := pairsN_fst (bs s) s.size (i + 1) q hq
  have g2 := pair_facts (bs s) s.size q (List.mem_of_getElem? hq)
  have hc : (cutsN (bs s) s.size)[i]? = some p.2 := by rw [← pairsN_cuts, List.getElem?_map, hp]; rfl
  rw [List.getD_eq_getElem?_getD, List.getElem?_cons_succ, hc] at g1
  simp only [Option.getD_some] at g1
  rw [bs_length] at f4
  omega

/-! From a cut on. -/
theorem cutsN_sorted (l : List Nat) (k : Nat) : (cutsN l k).Pairwise (· < ·) := by
  induction k with
  | zero => exact List.Pairwise.nil
  | succ k ih =>
    cases h : cutAt l (lastC l k) (k + 1)
    · rw [cutsN_no h]; exact ih
    · rw [cutsN_yes h]
      refine List.pairwise_append.2 ⟨ih, List.pairwise_singleton _ _, fun a ha b hb => ?_⟩
      simp at hb
      have := cutsN_le l k a ha
      omega
theorem cutsN_mem (l : List Nat) (k : Nat) : ∀ c ∈ cutsN l k, ∃ m, c = m + 1 ∧ m < k ∧ cutAt l (lastC l m) (m + 1) = true := by
  induction k with
  | zero => intro c hc; simp [cutsN] at hc
  | succ k ih =>
    intro c hc
    cases h : cutAt l (lastC l k) (k + 1)
    · rw [cutsN_no h] at hc
      obtain ⟨m, h1, h2, h3⟩ := ih c hc
      exact ⟨m, h1, by omega, h3⟩
    · rw [cutsN_yes h, List.mem_append] at hc
      rcases hc with hc | hc
      · obtain ⟨m, h1, h2, h3⟩ := ih c hc
        exact ⟨m, h1, by omega, h3⟩
      · simp at hc
        exact ⟨k, hc, by omega, h⟩
theorem wnd_drop (l : List Nat) (a j : Nat) (h : 4 ≤ j) : wnd l (a + j) = wnd (l.drop a) j := by
  unfold wnd
  rw [show a + j - 4 = a + (j - 4) by omega, ← List.drop_drop, List.drop_take, Nat.add_sub_cancel_left]
theorem cutAt_drop (l : List Nat) (a b j : Nat) (ha : a ≤ l.length) : cutAt l (a + b) (a + j) = cutAt (l.drop a) b j := by
  unfold cutAt
  rw [List.length_drop, show a + j - (a + b) = j - b by omega]
  have e1 : (a + j == l.length) = (j == l.length - a) := by rw [Bool.eq_iff_iff]; simp; omega
  rw [e1]
  by_cases h4 : 4 ≤ j - b
  · rw [wnd_drop l a j (by omega)]
  · simp [h4]
theorem cuts_drop (l : List Nat) (a : Nat) (ha : a ≤ l.length) (hc : lastC l a = a) : ∀ j, cutsN l (a + j) = cutsN l a ++ (cutsN (l.drop a) j).map (a + ·) ∧ lastC l (a + j) = a + lastC (l.drop a) j := by
  intro j
  induction j with
  | zero => exact ⟨by simp [cutsN], by rw [lastC_zero]; exact hc⟩
  | succ j ih =>
    obtain ⟨h1, h2⟩ := ih
    have e := cutAt_drop l a (lastC (l.drop a) j) (j + 1) ha
    rw [← Nat.add_assoc] at e ⊢
    cases h : cutAt (l.drop a) (lastC (l.drop a) j) (j + 1)
    · have h' : cutAt l (lastC l (a + j)) (a + j + 1) = false := by rw [h2, e, h]
      rw [cutsN_no h', lastC_no h', cutsN_no h, lastC_no h]
      exact ⟨h1, h2⟩
    · have h' : cutAt l (lastC l (a + j)) (a + j + 1) = true := by rw [h2, e, h]
      rw [cutsN_yes h', lastC_yes h', cutsN_yes h, lastC_yes h, h1, List.map_append, List.append_assoc]
      exact ⟨rfl, by omega⟩
theorem rest_cuts (s : ByteArray) (k : Nat) (h : k < (cutsN (bs s) s.size).length) : ∃ a, (cutsN (bs s) s.size)[k]? = some a ∧ a ≤ s.size ∧ cutsN (bs s) s.size = cutsN (bs s) a ++ (cutsN ((bs s).drop a) (s.size - a)).map (a + ·) ∧ (cutsN (bs s) a).length = k + 1 := by
  obtain ⟨a, hk⟩ : ∃ a, (cutsN (bs s) s.size)[k]? = some a := ⟨_, List.getElem?_eq_getElem h⟩
  obtain ⟨m, rfl, hm, hct⟩ := cutsN_mem (bs s) s.size a (List.mem_of_getElem? hk)
  have hl : lastC (bs s) (m + 1) = m + 1 := lastC_yes hct
  have h1 := (cuts_drop (bs s) (m + 1) (by rw [bs_length]; omega) hl (s.size - (m + 1))).1
  rw [show m + 1 + (s.size - (m + 1)) = s.size by omega] at h1
  refine ⟨m + 1, hk, by omega, h1, ?_⟩
  have h2 := cutsN_yes hct
  have hat : (cutsN (bs s) s.size)[(cutsN (bs s) m).length]? = some (m + 1) := by
    rw [h1, h2, List.append_assoc, List.getElem?_append_right (Nat.le_refl _), Nat.sub_self]
    rfl
  rw [h2, List.length_append]
  have hs := List.pairwise_iff_getElem.1 (cutsN_sorted (bs s) s.size)
  obtain ⟨i1, e1⟩ := List.getElem?_eq_some_iff.1 hk
  obtain ⟨i2, e2⟩ := List.getElem?_eq_some_iff.1 hat
  rcases Nat.lt_trichotomy k (cutsN (bs s) m).length with c | c | c
  · have := hs k _ i1 i2 c; omega
  · rw [← c]; rfl
  · have := hs _ k i2 i1 c; omega
/-- What the law asks of the cuts behind a cut. -/
theorem rest_ok (s : ByteArray) (k : Nat) (h : k < (cutsI s).length) : ∃ a : Nat, (cutsI s).getD k 0 = (a : Int) ∧ a ≤ s.size ∧ (cutsI (s.extract a s.size)).length = (cutsI s).length - k - 1 ∧ ∀ i, i < (cutsI (s.extract a s.size)).length → (cutsI (s.extract a s.size)).getD i 0 + (a : Int) = (cutsI s).getD (k + 1 + i) 0 := by
  have hl : (cutsI s).length = (cutsN (bs s) s.size).length := by unfold cutsI; rw [List.length_map]
  obtain ⟨a, h1, h2, h3, h4⟩ := rest_cuts s k (by omega)
  have hb : bs (s.extract a s.size) = (bs s).drop a := by rw [bs_mid9, bs_take_all]
  have hsz := extract_size9 s a s.size (Nat.le_refl _)
  have hr : (cutsI (s.extract a s.size)).length = (cutsN ((bs s).drop a) (s.size - a)).length := by unfold cutsI; rw [List.length_map, hb, hsz]
  have hlen := congrArg List.length h3
  rw [List.length_append, List.length_map, h4] at hlen
  refine ⟨a, ?_, h2, by omega, fun i hi => ?_⟩
  · unfold cutsI
    rw [List.getD_eq_getElem?_getD, List.getElem?_map, h1]
    rfl
  · have hi' : i < (cutsN ((bs s).drop a) (s.size - a)).length := by omega
    unfold cutsI
    rw [List.getD_eq_getElem?_getD, List.getD_eq_getElem?_getD, List.getElem?_map, List.getElem?_map, hb, hsz, h3, List.getElem?_append_right (by omega), h4, show k + 1 + i - (k + 1) = i by omega, List.getElem?_map, List.getElem?_eq_getElem hi']
    simp
    omega
end Go.Proofs.Ytaamkkfjafedgaa

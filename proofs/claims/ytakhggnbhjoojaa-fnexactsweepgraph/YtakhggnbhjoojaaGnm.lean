/-
  What goes by counts: the mathematics, rows that come away from their nodes. No condition; no call is walked here.
-/
import Derived.Test.YtakhggnbhjoojaaGnl
namespace Go.Proofs.Ytakhggnbhjoojaa
open Go.RowKit
set_option linter.unusedVariables false

abbrev Ls := List Nd × List Int × List Int
/-- One after the other. -/
def lsFold (F : List Nd → List Int → Nat → Ls) (s : Ls) (xs : List Int) : Ls := xs.foldl (fun s x => ((F s.1 s.2.1 x.toNat).1, (F s.1 s.2.1 x.toNat).2.1, s.2.2 ++ (F s.1 s.2.1 x.toNat).2.2)) s
/-- A node is named once less: the nodes and counts then, and which are Gone by that, in order. -/
def lsF : Nat → List Nd → List Int → Nat → Ls
  | 0, m, cs, _ => (m, cs, [])
  | f + 1, m, cs, n => if 0 < cs.getD n 0 - 1 then (m, cs.set n (cs.getD n 0 - 1), []) else lsFold (lsF f) (m.set n ([], true), cs.set n (cs.getD n 0 - 1), [(n : Int)]) (m.getD n nd0).1
/-- How often counts are taken from, at most. -/
def lsT : Nat → Nat
  | 0 => 0
  | f + 1 => 1 + 6 * lsT f
/-- Nodes hold at most six of less numbers. -/
def LsN (m : List Nd) : Prop := ∀ k, k < m.length → (m.getD k nd0).1.length ≤ 6 ∧ ∀ i, i < (m.getD k nd0).1.length → 0 ≤ (m.getD k nd0).1.getD i 0 ∧ (m.getD k nd0).1.getD i 0 < (k : Int)
/-- Counts within bounds. -/
def LsB (B : Nat) (cs : List Int) : Prop := ∀ i, i < cs.length → -(B : Int) ≤ cs.getD i 0 ∧ cs.getD i 0 ≤ 1000
theorem LsN.set {m : List Nd} (h : LsN m) (n : Nat) : LsN (m.set n ([], true)) := by
  intro k hk
  rw [List.length_set] at hk
  by_cases hn : n < m.length
  · rw [getD_set _ _ _ _ _ hn]
    by_cases e : k = n
    · rw [if_pos e]
      exact ⟨by simp, fun i hi => by simp at hi⟩
    · rw [if_neg e]
      exact h k hk
  · rw [List.set_eq_of_length_le (by omega)]
    exact h k hk
theorem LsB.mono {B C : Nat} {cs : List Int} (h : LsB B cs) (hc : B ≤ C) : LsB C cs := fun i hi => by have := h i hi; omega
theorem LsB.less {B : Nat} {cs : List Int} (h : LsB B cs) (n : Nat) : LsB (B + 1) (cs.set n (cs.getD n 0 - 1)) := by
  intro i hi
  rw [List.length_set] at hi
  by_cases hn : n < cs.length
  · rw [getD_set _ _ _ _ _ hn]
    by_cases e : i = n
    · rw [if_pos e]
      have := h n hn
      omega
    · rw [if_neg e]
      have := h i hi
      omega
  · rw [List.set_eq_of_length_le (by omega)]
    have := h i hi
    omega
/-- What is so of a state, with a bound. -/
structure LsOk (N B G : Nat) (s : Ls) : Prop where
  lm : s.1.length = N
  lc : s.2.1.length = N
  nd : LsN s.1
  bd : LsB B s.2.1
  gl : s.2.2.length ≤ G
theorem lsFold_succ (F : List Nd → List Int → Nat → Ls) (s : Ls) (xs : List Int) (i : Nat) (h : i < xs.length) :
    lsFold F s (xs.take (i + 1)) = ((F (lsFold F s (xs.take i)).1 (lsFold F s (xs.take i)).2.1 (xs.getD i 0).toNat).1, (F (lsFold F s (xs.take i)).1 (lsFold F s (xs.take i)).2.1 (xs.getD i 0).toNat).2.1, (lsFold F s (xs.take i)).2.2 ++ (F (lsFold F s (xs.take i)).1 (lsFold F s (xs.take i)).2.1 (xs.getD i 0).toNat).2.2) := by
  rw [take_succ_getD xs i 0 h]
  simp [lsFold, List.foldl_append]
theorem lsFold_ok (N T : Nat) (F : List Nd → List Int → Nat → Ls) (hF : ∀ m cs n B, LsOk N B 0 (m, cs, []) → LsOk N (B + T) T (F m cs n)) : ∀ (xs : List Int) (s : Ls) (B G : Nat), LsOk N B G s → LsOk N (B + xs.length * T) (G + xs.length * T) (lsFold F s xs)
  | [], s, B, G, h => by simpa [lsFold] using h
  | x :: xs, s, B, G, h => by
    have h1 := hF s.1 s.2.1 x.toNat B ⟨h.lm, h.lc, h.nd, h.bd, by simp⟩
    have h2 : LsOk N (B + T) (G + T) ((F s.1 s.2.1 x.toNat).1, (F s.1 s.2.1 x.toNat).2.1, s.2.2 ++ (F s.1 s.2.1 x.toNat).2.2) := ⟨h1.lm, h1.lc, h1.nd, h1.bd, by
      have := h1.gl
      have := h.gl
      simp only [List.length_append]
      omega⟩
    have h3 := lsFold_ok N T F hF xs _ _ _ h2
    have e : B + T + xs.length * T = B + (x :: xs).length * T := by simp [Nat.add_mul]; omega
    have e2 : G + T + xs.length * T = G + (x :: xs).length * T := by simp [Nat.add_mul]; omega
    rw [e, e2] at h3
    exact h3
theorem lsF_ok (N : Nat) : ∀ (f : Nat) (m : List Nd) (cs : List Int) (n B : Nat), LsOk N B 0 (m, cs, []) → LsOk N (B + lsT f) (lsT f) (lsF f m cs n)
  | 0, m, cs, n, B, h => h
  | f + 1, m, cs, n, B, h => by
    unfold lsF
    split
    · exact ⟨h.lm, by simpa using h.lc, h.nd, (h.bd.less n).mono (by simp only [lsT]; omega), by simp⟩
    · have h1 : LsOk N (B + 1) 1 (m.set n ([], true), cs.set n (cs.getD n 0 - 1), [(n : Int)]) := ⟨by simpa using h.lm, by simpa using h.lc, h.nd.set n, h.bd.less n, by simp⟩
      have h2 := lsFold_ok N (lsT f) (lsF f) (fun m cs n B h => lsF_ok N f m cs n B h) (m.getD n nd0).1 _ _ _ h1
      have h6 : (m.getD n nd0).1.length ≤ 6 := by
        by_cases hn : n < m.length
        · exact (h.nd n hn).1
        · simp [List.getD_eq_getElem?_getD, List.getElem?_eq_none (show m.length ≤ n by omega), nd0]
      have h7 : (m.getD n nd0).1.length * lsT f ≤ 6 * lsT f := Nat.mul_le_mul_right _ h6
      exact ⟨h2.lm, h2.lc, h2.nd, h2.bd.mono (by simp only [lsT]; omega), by have := h2.gl; simp only [lsT]; omega⟩
theorem lsT_mono : ∀ {a b : Nat}, a ≤ b → lsT a ≤ lsT b
  | 0, _, _ => Nat.zero_le _
  | a + 1, b + 1, h => by
    have := lsT_mono (a := a) (b := b) (by omega)
    simp only [lsT]
    omega
theorem lsT_14 : lsT 14 = 15672832819 := by decide

/-- Rows picked out of rows: each place tells where its row stood, or that it has none. -/
theorem Rws.pick {w : World} {lo hi : Nat} {us vs : List Value} {ks ls : List (List Int)} (h : Rws w lo hi us ks) (hl : vs.length = ls.length) (σ : Nat → Nat)
    (hs : ∀ j, j < ls.length → (vs.getD j nilRow = nilRow ∧ ls.getD j [] = []) ∨ (σ j < ks.length ∧ vs.getD j nilRow = us.getD (σ j) nilRow ∧ ls.getD j [] = ks.getD (σ j) []))
    (inj : ∀ j k, j < ls.length → k < ls.length → σ j = σ k → j = k) : Rws w lo hi vs ls := by
  refine ⟨hl, fun j hj => ?_, fun j b hj hb => ?_, fun j k hj hk hjk => ?_⟩
  · rcases hs j hj with ⟨e1, e2⟩ | ⟨h1, e1, e2⟩
    · rw [e1, e2]; exact World.ownsRow_nil _ _ _ _
    · rw [e1, e2]; exact h.row _ h1
  · rcases hs j hj with ⟨e1, e2⟩ | ⟨h1, e1, e2⟩
    · rw [e1] at hb; simp [Value.ownBlock] at hb
    · rw [e1] at hb; exact h.tops _ b h1 hb
  · rcases hs j hj with ⟨e1, e2⟩ | ⟨h1, e1, e2⟩
    · rw [e1]; exact .inl rfl
    · rcases hs k hk with ⟨f1, f2⟩ | ⟨h2, f1, f2⟩
      · rw [e1, f1]
        cases hu : (us.getD (σ j) nilRow).ownBlock with
        | none => exact .inl rfl
        | some b => right; simp [Value.ownBlock]
      · rw [e1, f1]
        exact h.apart _ _ h1 h2 (fun e => hjk (inj j k hj hk e))
/-- What a node holds comes away from it: it is Gone, and holds nothing. -/
theorem NdV.detach {w : World} {lo hi g n cap : Nat} {es us : List Value} {qs : List (List Int)} {xs : List Nd} (h : NdV w lo hi (.slice (some ⟨g, 0, none⟩) n cap) es us qs xs) (i : Nat) (hi' : i < xs.length) :
    NdV ((w.setCell ⟨g, i * 2, none⟩ nilRow).setCell ⟨g, i * 2 + 1, none⟩ (.bool true)) lo hi (.slice (some ⟨g, 0, none⟩) n cap) (es ++ [us.getD i nilRow]) (us.set i nilRow) (qs ++ [(xs.getD i nd0).1]) (xs.set i ([], true)) := by
  obtain rfl := h.lenEq
  have hul : i < us.length := by rw [h.len]; exact hi'
  have st := World.ownsRow.stored h.head (i * 2) nilRow
  have e := ndC_setHold us xs i nilRow ([], (xs.getD i nd0).2) rfl h.len hi'
  rw [e] at st
  have st2 := World.ownsRow.stored st.1 (i * 2 + 1) (.bool true)
  have e2 := ndC_setGone (us.set i nilRow) (xs.set i ([], (xs.getD i nd0).2)) i ([], true) (by simp [h.len]) (by simpa using hi')
  rw [e2, List.set_set] at st2
  have P : Rws w lo hi ((es ++ [us.getD i nilRow]) ++ us.set i nilRow) ((qs ++ [(xs.getD i nd0).1]) ++ (xs.set i ([], true)).map Prod.fst) := by
    refine h.rws.pick (by simp [h.lenE, h.len]) (fun j => if j < qs.length then j else if j = qs.length then qs.length + i else if j - 1 = qs.length + i then qs.length + xs.length + 1 else j - 1) ?_ ?_
    · intro j hj
      simp only [List.length_append, List.length_singleton, List.length_map, List.length_set] at hj
      by_cases h1 : j < qs.length
      · right
        rw [if_pos h1]
        refine ⟨by simp; omega, ?_, ?_⟩
        · rw [List.append_assoc, getD_app_left es _ j _ (by rw [h.lenE]; exact h1), getD_app_left es _ j _ (by rw [h.lenE]; exact h1)]
        · rw [List.append_assoc, getD_app_left qs _ j _ h1, getD_app_left qs _ j _ h1]
      · by_cases h2 : j = qs.length
        · right
          subst h2
          rw [if_neg (by omega), if_pos rfl]
          refine ⟨by simp; omega, ?_, ?_⟩
          · have a1 := getD_app_right es ([us.getD i nilRow] ++ us.set i nilRow) qs.length 0 nilRow h.lenE
            rw [Nat.add_zero] at a1
            rw [List.append_assoc, a1, getD_app_right es us _ i _ h.lenE]
            rfl
          · have a1 := getD_app_right qs ([(xs.getD i nd0).1] ++ (xs.set i ([], true)).map Prod.fst) qs.length 0 [] rfl
            rw [Nat.add_zero] at a1
            rw [List.append_assoc, a1, getD_app_right qs _ _ i _ rfl, fst_getD]
            rfl
        · obtain ⟨k, rfl⟩ : ∃ k, j = qs.length + (k + 1) := ⟨j - qs.length - 1, by omega⟩
          have hk : k < xs.length := by omega
          have v1 : ((es ++ [us.getD i nilRow]) ++ us.set i nilRow).getD (qs.length + (k + 1)) nilRow = (us.set i nilRow).getD k nilRow := by
            rw [List.append_assoc, getD_app_right es _ _ (k + 1) _ h.lenE]
            rfl
          have v2 : ((qs ++ [(xs.getD i nd0).1]) ++ (xs.set i ([], true)).map Prod.fst).getD (qs.length + (k + 1)) [] = ((xs.set i ([], true)).getD k nd0).1 := by
            rw [List.append_assoc, getD_app_right qs _ _ (k + 1) _ rfl]
            show ((xs.set i ([], true)).map Prod.fst).getD k [] = _
            exact fst_getD _ _
          rw [v1, v2, getD_set _ _ _ _ _ hul, getD_set _ _ _ _ _ hi']
          by_cases e3 : k = i
          · left
            rw [if_pos e3, if_pos e3]
            exact ⟨rfl, rfl⟩
          · right
            rw [if_neg e3, if_neg e3, if_neg (by omega), if_neg (by omega), if_neg (by omega)]
            have ek : qs.length + (k + 1) - 1 = qs.length + k := by omega
            rw [ek]
            exact ⟨by simp; omega, (getD_app_right es us _ k _ h.lenE).symm, by rw [getD_app_right qs _ _ k _ rfl, fst_getD]⟩
    · intro j k hj hk
      simp only [List.length_append, List.length_singleton, List.length_map, List.length_set] at hj hk
      intro e
      (repeat' split at e) <;> omega
  refine ⟨by rw [List.length_set]; exact st2.1, h.top, by simp [h.lenE], ?_⟩
  have k1 := P.kept st.2 (fun j hj => types_apart (P.row j hj) h.head (by decide))
  exact k1.kept st2.2 (fun j hj => types_apart (k1.row j hj) st.1 (by decide))
/-- The last row besides is left out. -/
theorem NdV.dropE {w : World} {lo hi : Nat} {v u : Value} {es us : List Value} {qs : List (List Int)} {k : List Int} {xs : List Nd} (h : NdV w lo hi v (es ++ [u]) us (qs ++ [k]) xs) (hl : es.length = qs.length) : NdV w lo hi v es us qs xs := by
  refine ⟨h.head, h.top, hl, h.rws.pick (by simp [hl, h.len]) (fun j => if j < qs.length then j else j + 1) ?_ ?_⟩
  · intro j hj
    simp only [List.length_append, List.length_map] at hj
    right
    by_cases h1 : j < qs.length
    · rw [if_pos h1]
      refine ⟨by simp; omega, ?_, ?_⟩
      · rw [List.append_assoc, getD_app_left es _ j _ (by omega), getD_app_left es _ j _ (by omega)]
      · rw [List.append_assoc, getD_app_left qs _ j _ h1, getD_app_left qs _ j _ h1]
    · obtain ⟨i, rfl⟩ : ∃ i, j = qs.length + i := ⟨j - qs.length, by omega⟩
      rw [if_neg h1, Nat.add_assoc]
      refine ⟨by simp; omega, ?_, ?_⟩
      · rw [getD_app_right es us _ i _ hl, List.append_assoc, getD_app_right es _ _ (i + 1) _ hl]
        rfl
      · rw [getD_app_right qs _ _ i _ rfl, List.append_assoc, getD_app_right qs _ _ (i + 1) _ rfl]
        rfl
  · intro j k hj hk e
    (repeat' split at e) <;> omega
end Go.Proofs.Ytakhggnbhjoojaa

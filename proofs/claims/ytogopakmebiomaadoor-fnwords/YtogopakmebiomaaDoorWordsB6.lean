/-
  What has no inverse takes a column of numbers, not all 0, to noughts; what has one is undone by it: plain mathematics. No call is walked here. Two rows swapped, and a row swapped up: the program's function and its model's, call by call. Each contract says what it asks. A column cleared: the program's function and its model's, call by call. Each contract says what it asks. The model's clearing of a column in a matrix and in another beside it, in one call. The contract says what it asks.
-/
import Derived.Test.YtogopakmebiomaaDoorWordsB5
namespace Go.Proofs.YtogopakmebiomaaDoor
open Go.RowKit
namespace Gf

theorem headM_get {M : List (List Nat)} {n c : Nat} (hm : Sh M n c) (at_ x i : Nat) (ha : at_ < n) : (headM M at_ x).getD i [] = if i = at_ then sc (M.getD at_ []) (inv x) else M.getD i [] := by
  unfold headM
  rw [getD_set _ _ _ _ _ (by rw [hm.len]; exact ha)]
/-- The rows behind one step: s is the matrix with its row swapped up. -/
theorem opM_get {M : List (List Nat)} {n c : Nat} (hm : Sh M n c) (at_ p x : Nat) (fs : Nat → Nat) (i : Nat) (ha : at_ < n) (hp : p < n) (hi : i < n) :
    (opM M at_ p x fs).getD i [] = if i = at_ then sc ((swapM M at_ p).getD at_ []) (inv x) else addRow ((swapM M at_ p).getD i []) (sc ((swapM M at_ p).getD at_ []) (inv x)) (fs i) := by
  have hs := hm.swap at_ p ha hp
  have hh := hs.head at_ x ha
  unfold opM
  rw [clearM_get _ _ _ _ _ (by rw [hh.len]; exact hi), headM_get hs at_ x i ha, headM_get hs at_ x at_ ha, if_pos rfl, hm.len]
  by_cases e : i = at_
  · subst e
    rw [if_neg (fun h => h.2 rfl), if_pos rfl, if_pos rfl]
  · rw [if_pos ⟨hi, e⟩, if_neg e, if_neg e]
theorem pf_none {M : List (List Nat)} {col : Nat} : ∀ d j, pf M col d j = none → ∀ i, j ≤ i → i < j + d → (M.getD i []).getD col 0 = 0 := by
  intro d
  induction d with
  | zero => intro j _ i h1 h2; omega
  | succ d ih =>
    intro j h i h1 h2
    rw [pf] at h
    by_cases e : (M.getD j []).getD col 0 ≠ 0
    · rw [if_pos e] at h; cases h
    · rw [if_neg e] at h
      by_cases e2 : i = j
      · subst e2; exact Classical.not_not.1 e
      · exact ih (j + 1) h i (by omega) (by omega)
theorem piv_none {M : List (List Nat)} {n c at_ col : Nat} (hm : Sh M n c) (h : piv M at_ col = none) (i : Nat) (h1 : at_ ≤ i) (h2 : i < n) : (M.getD i []).getD col 0 = 0 := by
  unfold piv at h
  rw [hm.len] at h
  exact pf_none _ _ h i h1 (by omega)

/-- A step can be taken back: what its rows take to noughts the rows ahead of it do. -/
theorem op_kern {M : List (List Nat)} {n c at_ p x : Nat} {fs : Nat → Nat} {z : List Nat} (hm : Sh M n c) (ha : at_ < n) (hp : p < n) (hx : x < 256) (hx0 : x ≠ 0) (hf : ∀ i, fs i < 256) (hz : AllLt z)
    (h : ∀ i, i < n → dotTo ((opM M at_ p x fs).getD i []) z c = 0) : ∀ i, i < n → dotTo (M.getD i []) z c = 0 := by
  have hs := hm.swap at_ p ha hp
  have e0 := h at_ ha
  rw [opM_get hm at_ p x fs at_ ha hp ha, if_pos rfl, dot_sc (hs.lt at_ ha) hz (inv_lt x) c (by rw [hs.row at_ ha]; exact Nat.le_refl _)] at e0
  have s0 : dotTo ((swapM M at_ p).getD at_ []) z c = 0 := by
    rcases mul_eq_zero _ _ (inv_lt x) (dotTo_lt (hs.lt at_ ha) c) e0 with e | e
    · exact absurd e (inv_ne hx hx0)
    · exact e
  have sw : ∀ i, i < n → dotTo ((swapM M at_ p).getD i []) z c = 0 := by
    intro i hi
    by_cases e : i = at_
    · rw [e]; exact s0
    · have ei := h i hi
      rw [opM_get hm at_ p x fs i ha hp hi, if_neg e, dot_add (hs.lt i hi) (sc_lt (inv_lt x)) hz (hf i) (by rw [sc_length, hs.row i hi, hs.row at_ ha]) c (by rw [hs.row i hi]; exact Nat.le_refl _), dot_sc (hs.lt at_ ha) hz (inv_lt x) c (by rw [hs.row at_ ha]; exact Nat.le_refl _)] at ei
      rw [s0, mul_zero, mul_zero, Nat.xor_zero] at ei
      exact ei
  intro i hi
  by_cases e1 : i = at_
  · have := sw p hp
    rw [swapM_get _ _ _ _ (by rw [hm.len]; exact ha) (by rw [hm.len]; exact hp), if_pos rfl] at this
    rw [e1]; exact this
  · by_cases e2 : i = p
    · have := sw at_ ha
      rw [swapM_get _ _ _ _ (by rw [hm.len]; exact ha) (by rw [hm.len]; exact hp)] at this
      by_cases e3 : at_ = p
      · exact absurd (e2.trans e3.symm) e1
      · rw [if_neg e3, if_pos rfl] at this
        rw [e2]; exact this
    · have := sw i hi
      rw [swapM_get _ _ _ _ (by rw [hm.len]; exact ha) (by rw [hm.len]; exact hp), if_neg e2, if_neg e1] at this
      exact this
theorem clr_kern {A : List (List Nat)} {n c k p : Nat} {z : List Nat} (ha : Sh A n c) (hk : k < n) (hp : piv A k k = some p) (hz : AllLt z) (h : ∀ i, i < n → dotTo ((clr A k k p).getD i []) z c = 0) : ∀ i, i < n → dotTo (A.getD i []) z c = 0 := by
  obtain ⟨_, h2, h3⟩ := piv_facts hp
  rw [ha.len] at h2
  exact op_kern ha hk h2 (ha.elt p k) h3 (fun i => (ha.swap k p hk h2).elt i k) hz h
theorem inv_kern {A S : List (List Nat)} {n c d : Nat} {z : List Nat} (ha : Sh A n c) (hs : Sh S n d) (hz : AllLt z) : ∀ k, k ≤ n → ∀ q, invTo A S k = some q → (∀ i, i < n → dotTo (q.1.getD i []) z c = 0) → ∀ i, i < n → dotTo (A.getD i []) z c = 0 := by
  intro k
  induction k with
  | zero => intro _ q h hh; simp only [invTo, Option.some.injEq] at h; subst h; exact hh
  | succ k ih =>
    intro hk q h hh
    rw [invTo] at h
    cases e : invTo A S k with
    | none => rw [e] at h; simp at h
    | some r =>
      obtain ⟨h1, h2⟩ := invTo_sh ha hs k (by omega) r e
      rw [e] at h
      simp only [] at h
      cases e2 : piv r.1 k k with
      | none => rw [e2] at h; simp at h
      | some p =>
        rw [e2] at h
        simp only [Option.some.injEq] at h
        subst h
        exact ih (by omega) r e (clr_kern h1 (by omega) e2 hz hh)
/-- The columns that are cleared are the identity's. -/
theorem inv_unit {A S : List (List Nat)} {n c d : Nat} (ha : Sh A n c) (hs : Sh S n d) (hc : n ≤ c) : ∀ k, k ≤ n → ∀ q, invTo A S k = some q → ∀ i j, i < n → j < k → (q.1.getD i []).getD j 0 = if i = j then 1 else 0 := by
  intro k
  induction k with
  | zero => intro _ q _ i j _ hj; omega
  | succ k ih =>
    intro hk q h i j hi hj
    rw [invTo] at h
    cases e : invTo A S k with
    | none => rw [e] at h; simp at h
    | some r =>
      obtain ⟨h1, h2⟩ := invTo_sh ha hs k (by omega) r e
      rw [e] at h
      simp only [] at h
      cases e2 : piv r.1 k k with
      | none => rw [e2] at h; simp at h
      | some p =>
        rw [e2] at h
        simp only [Option.some.injEq] at h
        subst h
        simp only []
        obtain ⟨hp1, hp2, hp3⟩ := piv_facts e2
        rw [h1.len] at hp2
        have hs1 := h1.swap k p (by omega) hp2
        have U := ih (by omega) r e
        have lk : k < r.1.length := by rw [h1.len]; omega
        have lp : p < r.1.length := by rw [h1.len]; exact hp2
        have hx : hOf r.1 k p = ((swapM r.1 k p).getD k []).getD k 0 := by
          unfold hOf
          rw [swapM_get _ _ _ _ lk lp]
          by_cases e3 : k = p
          · rw [if_pos e3, e3]
          · rw [if_neg e3, if_pos rfl]
        have sU : ∀ i j, i < n → j < k → ((swapM r.1 k p).getD i []).getD j 0 = if i = j then 1 else 0 := by
          intro i j hi hj
          rw [swapM_get _ _ _ _ lk lp]
          by_cases e3 : i = p
          · rw [if_pos e3, U k j (by omega) hj, if_neg (by omega), if_neg (by omega)]
          · rw [if_neg e3]
            by_cases e4 : i = k
            · rw [if_pos e4, U p j hp2 hj, if_neg (by omega), if_neg (by omega)]
            · rw [if_neg e4]; exact U i j hi hj
        have x0 : hOf r.1 k p ≠ 0 := hp3
        have x256 : hOf r.1 k p < 256 := h1.elt p k
        unfold clr
        rw [opM_get h1 k p _ _ i (by omega) hp2 hi]
        have rowk : ∀ j, j < c → (sc ((swapM r.1 k p).getD k []) (inv (hOf r.1 k p))).getD j 0 = mul (inv (hOf r.1 k p)) (((swapM r.1 k p).getD k []).getD j 0) := fun j hj => sc_get _ _ _ (by rw [hs1.row k (by omega)]; exact hj)
        by_cases e3 : i = k
        · rw [if_pos e3, rowk j (by omega)]
          by_cases e4 : j = k
          · rw [e4, ← hx, mul_comm _ _ (inv_lt _) x256, mul_inv _ x256 x0, if_pos (by omega)]
          · rw [sU k j (by omega) (by omega), if_neg (by omega), mul_zero, if_neg (by omega)]
        · rw [if_neg e3, addRow_get _ _ _ _ (by rw [hs1.row i hi]; omega) (by rw [sc_length, hs1.row k (by omega)]; omega), rowk j (by omega)]
          by_cases e4 : j = k
          · have ff : fOf r.1 k k p i = ((swapM r.1 k p).getD i []).getD k 0 := rfl
            rw [e4, ← hx, mul_comm _ _ (inv_lt _) x256, mul_inv _ x256 x0, ff, mul_one _ (hs1.elt i k), if_neg (by omega)]
            exact Nat.xor_self _
          · rw [sU k j (by omega) (by omega), if_neg (by omega), mul_zero, mul_zero, Nat.xor_zero, sU i j hi (by omega)]
/-- What a column that cannot be cleared takes to noughts. -/
def kerZ (A : List (List Nat)) (k c : Nat) : List Nat := (List.range c).map fun j => if j < k then (A.getD j []).getD k 0 else if j = k then 1 else 0
theorem kerZ_get (A : List (List Nat)) (k c j : Nat) (h : j < c) : (kerZ A k c).getD j 0 = if j < k then (A.getD j []).getD k 0 else if j = k then 1 else 0 := by simp [kerZ, h]
theorem kerZ_lt {A : List (List Nat)} {n k c : Nat} {d : Nat} (ha : Sh A n d) : AllLt (kerZ A k c) := by
  intro j
  by_cases h : j < c
  · rw [kerZ_get _ _ _ _ h]
    split
    · exact ha.elt j k
    · split <;> omega
  · rw [List.getD_eq_getElem?_getD, List.getElem?_eq_none (by simp [kerZ]; omega)]; decide
theorem ker_dot {A : List (List Nat)} {n c k : Nat} (ha : Sh A n c) (hU : ∀ i j, i < n → j < k → (A.getD i []).getD j 0 = if i = j then 1 else 0) (i : Nat) (hi : i < n) : ∀ m, m ≤ c →
    dotTo (A.getD i []) (kerZ A k c) m = (if i < k ∧ i < m then (A.getD i []).getD k 0 else 0) ^^^ (if k < m then (A.getD i []).getD k 0 else 0) := by
  intro m
  induction m with
  | zero => intro _; simp [dotTo]
  | succ m ih =>
    intro hm
    rw [dotTo, ih (by omega), kerZ_get _ _ _ _ (by omega)]
    by_cases h1 : m < k
    · rw [if_pos h1, hU i m hi h1, if_neg (show ¬ k < m by omega), if_neg (show ¬ k < m + 1 by omega), Nat.xor_zero, Nat.xor_zero]
      by_cases h2 : i = m
      · subst h2
        rw [if_pos rfl, one_mul _ (ha.elt i k), if_neg (by omega), if_pos (by omega), Nat.zero_xor]
      · rw [if_neg h2, zero_mul (ha.elt m k), Nat.xor_zero]
        by_cases h3 : i < k ∧ i < m
        · rw [if_pos h3, if_pos (by omega)]
        · rw [if_neg h3, if_neg (by omega)]
    · rw [if_neg h1]
      by_cases h2 : m = k
      · subst h2
        rw [if_pos rfl, mul_one _ (ha.elt i m), if_neg (show ¬ m < m by omega), Nat.xor_zero, if_pos (show m < m + 1 by omega)]
        by_cases h3 : i < m
        · rw [if_pos ⟨h3, h3⟩, if_pos (by omega)]
        · rw [if_neg (by omega), if_neg (by omega)]
      · rw [if_neg h2, mul_zero, Nat.xor_zero]
        have e1 : (i < k ∧ i < m) ↔ (i < k ∧ i < m + 1) := by omega
        have e2 : k < m ↔ k < m + 1 := by omega
        simp only [e1, e2]
/-- A square matrix that takes nothing but noughts to noughts has an inverse. -/
theorem inv_exists {A S : List (List Nat)} {n d : Nat} (ha : Sh A n n) (hs : Sh S n d) (hk : ∀ z : List Nat, z.length = n → AllLt z → (∀ i, i < n → dotTo (A.getD i []) z n = 0) → ∀ j, j < n → z.getD j 0 = 0) : ∀ k, k ≤ n → ∃ q, invTo A S k = some q := by
  intro k
  induction k with
  | zero => intro _; exact ⟨_, rfl⟩
  | succ k ih =>
    intro hk'
    obtain ⟨r, e⟩ := ih (by omega)
    obtain ⟨h1, h2⟩ := invTo_sh ha hs k (by omega) r e
    rw [invTo, e]
    simp only []
    cases e2 : piv r.1 k k with
    | some p => exact ⟨_, rfl⟩
    | none =>
      exfalso
      have U := inv_unit ha hs (Nat.le_refl _) k (by omega) r e
      have Z : AllLt (kerZ r.1 k n) := kerZ_lt h1
      have hz : ∀ i, i < n → dotTo (r.1.getD i []) (kerZ r.1 k n) n = 0 := by
        intro i hi
        rw [ker_dot h1 U i hi n (Nat.le_refl _), if_pos (show k < n by omega)]
        by_cases h : i < k
        · rw [if_pos ⟨h, hi⟩, Nat.xor_self]
        · rw [if_neg (by omega), piv_none h1 e2 i (by omega) hi, Nat.xor_self]
      have := hk (kerZ r.1 k n) (by simp [kerZ]) Z (inv_kern ha hs Z k (by omega) r e hz) k (by omega)
      rw [kerZ_get _ _ _ _ (by omega), if_neg (by omega), if_pos rfl] at this
      cases this
theorem solN_ok {A S : List (List Nat)} {n d : Nat} (ha : Sh A n n) (hs : Sh S n d) (hk : ∀ z : List Nat, z.length = n → AllLt z → (∀ i, i < n → dotTo (A.getD i []) z n = 0) → ∀ j, j < n → z.getD j 0 = 0) : (solN A S).2 = true := by
  obtain ⟨q, h⟩ := inv_exists ha hs hk n (Nat.le_refl _)
  unfold solN
  rw [ha.len, h]
/-- A sum of products is Cauchy's where the row is. -/
theorem dot_cs {r z : List Nat} {x : Nat} {y : Nat → Nat} (hz : AllLt z) : ∀ m, (∀ j, j < m → r.getD j 0 = inv (x ^^^ y j)) → dotTo r z m = cs (fun j => z.getD j 0) y x m := by
  intro m
  induction m with
  | zero => intro _; rfl
  | succ m ih => intro h; rw [dotTo, cs, ih (fun j hj => h j (by omega)), h m (by omega), mul_comm _ _ (inv_lt _) (hz m)]
end Gf
end Go.Proofs.YtogopakmebiomaaDoor

namespace Go.Proofs.YtogopakmebiomaaDoor
open Go.RowKit
open Gf (ci ciM swapM pf piv Sh AllLt)

/-- The rows, with row p (where there is one) swapped up. -/
def upM (M : List (List Nat)) (at_ : Nat) : Option Nat → List (List Nat)
  | some p => swapM M at_ p
  | none => M
theorem MatV.swap {w : World} {lo hi g n cap : Nat} {vs : List Value} {m : List (List Int)} (h : MatV w lo hi (.slice (some ⟨g, 0, none⟩) n cap) vs m) (a b : Nat) (ha : a < m.length) (hb : b < m.length) :
    MatV ((w.setCell ⟨g, a, none⟩ (vs.getD b nilRow)).setCell ⟨g, b, none⟩ (vs.getD a nilRow)) lo hi (.slice (some ⟨g, 0, none⟩) n cap) ((vs.set a (vs.getD b nilRow)).set b (vs.getD a nilRow)) ((m.set a (m.getD b [])).set b (m.getD a [])) ∧
      w.grownBy ((w.setCell ⟨g, a, none⟩ (vs.getD b nilRow)).setCell ⟨g, b, none⟩ (vs.getD a nilRow)) (some g) := by
  obtain rfl := h.lenEq
  have st1 := World.ownsRow.stored h.head a (vs.getD b nilRow)
  have st2 := World.ownsRow.stored st1.1 b (vs.getD a nilRow)
  have hg : w.grownBy ((w.setCell ⟨g, a, none⟩ (vs.getD b nilRow)).setCell ⟨g, b, none⟩ (vs.getD a nilRow)) (some g) := Gf.grownBy_trans st1.2 st2.2
  have hla : a < vs.length := by rw [h.len]; exact ha
  have hlb : b < vs.length := by rw [h.len]; exact hb
  have gv : ∀ i, ((vs.set a (vs.getD b nilRow)).set b (vs.getD a nilRow)).getD i nilRow = vs.getD (if i = b then a else if i = a then b else i) nilRow := by
    intro i
    rw [getD_set _ _ _ _ _ (by rw [List.length_set]; exact hlb), getD_set _ _ _ _ _ hla]
    split
    · rfl
    · split <;> rfl
  have gm : ∀ i, ((m.set a (m.getD b [])).set b (m.getD a [])).getD i [] = m.getD (if i = b then a else if i = a then b else i) [] := by
    intro i
    rw [getD_set _ _ _ _ _ (by rw [List.length_set]; exact hb), getD_set _ _ _ _ _ ha]
    split
    · rfl
    · split <;> rfl
  have sl : ∀ i, i < m.length → (if i = b then a else if i = a then b else i) < m.length := by
    intro i hi
    split
    · exact ha
    · split
      · exact hb
      · exact hi
  have ml : ((m.set a (m.getD b [])).set b (m.getD a [])).length = m.length := by simp
  refine ⟨⟨by simp [h.len], by rw [ml]; exact st2.1, ?_, h.top, ?_, ?_⟩, hg⟩
  · intro i hi
    rw [ml] at hi
    rw [gv, gm]
    exact World.ownsRow.kept (h.row _ (sl i hi)) hg (heads_apart' h.head (h.row _ (sl i hi)))
  · intro i k hi hk
    rw [ml] at hi
    rw [gv] at hk
    exact h.tops _ k (sl i hi) hk
  · intro i j hi hj hij
    rw [ml] at hi hj
    rw [gv, gv]
    refine h.apart _ _ (sl i hi) (sl j hj) ?_
    split <;> split <;> (try split) <;> (try split) <;> omega
theorem MatV.swapN {w : World} {lo hi g n cap : Nat} {vs : List Value} {M : List (List Nat)} (h : MatV w lo hi (.slice (some ⟨g, 0, none⟩) n cap) vs (ciM M)) (a b : Nat) (ha : a < M.length) (hb : b < M.length) :
    MatV ((w.setCell ⟨g, a, none⟩ (vs.getD b nilRow)).setCell ⟨g, b, none⟩ (vs.getD a nilRow)) lo hi (.slice (some ⟨g, 0, none⟩) n cap) ((vs.set a (vs.getD b nilRow)).set b (vs.getD a nilRow)) (ciM (swapM M a b)) ∧
      w.grownBy ((w.setCell ⟨g, a, none⟩ (vs.getD b nilRow)).setCell ⟨g, b, none⟩ (vs.getD a nilRow)) (some g) := by
  have := h.swap a b (by rw [Gf.ciM_length]; exact ha) (by rw [Gf.ciM_length]; exact hb)
  rw [Gf.ciM_get, Gf.ciM_get, Gf.ciM_set, Gf.ciM_set] at this
  exact this
theorem MatV.headChg {w w' : World} {lo hi g n cap : Nat} {vs : List Value} {m : List (List Int)} (h : MatV w lo hi (.slice (some ⟨g, 0, none⟩) n cap) vs m) (hg : w.grownBy w' (some g)) : Chg lo hi w w' :=
  Chg.ofGrown hg (fun k hk => by cases hk; exact ⟨(World.ownsRow.lt h.head g rfl).1, h.top g rfl⟩)
theorem MatV.shape {w : World} {lo hi : Nat} {v : Value} {vs : List Value} {m : List (List Int)} (h : MatV w lo hi v vs m) (i : Nat) (hi' : i < m.length) : ∃ a n c, vs.getD i nilRow = .slice a n c := (h.row i hi').shape

set_option maxRecDepth 100000 in
set_option maxHeartbeats 800000 in
theorem l2Swap_calls (v : Value) (M : List (List Nat)) (a b lo hi : Nat) (w : World) (h : Mat w lo hi v (ciM M)) (ha : a < M.length) (hb : b < M.length) (hn : M.length ≤ 1048576) :
    Calls Tryd.prog 174 #[v, .int .i64 a, .int .i64 b] w fun e w' => e = .returned (.tuple #[]) ∧ Mat w' lo hi v (ciM (swapM M a b)) ∧ Chg lo hi w w' := by
  obtain ⟨vs, h⟩ := h
  obtain ⟨g, cap, rfl, _, _, _, _⟩ := h.open (by rw [Gf.ciM_length]; omega)
  have hl : (ciM M).length = M.length := Gf.ciM_length M
  have ha' : (a : Int) < ((ciM M).length : Int) := by omega
  have hb' : (b : Int) < ((ciM M).length : Int) := by omega
  have hca := h.cell a (by omega)
  have hcb := h.cell b (by omega)
  have hfa : w.frozen? ⟨g, a, none⟩ = false := World.ownsRow.frozenAt h.head a
  have hfb : w.frozen? ⟨g, b, none⟩ = false := World.ownsRow.frozenAt h.head b
  obtain ⟨aa, an, ac, hsa⟩ := h.shape a (by omega)
  obtain ⟨ba, bn, bc, hsb⟩ := h.shape b (by omega)
  have SW := h.swapN a b ha hb
  rw [hsa] at hca
  rw [hsb] at hcb
  rw [hsa, hsb] at SW
  have CH := hide (h.headChg SW.2)
  have SW1 := hide SW.1
  have st1 := World.ownsRow.stored h.head a (.slice ba bn bc)
  have hfb2 : (w.setCell ⟨g, a, none⟩ (.slice ba bn bc)).frozen? ⟨g, b, none⟩ = false := World.ownsRow.frozenAt st1.1 b
  have hcb2 : ∃ o, (w.setCell ⟨g, a, none⟩ (.slice ba bn bc)).cell? ⟨g, b, none⟩ = some o := by
    rw [World.ownsRow.cellAt st1.1 b (by omega)]
    exact ⟨_, List.getElem?_eq_getElem (by rw [List.length_set, h.len]; omega)⟩
  obtain ⟨o2, hcb2⟩ := hcb2
  clear h SW st1 hsa hsb
  go_enter Tryd.func174, Tryd.ntmps174
  go_wp2
  go_end0
  exact ⟨rfl, ⟨_, SW1.out⟩, CH.out⟩

set_option maxRecDepth 100000 in
set_option maxHeartbeats 1600000 in
theorem swapUp_calls (v : Value) (M : List (List Nat)) (n c at_ col lo hi : Nat) (w : World) (h : Mat w lo hi v (ciM M)) (hs : Sh M n c) (ha : at_ < n) (hc : col < c) (hn : n ≤ 1048576) (hcn : c ≤ 1048576) :
    Calls Tryd.prog 163 #[v, .int .i64 at_, .int .i64 col] w fun e w' => e = .returned (.bool (piv M at_ col).isSome) ∧ Mat w' lo hi v (ciM (upM M at_ (piv M at_ col))) ∧ Chg lo hi w w' := by
  obtain ⟨vs, h⟩ := h
  have hlen := hs.len
  obtain ⟨g, cap, hv, _, _, _, _⟩ := h.open (by rw [Gf.ciM_length, hlen]; omega)
  rw [Gf.ciM_length, hlen] at hv
  subst hv
  obtain ⟨pv, hpv⟩ : ∃ pv, pv = piv M at_ col := ⟨_, rfl⟩
  rw [← hpv]
  have PV := hide hpv
  have H := hide h
  have S := hide hs
  have HL := hide hlen
  have hc' : (col : Int) < (c : Int) := by omega
  clear hpv h hs hlen
  go_enter Tryd.func163, Tryd.ntmps163
  go_wp2
  go_loop [7] (fun vi => ∃ j : Nat, at_ ≤ j ∧ j ≤ n ∧ vi = .int .i64 j ∧ pv = pf M col (M.length - j) j) (fun vi => n - (intOf vi).toNat)
  case atStart => exact ⟨at_, Nat.le_refl _, by omega, rfl, PV.out⟩
  case round =>
    obtain ⟨j, hj1, hj2, rfl, hj3⟩ := hrel
    have J := hide hj3
    clear hj3
    by_cases hlt : j < n
    · have hlt' : (j : Int) < (n : Int) := by omega
      have hjl : j < (ciM M).length := by rw [Gf.ciM_length, HL.out]; exact hlt
      have hal : at_ < (ciM M).length := by rw [Gf.ciM_length, HL.out]; exact ha
      have hc1 := H.out.cell j hjl
      have hro := H.out.row j hjl
      rw [Gf.ciM_get] at hro
      obtain ⟨g2, cap2, hu, _, _, _, _⟩ := hro.open1 (by rw [Gf.ci_length, S.out.row j hlt]; omega)
      rw [Gf.ci_length, S.out.row j hlt] at hu
      have hel := hro
      rw [hu] at hel hc1
      obtain ⟨_, hce⟩ := hel.at col (by rw [Gf.ci_length, S.out.row j hlt]; exact hc)
      rw [Gf.ci_getD] at hce
      obtain ⟨x, hx⟩ : ∃ x, x = (M.getD j []).getD col 0 := ⟨_, rfl⟩
      rw [← hx] at hce
      have X := hide hx
      have HU := hide hu
      clear hel hro hx hu
      by_cases h0 : x = 0
      · subst h0
        go_wp2
        go_round
        case rel =>
          refine ⟨j + 1, by omega, by omega, by go_num, ?_⟩
          have := J.out
          rw [Gf.pf_step (by rw [HL.out]; exact hlt), ← X.out, if_neg (by simp)] at this
          exact this
        case measure => simp [intOf]; omega
      · have h0' : ((x : Int) == 0) = false := by simp; exact h0
        have hpv : pv = some j := by
          have := J.out
          rw [Gf.pf_step (by rw [HL.out]; exact hlt), ← X.out, if_pos h0] at this
          exact this
        have PJ := hide hpv
        clear hpv
        have hca := H.out.cell at_ hal
        have hfa : w.frozen? ⟨g, at_, none⟩ = false := World.ownsRow.frozenAt (by have := H.out.head; rwa [Gf.ciM_length, HL.out] at this) at_
        have hfj : w.frozen? ⟨g, j, none⟩ = false := World.ownsRow.frozenAt (by have := H.out.head; rwa [Gf.ciM_length, HL.out] at this) j
        obtain ⟨aa, an, ac, hsa⟩ := H.out.shape at_ hal
        have SW := H.out.swapN at_ j (by rw [HL.out]; exact ha) (by rw [HL.out]; exact hlt)
        rw [hsa] at hca
        rw [hsa, HU.out] at SW
        have CH := hide (H.out.headChg SW.2)
        have SW1 := hide SW.1
        have hd := H.out.head
        rw [Gf.ciM_length, HL.out] at hd
        have st1 := World.ownsRow.stored hd at_ (.slice (some ⟨g2, 0, none⟩) c cap2)
        have hfb2 : (w.setCell ⟨g, at_, none⟩ (.slice (some ⟨g2, 0, none⟩) c cap2)).frozen? ⟨g, j, none⟩ = false := World.ownsRow.frozenAt st1.1 j
        have hcb2 : ∃ o, (w.setCell ⟨g, at_, none⟩ (.slice (some ⟨g2, 0, none⟩) c cap2)).cell? ⟨g, j, none⟩ = some o := by
          rw [World.ownsRow.cellAt st1.1 j (by omega)]
          exact ⟨_, List.getElem?_eq_getElem (by rw [List.length_set, H.out.len]; exact hjl)⟩
        obtain ⟨o2, hcb2⟩ := hcb2
        have ha' : (at_ : Int) < (n : Int) := by omega
        have i0 : (0 : Int) ≤ (at_ : Int) := by omega
        have i1 : (0 : Int) ≤ (j : Int) := by omega
        clear SW st1 hsa hd
        go_wp2
        go_region
        all_goals (try go_wp2)
        all_goals
          go_ret
          have e := PJ.out
          subst e
          exact ⟨rfl, ⟨_, SW1.out.below (below_drew' (Below.refl _ _))⟩, CH.out.trans (Chg.ofBelow (below_drew' (Below.refl _ _)))⟩
    · obtain rfl : j = n := by omega
      have hpv : pv = none := by
        have := J.out
        rw [Gf.pf_end (by rw [HL.out]; exact Nat.le_refl _)] at this
        exact this
      subst hpv
      go_wp2
      go_ret
      exact ⟨rfl, ⟨_, H.out⟩, Chg.refl _ _ _⟩
end Go.Proofs.YtogopakmebiomaaDoor

namespace Go.Proofs.YtogopakmebiomaaDoor
open Go.RowKit
open Gf (ci ciM swapM pf piv Sh AllLt clearM addRow headM opM hOf fOf clr sc inv mul amTo)

set_option maxRecDepth 100000 in
set_option maxHeartbeats 1600000 in
theorem clearColumn_calls (v : Value) (M : List (List Nat)) (n c by_ col lo hi : Nat) (w : World) (hT : Gf.Tab w) (h : Mat w lo hi v (ciM M)) (hs : Sh M n c) (ha : by_ < n) (hc : col < c) (hn : n ≤ 1048576) (hcn : c ≤ 1048576) (hlo : 0 < lo) :
    Calls Tryd.prog 165 #[v, .int .i64 by_, .int .i64 col] w fun e w' => e = .returned (.tuple #[]) ∧ Mat w' lo hi v (ciM (clearM M by_ (fun i => (M.getD i []).getD col 0) n)) ∧ Chg lo hi w w' := by
  obtain ⟨vs, h⟩ := h
  have hlen := hs.len
  obtain ⟨g, cap, hv, _, _, _, _⟩ := h.open (by rw [Gf.ciM_length, hlen]; omega)
  rw [Gf.ciM_length, hlen] at hv
  subst hv
  obtain ⟨fs, hfs⟩ : ∃ fs : Nat → Nat, fs = fun i => (M.getD i []).getD col 0 := ⟨_, rfl⟩
  rw [← hfs]
  have hf256 : ∀ i, fs i < 256 := fun i => by rw [hfs]; exact hs.elt i col
  have F256 := hide hf256
  have FS := hide hfs
  have H := hide h
  have S := hide hs
  have HL := hide hlen
  have T := hide hT
  have hc' : (col : Int) < (c : Int) := by omega
  have ha' : (by_ : Int) < (n : Int) := by omega
  clear h hs hlen hT hfs hf256
  go_enter Tryd.func165, Tryd.ntmps165
  go_wp2
  go_loopw [10] (fun vi wr => ∃ k : Nat, k ≤ n ∧ vi = .int .i64 k ∧ MatV wr lo hi (.slice (some ⟨g, 0, none⟩) n cap) vs (ciM (clearM M by_ fs k)) ∧ Chg lo hi w wr) (fun vi _ => n - (intOf vi).toNat)
  case atStart => exact ⟨0, Nat.zero_le _, rfl, by rw [Gf.clearM_zero]; exact H.out, Chg.refl _ _ _⟩
  case round =>
    obtain ⟨k, hk, rfl, hM, hC⟩ := hrel
    have SC := hide (S.out.clear ha F256.out k)
    have MH := hide hM
    have C := hide hC
    clear hC
    by_cases hlt : k < n
    · have hlt' : (k : Int) < (n : Int) := by omega
      have hkl : k < (ciM (clearM M by_ fs k)).length := by rw [Gf.ciM_length, SC.out.len]; exact hlt
      have hbl : by_ < (ciM (clearM M by_ fs k)).length := by rw [Gf.ciM_length, SC.out.len]; exact ha
      have hck := hM.cell k hkl
      have hro := hM.row k hkl
      rw [Gf.ciM_get] at hro
      obtain ⟨g2, cap2, hu, _, _, _, _⟩ := hro.open1 (by rw [Gf.ci_length, SC.out.row k hlt]; omega)
      rw [Gf.ci_length, SC.out.row k hlt] at hu
      have HU := hide hu
      by_cases heq : k = by_
      · subst heq
        rw [hu] at hck
        have e1 : ((k : Int) == (k : Int)) = true := by simp
        clear hM hro hu
        go_wp2
        go_roundw
        case rel =>
          refine ⟨k + 1, by omega, by go_num, ?_, C.out⟩
          rw [← Gf.clearM_skip]
          exact MH.out
        case measure => simp [intOf]; omega
      · have e1 : ((k : Int) == (by_ : Int)) = false := by simp; omega
        have hcb := hM.cell by_ hbl
        have hgk : (clearM M by_ fs k).getD k [] = M.getD k [] := by rw [Gf.clearM_get _ _ _ _ _ (by rw [HL.out]; exact hlt), if_neg (fun h' => by omega)]
        have hgb : (clearM M by_ fs k).getD by_ [] = M.getD by_ [] := by rw [Gf.clearM_get _ _ _ _ _ (by rw [HL.out]; exact ha), if_neg (fun h' => h'.2 rfl)]
        obtain ⟨s, hss⟩ : ∃ s, s = M.getD k [] := ⟨_, rfl⟩
        obtain ⟨q, hqq⟩ : ∃ q, q = M.getD by_ [] := ⟨_, rfl⟩
        rw [hgk, ← hss] at hro
        have hsl : s.length = c := by rw [hss]; exact S.out.row k hlt
        have hql : q.length = c := by rw [hqq]; exact S.out.row by_ ha
        have hslt : AllLt s := by rw [hss]; exact S.out.lt k hlt
        have hqlt : AllLt q := by rw [hqq]; exact S.out.lt by_ ha
        obtain ⟨u, huu⟩ : ∃ u, u = vs.getD k nilRow := ⟨_, rfl⟩
        obtain ⟨bu, hbu⟩ : ∃ bu, bu = vs.getD by_ nilRow := ⟨_, rfl⟩
        rw [← hbu] at hcb
        have hO := hro
        rw [hu] at hck hro
        obtain ⟨_, hce⟩ := hro.at col (by rw [Gf.ci_length, hsl]; exact hc)
        rw [Gf.ci_getD] at hce
        obtain ⟨x, hx⟩ : ∃ x, x = s.getD col 0 := ⟨_, rfl⟩
        rw [← hx] at hce
        have hxf : fs k = x := by rw [FS.out, hx, hss]
        have hx256 : x < 256 := by rw [← hxf]; exact F256.out k
        have hnx : addRow (M.getD k []) (M.getD by_ []) (fs k) = amTo s q x 0 q.length := by rw [← hss, ← hqq, hxf, Gf.amTo_add s q x (by rw [hql, hsl])]
        have NX := hide hnx
        have O := hide hro
        have QL := hide hql
        have SL := hide hsl
        have QLT := hide hqlt
        have SLT := hide hslt
        have BU := hide hbu
        have KL := hide hkl
        have TT := hide (Gf.tab_chg T.out C.out hlo)
        have TG : Hid (∀ w', wr.grownBy w' (some g2) → Gf.Tab w') := fun w' hg => Gf.tab_grown TT.out hg (fun k hk => by have := (World.ownsRow.lt O.out k hk).1; omega)
        have QG : Hid (∀ w', wr.grownBy w' (some g2) → Rd w' bu (ci q)) := fun w' hg => by
          have := MH.out.other k by_ KL.out hbl (fun h => heq h.symm) (by rw [HU.out]; exact hg)
          rw [Gf.ciM_get, hgb, ← hqq, ← BU.out] at this
          exact this.rd
        have i0 : (0 : Int) ≤ (k : Int) := by omega
        have i1 : (0 : Int) ≤ (by_ : Int) := by omega
        have i2 : (0 : Int) ≤ (col : Int) := by omega
        clear hM hO hro hu hgk hgb hss hqq hsl hql hslt hqlt huu hbu hx hxf hnx hkl hbl
        go_wp2
        go_region_with (go_at_call 84; refine (Gf.addMultiple_calls (.slice (some ⟨g2, 0, none⟩) c cap2) bu s q x 0 lo wr.drew (fun w' hg => TG.out w' ⟨hg.os, hg.tape, hg.output, hg.size, hg.block⟩) (by exact O.out.drew) (fun w' hg => QG.out w' ⟨hg.os, hg.tape, hg.output, hg.size, hg.block⟩) (by omega) (by omega) (by omega) (by rw [QL.out, SL.out]; omega) (by rw [SL.out]; omega) SLT.out QLT.out (by rw [SL.out]; omega)).mono ?_; rintro e w' ⟨rfl, ho, hg⟩)
        all_goals
          have ho2 : Own w' lo (vs.getD k nilRow) (ci (addRow (M.getD k []) (M.getD by_ []) (fs k))) := by
            rw [NX.out, HU.out]
            simpa using ho
          have hg2' : wr.grownBy w' (vs.getD k nilRow).ownBlock := by
            rw [HU.out]
            exact ⟨hg.os, hg.tape, hg.output, hg.size, hg.block⟩
          have W2 := hide (MH.out.write k KL.out _ ho2 hg2')
          have C3 := hide (C.out.trans (MH.out.writeChg k KL.out hg2'))
          clear ho hg ho2 hg2'
          go_wp2
          go_roundw
          case rel =>
            refine ⟨k + 1, by omega, by go_num, ?_, C3.out⟩
            have := W2.out
            rw [Gf.ciM_set, Gf.clearM_step _ _ _ _ heq] at this
            exact this
          case measure => simp [intOf]; omega
    · obtain rfl : k = n := by omega
      clear hM
      go_wp2
      go_end0
      exact ⟨rfl, ⟨_, MH.out⟩, C.out⟩

/-- What the program's reduction does at a column that has something: rows swapped, made to begin with 1, the others cleared. -/
theorem clr_parts (M : List (List Nat)) (n c at_ col p : Nat) (hs : Sh M n c) (ha : at_ < n) (hp : p < n) :
    clearM (headM (swapM M at_ p) at_ (((swapM M at_ p).getD at_ []).getD col 0)) at_ (fun i => ((headM (swapM M at_ p) at_ (((swapM M at_ p).getD at_ []).getD col 0)).getD i []).getD col 0) n = clr M at_ col p := by
  have e1 : ((swapM M at_ p).getD at_ []).getD col 0 = hOf M col p := by
    rw [Gf.swapM_get _ _ _ _ (by rw [hs.len]; exact ha) (by rw [hs.len]; exact hp)]
    unfold hOf
    by_cases e : at_ = p
    · rw [if_pos e, e]
    · rw [if_neg e, if_pos rfl]
  unfold clr opM
  rw [e1, hs.len]
  unfold clearM
  apply List.map_congr_left
  intro i hi
  by_cases e : i < n ∧ i ≠ at_
  · rw [if_pos e, if_pos e]
    congr 1
    unfold fOf headM
    dsimp only
    rw [getD_set _ _ _ _ _ (by rw [Gf.swapM_length, hs.len]; exact ha), if_neg e.2]
  · rw [if_neg e, if_neg e]

set_option maxRecDepth 100000 in
set_option maxHeartbeats 1600000 in
theorem reduceRows_calls (v : Value) (M : List (List Nat)) (n c cols lo hi : Nat) (w : World) (hT : Gf.Tab w) (h : Mat w lo hi v (ciM M)) (hs : Sh M n c) (h1 : 1 ≤ n) (hc : cols ≤ c) (hn : n ≤ 1048576) (hcn : c ≤ 1048576) (hlo : 0 < lo) :
    Calls Tryd.prog 144 #[v, .int .i64 cols] w fun e w' => e = .returned (.int .i64 (Gf.redM M cols).1) ∧ Mat w' lo hi v (ciM (Gf.redM M cols).2) ∧ Chg lo hi w w' := by
  have S := hide hs
  have hlen := hs.len
  obtain ⟨va, vc, hv⟩ : ∃ a c, v = .slice a n c := by
    obtain ⟨vs, h⟩ := h
    obtain ⟨g, cap, hv, _⟩ := h.open (by rw [Gf.ciM_length, hlen]; omega)
    rw [Gf.ciM_length, hlen] at hv
    exact ⟨_, _, hv⟩
  subst hv
  have H := hide h
  have HL := hide hlen
  have T := hide hT
  obtain ⟨res, hres⟩ : ∃ r, r = Gf.redM M cols := ⟨_, rfl⟩
  rw [← hres]
  have RS := hide hres
  clear h hs hlen hT hres
  go_enter Tryd.func144, Tryd.ntmps144
  go_wp2
  go_loopw [5, 6] (fun vd vk wr => ∃ k d : Nat, ∃ A : List (List Nat), k ≤ cols ∧ d ≤ n ∧ Gf.redM M k = (d, A) ∧ vk = .int .i64 k ∧ vd = .int .i64 d ∧ Mat wr lo hi (.slice va n vc) (ciM A) ∧ Chg lo hi w wr) (fun _ vk _ => cols - (intOf vk).toNat)
  case atStart => exact ⟨0, 0, M, Nat.zero_le _, Nat.zero_le _, rfl, rfl, rfl, H.out, Chg.refl _ _ _⟩
  case round =>
    obtain ⟨k, d, A, hk, hd, hr, rfl, rfl, hM, hC⟩ := hrel
    have MH := hide hM
    have C := hide hC
    have HR := hide hr
    have hsa := (S.out.red k).1
    rw [hr] at hsa
    have SA := hide hsa
    clear hM hC hr hsa
    have done : (¬ k < cols ∨ ¬ d < n) → res = (d, A) := by
      intro hh
      rw [RS.out]
      rcases hh with hh | hh
      · obtain rfl : k = cols := by omega
        exact HR.out
      · obtain ⟨j, hj⟩ : ∃ j, cols = k + j := ⟨cols - k, by omega⟩
        rw [hj, Gf.redM_stop (by rw [HR.out, HL.out]; simp only []; omega), HR.out]
    have DN := hide done
    clear done
    by_cases hlt : k < cols
    · have hlt' : (k : Int) < (cols : Int) := by omega
      by_cases hdn : d < n
      · have hdn' : (d : Int) < (n : Int) := by omega
        go_wp2_with fail
        refine (swapUp_calls _ A n c d k lo hi _ MH.out SA.out hdn (by omega) hn hcn).mono ?_
        obtain ⟨pv, hpv⟩ : ∃ pv, pv = piv A d k := ⟨_, rfl⟩
        rw [← hpv]
        have PV := hide hpv
        rintro e w1 ⟨rfl, hm1, hc1⟩
        have M1 := hide hm1
        have C1 := hide (C.out.trans hc1)
        clear hm1 hc1
        cases pv with
        | none =>
          clear hpv
          go_wp2
          go_roundw
          case rel =>
            refine ⟨k + 1, d, A, by omega, hd, ?_, by go_num, rfl, M1.out, C1.out⟩
            rw [Gf.redM, HR.out, HL.out, if_pos hdn]
            simp only []
            rw [← PV.out]
          case measure => simp [intOf]; omega
        | some p =>
          have hp := Gf.piv_facts hpv.symm
          rw [SA.out.len] at hp
          clear hpv
          have hpn : p < n := hp.2.1
          clear hp
          have hsw := SA.out.swap d p hdn hpn
          obtain ⟨A1, hA1⟩ : ∃ A1, A1 = swapM A d p := ⟨_, rfl⟩
          have hm1 : Mat w1 lo hi (.slice va n vc) (ciM A1) := by rw [hA1]; exact M1.out
          rw [← hA1] at hsw
          obtain ⟨vs, hm1⟩ := hm1
          have hdl : d < (ciM A1).length := by rw [Gf.ciM_length, hsw.len]; exact hdn
          obtain ⟨g, cap, hv, _, _, _, _⟩ := hm1.open (by rw [Gf.ciM_length, hsw.len]; omega)
          rw [Gf.ciM_length, hsw.len] at hv
          simp only [Value.slice.injEq, true_and] at hv
          obtain ⟨rfl, rfl⟩ := hv
          have hcd := hm1.cell d hdl
          have hro := hm1.row d hdl
          rw [Gf.ciM_get] at hro
          have MV := hide hm1
          have SW := hide hsw
          have RO := hide hro
          have HA1 := hide hA1
          have DL := hide hdl
          obtain ⟨u, hu⟩ : ∃ u, u = vs.getD d nilRow := ⟨_, rfl⟩
          rw [← hu] at hcd
          have U := hide hu
          have T1 := hide (Gf.tab_chg T.out C1.out hlo)
          clear hm1 hsw hro hA1 hdl hu
          go_wp2_with fail
          refine (Gf.headOne_calls u (A1.getD d []) k lo _ T1.out (by rw [U.out]; exact RO.out) hlo (by rw [SW.out.row d hdn]; exact hcn) (SW.out.lt d hdn) (by rw [SW.out.row d hdn]; omega)).mono ?_
          rintro e w2 ⟨rfl, ho, hg⟩
          rw [U.out] at ho hg
          have hm2 := MV.out.write d DL.out _ ho hg
          have hc2 := MV.out.writeChg d DL.out hg
          rw [Gf.ciM_set] at hm2
          have M2 := hide hm2
          have C2 := hide (C1.out.trans hc2)
          have T2 := hide (Gf.tab_chg T.out C2.out hlo)
          have S2 := hide (SW.out.head d ((A1.getD d []).getD k 0) hdn)
          clear ho hg hm2 hc2
          go_wp2_with fail
          refine (clearColumn_calls _ (headM A1 d ((A1.getD d []).getD k 0)) n c d k lo hi _ T2.out ⟨_, M2.out⟩ S2.out hdn (by omega) hn hcn hlo).mono ?_
          rintro e w3 ⟨rfl, hm3, hc3⟩
          have M3 := hide hm3
          have C3 := hide (C2.out.trans hc3)
          clear hm3 hc3
          go_wp2
          go_roundw
          case rel =>
            refine ⟨k + 1, d + 1, clr A d k p, by omega, by omega, ?_, by go_num, by go_num, ?_, C3.out⟩
            · rw [Gf.redM, HR.out, HL.out, if_pos hdn]
              simp only []
              rw [← PV.out]
            · have := M3.out
              rw [HA1.out, clr_parts A n c d k p SA.out hdn hpn] at this
              exact this
          case measure => simp [intOf]; omega
      · go_wp2
        go_ret
        have := DN.out (.inr hdn)
        rw [this]
        exact ⟨rfl, MH.out, C.out⟩
    · go_wp2
      go_ret
      have := DN.out (.inl hlt)
      rw [this]
      exact ⟨rfl, MH.out, C.out⟩
end Go.Proofs.YtogopakmebiomaaDoor

namespace Go.Proofs.YtogopakmebiomaaDoor
open Go.RowKit
open Gf (ci ciM swapM pf piv Sh AllLt clearM addRow headM opM hOf fOf clr sc inv mul amTo)

def pvI : Option Nat → Int
  | some p => p
  | none => -1
def clrA (A : List (List Nat)) (at_ col : Nat) : Option Nat → List (List Nat)
  | some p => clr A at_ col p
  | none => A
def clrS (A S : List (List Nat)) (at_ col : Nat) : Option Nat → List (List Nat)
  | some p => opM S at_ p (hOf A col p) (fOf A at_ col p)
  | none => S

set_option maxRecDepth 100000 in
set_option maxHeartbeats 3200000 in
theorem l2Clear_calls (av sv : Value) (A S : List (List Nat)) (n c d at_ col lo1 hi1 lo2 hi2 : Nat) (w : World) (hA : Mat w lo1 hi1 av (ciM A)) (hS : Mat w lo2 hi2 sv (ciM S)) (sa : Sh A n c) (ss : Sh S n d) (ha : at_ < n) (hc : col < c) (hd1 : 1 ≤ d)
    (hn : n ≤ 1048576) (hcn : c ≤ 1048576) (hdn : d ≤ 1048576) (h12 : hi1 ≤ lo2) :
    Calls Tryd.prog 168 #[av, sv, .int .i64 at_, .int .i64 col] w fun e w' => e = .returned (.bool (piv A at_ col).isSome) ∧ Mat w' lo1 hi1 av (ciM (clrA A at_ col (piv A at_ col))) ∧ Mat w' lo2 hi2 sv (ciM (clrS A S at_ col (piv A at_ col))) ∧ Chg lo1 hi2 w w' := by
  have lenA := sa.len
  have lenS := ss.len
  obtain ⟨vsA, hA⟩ := hA
  obtain ⟨vsS, hS⟩ := hS
  obtain ⟨g, cap, hv, hl1, _, _, _⟩ := hA.open (by rw [Gf.ciM_length, lenA]; omega)
  rw [Gf.ciM_length, lenA] at hv
  subst hv
  obtain ⟨sg, scap, hsv, hl2, _, _, _⟩ := hS.open (by rw [Gf.ciM_length, lenS]; omega)
  rw [Gf.ciM_length, lenS] at hsv
  subst hsv
  have ht1 := hA.top g rfl
  have ht2 := hS.top sg rfl
  have hlohi : lo1 ≤ lo2 ∧ hi1 ≤ hi2 := by omega
  have LH := hide hlohi
  clear ht1 ht2 hlohi hl1 hl2
  obtain ⟨pv, hpv⟩ : ∃ pv, pv = piv A at_ col := ⟨_, rfl⟩
  rw [← hpv]
  have PV := hide hpv
  have HA := hide hA
  have HS := hide hS
  have SA := hide sa
  have SS := hide ss
  have LA := hide lenA
  have LS := hide lenS
  have hc' : (col : Int) < (c : Int) := by omega
  have i2 : (0 : Int) ≤ (col : Int) := by omega
  have i3 : (0 : Int) ≤ (at_ : Int) := by omega
  have ha' : (at_ : Int) < (n : Int) := by omega
  clear hpv hA hS sa ss lenA lenS
  go_enter Tryd.func168, Tryd.ntmps168
  go_wp2
  go_loop [9, 10] (fun vp vi => ∃ j : Nat, at_ ≤ j ∧ j ≤ n ∧ vi = .int .i64 ((j : Int) - 1) ∧ vp = .int .i64 (pvI (pf A col (n - j) j))) (fun _ vi => (intOf vi + 1).toNat)
  case atStart =>
    refine ⟨n, by omega, Nat.le_refl _, rfl, ?_⟩
    rw [Nat.sub_self]
    rfl
  case round =>
    obtain ⟨j, hj1, hj2, rfl, rfl⟩ := hrel
    by_cases hlt : at_ < j
    · obtain ⟨i, rfl⟩ : ∃ i, j = i + 1 := ⟨j - 1, by omega⟩
      have e0 : (((i + 1 : Nat) : Int) - 1) = (i : Int) := by omega
      have hin : i < n := by omega
      have hil : i < (ciM A).length := by rw [Gf.ciM_length, LA.out]; exact hin
      have hc1 := HA.out.cell i hil
      have hro := HA.out.row i hil
      rw [Gf.ciM_get] at hro
      obtain ⟨g2, cap2, hu, _, _, _, _⟩ := hro.open1 (by rw [Gf.ci_length, SA.out.row i hin]; omega)
      rw [Gf.ci_length, SA.out.row i hin] at hu
      rw [hu] at hro hc1
      obtain ⟨_, hce⟩ := hro.at col (by rw [Gf.ci_length, SA.out.row i hin]; exact hc)
      rw [Gf.ci_getD] at hce
      obtain ⟨x, hx⟩ : ∃ x, x = (A.getD i []).getD col 0 := ⟨_, rfl⟩
      rw [← hx] at hce
      obtain ⟨old, hold⟩ : ∃ o, o = pvI (pf A col (n - (i + 1)) (i + 1)) := ⟨_, rfl⟩
      rw [← hold]
      have hst := Gf.pf_step (M := A) (col := col) (j := i) (by rw [LA.out]; exact hin)
      rw [← hx, LA.out] at hst
      have ST := hide hst
      have OLD := hide hold
      have i0 : (0 : Int) ≤ (i : Int) := by omega
      have i1 : (i : Int) < (n : Int) := by omega
      have i4 : (at_ : Int) ≤ (i : Int) := by omega
      clear hro hu hx hold hst
      by_cases h0 : x = 0
      · subst h0
        go_wp2
        go_round
        case rel =>
          refine ⟨i, by omega, by omega, by go_num, ?_⟩
          rw [ST.out, if_neg (by simp), OLD.out]
        case measure => simp [intOf] <;> omega
      · have h0' : ((x : Int) == 0) = false := by simp; exact h0
        go_wp2
        go_round
        case rel =>
          refine ⟨i, by omega, by omega, by go_num, ?_⟩
          rw [ST.out, if_pos h0]
          show Value.int .i64 _ = Value.int .i64 ((i : Nat) : Int)
          first | rfl | rw [show (((i + 1 : Nat) : Int) - 1) = (i : Int) from by omega]
        case measure => simp [intOf] <;> omega
    · obtain rfl : j = at_ := by omega
      have hpe : pf A col (n - j) j = pv := by rw [PV.out]; unfold piv; rw [LA.out]
      rw [hpe]
      have e9 : ¬ ((j : Int) ≤ (j : Int) - 1) := by omega
      cases pv with
      | none =>
        have e1 : pvI none = -1 := rfl
        rw [e1]
        clear hpe e1
        go_wp2
        go_ret
        exact ⟨rfl, ⟨_, HA.out⟩, ⟨_, HS.out⟩, Chg.refl _ _ _⟩
      | some p =>
        have e1 : pvI (some p) = (p : Int) := rfl
        rw [e1]
        have hp := Gf.piv_facts PV.out.symm
        rw [LA.out] at hp
        have hpn : p < n := hp.2.1
        have hp0 : ¬ ((p : Int) < 0) := by omega
        clear hpe e1 hp
        go_wp2_with fail
        refine (l2Swap_calls _ A j p lo1 hi1 _ ⟨_, HA.out⟩ (by rw [LA.out]; exact ha) (by rw [LA.out]; exact hpn) (by rw [LA.out]; exact hn)).mono ?_
        rintro e w1 ⟨rfl, hm1, hc1⟩
        have M1 := hide hm1
        have S1 := hide (HS.out.chg hc1 (.inr h12))
        have C1 := hide (hc1.wider (Nat.le_refl _) LH.out.2)
        clear hm1 hc1
        go_wp2_with fail
        refine (l2Swap_calls _ S j p lo2 hi2 _ ⟨_, S1.out⟩ (by rw [LS.out]; exact ha) (by rw [LS.out]; exact hpn) (by rw [LS.out]; exact hn)).mono ?_
        rintro e w2 ⟨rfl, hm2, hc2⟩
        obtain ⟨va, hva⟩ := M1.out
        have hma := hva.chg hc2 (.inl h12)
        have C2 := hide (C1.out.trans (hc2.wider LH.out.1 (Nat.le_refl _)))
        obtain ⟨vs, hms⟩ := hm2
        clear hc2 hva
        obtain ⟨A1, hA1⟩ : ∃ A1, A1 = swapM A j p := ⟨_, rfl⟩
        obtain ⟨S1', hS1'⟩ : ∃ S1, S1 = swapM S j p := ⟨_, rfl⟩
        have shA := SA.out.swap j p ha hpn
        have shS := SS.out.swap j p ha hpn
        have hH : ((swapM A j p).getD j []).getD col 0 = hOf A col p := by
          rw [Gf.swapM_get _ _ _ _ (by rw [LA.out]; exact ha) (by rw [LA.out]; exact hpn)]
          unfold hOf
          by_cases e : j = p
          · rw [if_pos e, e]
          · rw [if_neg e, if_pos rfl]
        obtain ⟨x, hx⟩ : ∃ x, x = hOf A col p := ⟨_, rfl⟩
        have hx256 : x < 256 := by rw [hx]; exact SA.out.elt p col
        rw [← hx, ← hA1] at hH
        rw [← hA1] at hma shA
        rw [← hS1'] at hms shS
        have hjl : j < (ciM A1).length := by rw [Gf.ciM_length, shA.len]; exact ha
        have hjs : j < (ciM S1').length := by rw [Gf.ciM_length, shS.len]; exact ha
        have hcj := hma.cell j hjl
        have hro := hma.row j hjl
        rw [Gf.ciM_get] at hro
        obtain ⟨g2, cap2, hu, _, _, _, _⟩ := hro.open1 (by rw [Gf.ci_length, shA.row j ha]; omega)
        rw [Gf.ci_length, shA.row j ha] at hu
        have HU := hide hu
        have RO := hide hro
        rw [hu] at hcj hro
        obtain ⟨_, hce⟩ := hro.at col (by rw [Gf.ci_length, shA.row j ha]; exact hc)
        rw [Gf.ci_getD, hH] at hce
        have HA1 := hide hA1
        have HS1 := hide hS1'
        have HX := hide hx
        have MA := hide hma
        have MS := hide hms
        have ShA := hide shA
        have ShS := hide shS
        have JL := hide hjl
        have JS := hide hjs
        clear hA1 hS1' hx hma hms shA shS hjl hjs hro hu hH
        go_wp2_with fail
        refine (Gf.l2Scale_calls _ (A1.getD j []) x lo1 _ (by rw [← HU.out]; exact RO.out) (by rw [ShA.out.row j ha]; exact hcn) (ShA.out.lt j ha) (by rw [ShA.out.row j ha]; omega) hx256).mono ?_
        rintro e w3 ⟨rfl, ho, hg⟩
        rw [← HU.out] at ho hg
        have hm3 := MA.out.write j JL.out _ ho hg
        have hc3 := MA.out.writeChg j JL.out hg
        rw [Gf.ciM_set] at hm3
        have hs3 := MS.out.chg hc3 (.inr h12)
        have C3 := hide (C2.out.trans (hc3.wider (Nat.le_refl _) LH.out.2))
        have M3 := hide hm3
        have hcs := hs3.cell j JS.out
        have hros := hs3.row j JS.out
        rw [Gf.ciM_get] at hros
        obtain ⟨su, hsu⟩ : ∃ su, su = vs.getD j nilRow := ⟨_, rfl⟩
        rw [← hsu] at hcs
        have SU := hide hsu
        have S3 := hide hs3
        have ROS := hide hros
        clear ho hg hm3 hc3 hs3 hros hsu hcj hce
        go_wp2_with fail
        refine (Gf.l2Scale_calls su (S1'.getD j []) x lo2 _ (by rw [SU.out]; exact ROS.out) (by rw [ShS.out.row j ha]; exact hdn) (ShS.out.lt j ha) (by rw [ShS.out.row j ha]; omega) hx256).mono ?_
        rintro e w4 ⟨rfl, ho, hg⟩
        rw [SU.out] at ho hg
        have hs4 := S3.out.write j JS.out _ ho hg
        have hc4 := S3.out.writeChg j JS.out hg
        rw [Gf.ciM_set] at hs4
        have hm4 := M3.out.chg hc4 (.inl h12)
        have C4 := hide (C3.out.trans (hc4.wider LH.out.1 (Nat.le_refl _)))
        obtain ⟨A2, hA2⟩ : ∃ A2, A2 = headM A1 j x := ⟨_, rfl⟩
        obtain ⟨S2, hS2⟩ : ∃ S2, S2 = headM S1' j x := ⟨_, rfl⟩
        have shA2 := ShA.out.head j x ha
        have shS2 := ShS.out.head j x ha
        rw [← hA2] at shA2
        rw [← hS2] at shS2
        have hm4' : MatV w4 lo1 hi1 (.slice (some ⟨g, 0, none⟩) n cap) va (ciM A2) := by rw [hA2]; exact hm4
        have hs4' : MatV w4 lo2 hi2 (.slice (some ⟨sg, 0, none⟩) n scap) vs (ciM S2) := by rw [hS2]; exact hs4
        obtain ⟨fs, hfs⟩ : ∃ fs, fs = fOf A j col p := ⟨_, rfl⟩
        have hf256 : ∀ i, fs i < 256 := fun i => by rw [hfs]; exact (SA.out.swap j p ha hpn).elt i col
        have hfsk : ∀ k, k ≠ j → (A2.getD k []).getD col 0 = fs k := by
          intro k hk
          rw [hA2, hfs, HA1.out]
          unfold headM fOf
          rw [getD_set _ _ _ _ _ (by rw [Gf.swapM_length, LA.out]; exact ha), if_neg hk]
        have M4 := hide hm4'
        have S4 := hide hs4'
        have SA2 := hide shA2
        have SS2 := hide shS2
        have F256 := hide hf256
        have FSK := hide hfsk
        have HFS := hide hfs
        have HA2 := hide hA2
        have HS2 := hide hS2
        clear ho hg hs4 hc4 hm4 hm4' hs4' hA2 hS2 shA2 shS2 hfs hf256 hfsk hcs
        go_wp2
        go_loopw [62] (fun vi wr => ∃ k : Nat, k ≤ n ∧ vi = .int .i64 k ∧ MatV wr lo1 hi1 (.slice (some ⟨g, 0, none⟩) n cap) va (ciM (clearM A2 j fs k)) ∧ MatV wr lo2 hi2 (.slice (some ⟨sg, 0, none⟩) n scap) vs (ciM (clearM S2 j fs k)) ∧ Chg lo1 hi2 w wr) (fun vi _ => n - (intOf vi).toNat)
        case atStart => exact ⟨0, Nat.zero_le _, rfl, by rw [Gf.clearM_zero]; exact M4.out, by rw [Gf.clearM_zero]; exact S4.out, C4.out⟩
        case round =>
          obtain ⟨k, hk, rfl, hM, hSM, hC⟩ := hrel
          have SC := hide (SA2.out.clear ha F256.out k)
          have SCS := hide (SS2.out.clear ha F256.out k)
          have MH := hide hM
          have MSH := hide hSM
          have C := hide hC
          clear hC
          by_cases hlt : k < n
          · have hlt' : (k : Int) < (n : Int) := by omega
            have hkl : k < (ciM (clearM A2 j fs k)).length := by rw [Gf.ciM_length, SC.out.len]; exact hlt
            have hbl : j < (ciM (clearM A2 j fs k)).length := by rw [Gf.ciM_length, SC.out.len]; exact ha
            have hkls : k < (ciM (clearM S2 j fs k)).length := by rw [Gf.ciM_length, SCS.out.len]; exact hlt
            have hbls : j < (ciM (clearM S2 j fs k)).length := by rw [Gf.ciM_length, SCS.out.len]; exact ha
            have hck := hM.cell k hkl
            have hro := hM.row k hkl
            rw [Gf.ciM_get] at hro
            have hgk : (clearM A2 j fs k).getD k [] = A2.getD k [] := by rw [Gf.clearM_get _ _ _ _ _ (by rw [SA2.out.len]; exact hlt), if_neg (fun h' => by omega)]
            rw [hgk] at hro
            obtain ⟨g3, cap3, hu, _, _, _, _⟩ := hro.open1 (by rw [Gf.ci_length, SA2.out.row k hlt]; omega)
            rw [Gf.ci_length, SA2.out.row k hlt] at hu
            have HU3 := hide hu
            rw [hu] at hck hro
            obtain ⟨_, hce⟩ := hro.at col (by rw [Gf.ci_length, SA2.out.row k hlt]; exact hc)
            rw [Gf.ci_getD] at hce
            have i0 : (0 : Int) ≤ (k : Int) := by omega
            obtain ⟨f, hf⟩ : ∃ f, f = (A2.getD k []).getD col 0 := ⟨_, rfl⟩
            rw [← hf] at hce
            have O := hide hro
            by_cases heq : k = j
            · subst heq
              have e1 : ((k : Int) == (k : Int)) = true := by simp
              clear hM hSM hro hu hf
              go_wp2
              go_roundw
              case rel =>
                refine ⟨k + 1, by omega, by go_num, ?_, ?_, C.out⟩
                · rw [← Gf.clearM_skip]; exact MH.out
                · rw [← Gf.clearM_skip]; exact MSH.out
              case measure => simp [intOf]; omega
            · have e1 : ((k : Int) == (j : Int)) = false := by simp; omega
              have hfk := FSK.out k heq
              rw [← hf] at hfk
              by_cases hf0 : f = 0
              · have hz : fs k = 0 := by rw [← hfk, hf0]
                have Z := hide hz
                subst hf0
                clear hM hSM hro hu hf hfk hz
                go_wp2
                go_roundw
                case rel =>
                  refine ⟨k + 1, by omega, by go_num, ?_, ?_, C.out⟩
                  · rw [← Gf.clearM_same A2 j fs k (by rw [SA2.out.len]; exact hlt) (by rw [Z.out]; exact Gf.addRow_zero (by rw [SA2.out.row k hlt, SA2.out.row j ha]) (SA2.out.lt j ha))]
                    exact MH.out
                  · rw [← Gf.clearM_same S2 j fs k (by rw [SS2.out.len]; exact hlt) (by rw [Z.out]; exact Gf.addRow_zero (by rw [SS2.out.row k hlt, SS2.out.row j ha]) (SS2.out.lt j ha))]
                    exact MSH.out
                case measure => simp [intOf]; omega
              · have e2 : ((f : Int) == 0) = false := by simp; exact hf0
                have e3 : ((f : Int) != 0) = true := by simp; exact hf0
                have e4 : ((k : Int) != (j : Int)) = true := by simp; omega
                have hgb : (clearM A2 j fs k).getD j [] = A2.getD j [] := by rw [Gf.clearM_get _ _ _ _ _ (by rw [SA2.out.len]; exact ha), if_neg (fun h' => h'.2 rfl)]
                have hgks : (clearM S2 j fs k).getD k [] = S2.getD k [] := by rw [Gf.clearM_get _ _ _ _ _ (by rw [SS2.out.len]; exact hlt), if_neg (fun h' => by omega)]
                have hgbs : (clearM S2 j fs k).getD j [] = S2.getD j [] := by rw [Gf.clearM_get _ _ _ _ _ (by rw [SS2.out.len]; exact ha), if_neg (fun h' => h'.2 rfl)]
                have hcb := hM.cell j hbl
                have hf256 : f < 256 := by rw [hfk]; exact F256.out k
                obtain ⟨bu, hbu⟩ : ∃ bu, bu = va.getD j nilRow := ⟨_, rfl⟩
                rw [← hbu] at hcb
                have BU := hide hbu
                have FK := hide hfk
                have KL := hide hkl
                have BL := hide hbl
                have KLS := hide hkls
                have BLS := hide hbls
                have GB := hide hgb
                have GKS := hide hgks
                have GBS := hide hgbs
                have QG : Hid (∀ w', wr.grownBy w' (some g3) → Rd w' bu (ci (A2.getD j []))) := fun w' hg => by
                  have := MH.out.other k j KL.out BL.out (fun h => heq h.symm) (by rw [HU3.out]; exact hg)
                  rw [Gf.ciM_get, GB.out, ← BU.out] at this
                  exact this.rd
                have i1 : (0 : Int) ≤ (j : Int) := by omega
                have DD := hide (SS2.out.row k hlt)
                have DJ := hide (SS2.out.row j ha)
                have CC := hide (SA2.out.row k hlt)
                have CJ := hide (SA2.out.row j ha)
                clear hM hSM hro hu hf hfk hbu hkl hbl hkls hbls hgb hgks hgbs hgk
                go_wp2
                go_region_with (go_at_call 117; refine (Gf.l2Add_calls (.slice (some ⟨g3, 0, none⟩) c cap3) bu (A2.getD k []) (A2.getD j []) f lo1 wr.drew (by exact O.out.drew) (fun w' hg => QG.out w' ⟨hg.os, hg.tape, hg.output, hg.size, hg.block⟩) hf256 (by rw [CC.out, CJ.out]; omega) (by rw [CC.out]; omega) (SA2.out.lt k hlt) (SA2.out.lt j ha) (by rw [CC.out]; omega)).mono ?_; rintro e w' ⟨rfl, ho, hg⟩)
                all_goals
                  have ho2 : Own w' lo1 (va.getD k nilRow) (ci (addRow (A2.getD k []) (A2.getD j []) (fs k))) := by
                    rw [HU3.out, ← FK.out, ← Gf.amTo_add _ _ _ (by rw [CC.out, CJ.out])]
                    exact ho
                  have hg2' : wr.grownBy w' (va.getD k nilRow).ownBlock := by
                    rw [HU3.out]
                    exact ⟨hg.os, hg.tape, hg.output, hg.size, hg.block⟩
                  have hM5 := MH.out.write k KL.out _ ho2 hg2'
                  have hC5 := MH.out.writeChg k KL.out hg2'
                  rw [Gf.ciM_set, Gf.clearM_step _ _ _ _ heq] at hM5
                  have hS5 := MSH.out.chg hC5 (.inr h12)
                  have M5 := hide hM5
                  have S5 := hide hS5
                  have C5 := hide (C.out.trans (hC5.wider (Nat.le_refl _) LH.out.2))
                  have hck2 := hS5.cell k KLS.out
                  have hcb2 := hS5.cell j BLS.out
                  have hro2 := hS5.row k KLS.out
                  rw [Gf.ciM_get, GKS.out] at hro2
                  obtain ⟨su2, hsu2⟩ : ∃ su, su = vs.getD k nilRow := ⟨_, rfl⟩
                  obtain ⟨sb2, hsb2⟩ : ∃ sb, sb = vs.getD j nilRow := ⟨_, rfl⟩
                  rw [← hsu2] at hck2 hro2
                  rw [← hsb2] at hcb2
                  have SU2 := hide hsu2
                  have SB2 := hide hsb2
                  have O5 := hide hro2
                  have QG5 : Hid (∀ w2, w'.grownBy w2 su2.ownBlock → Rd w2 sb2 (ci (S2.getD j []))) := fun w2 hg => by
                    have := S5.out.other k j KLS.out BLS.out (fun h => heq h.symm) (by rw [← SU2.out]; exact hg)
                    rw [Gf.ciM_get, GBS.out, ← SB2.out] at this
                    exact this.rd
                  clear ho hg ho2 hg2' hM5 hC5 hS5 hro2 hsu2 hsb2
                  go_wp2
                  go_region_with (go_at_call 117; refine (Gf.l2Add_calls su2 sb2 (S2.getD k []) (S2.getD j []) f lo2 w'.drew (by exact O5.out.drew) (fun w2 hg => QG5.out w2 ⟨hg.os, hg.tape, hg.output, hg.size, hg.block⟩) hf256 (by rw [DD.out, DJ.out]; omega) (by rw [DD.out]; omega) (SS2.out.lt k hlt) (SS2.out.lt j ha) (by rw [DD.out]; omega)).mono ?_; rintro e w6 ⟨rfl, ho, hg⟩)
                  all_goals
                    have ho2 : Own w6 lo2 (vs.getD k nilRow) (ci (addRow (S2.getD k []) (S2.getD j []) (fs k))) := by
                      rw [← SU2.out, ← FK.out, ← Gf.amTo_add _ _ _ (by rw [DD.out, DJ.out])]
                      exact ho
                    have hg2' : w'.grownBy w6 (vs.getD k nilRow).ownBlock := by
                      rw [← SU2.out]
                      exact ⟨hg.os, hg.tape, hg.output, hg.size, hg.block⟩
                    have hM6 := S5.out.write k KLS.out _ ho2 hg2'
                    have hC6 := S5.out.writeChg k KLS.out hg2'
                    rw [Gf.ciM_set, Gf.clearM_step _ _ _ _ heq] at hM6
                    have M6 := hide (M5.out.chg hC6 (.inl h12))
                    have S6 := hide hM6
                    have C6 := hide (C5.out.trans (hC6.wider LH.out.1 (Nat.le_refl _)))
                    clear ho hg ho2 hg2' hM6 hC6
                    go_wp2
                    go_roundw
                    case rel => exact ⟨k + 1, by omega, by go_num, M6.out, S6.out, C6.out⟩
                    case measure => simp [intOf]; omega
          · obtain rfl : k = n := by omega
            clear hM hSM
            go_wp2
            go_ret
            refine ⟨rfl, ⟨va, ?_⟩, ⟨vs, ?_⟩, C.out⟩
            · have := MH.out
              rw [HA2.out, HA1.out, HX.out, HFS.out] at this
              unfold clrA clr opM
              rw [LA.out]
              exact this
            · have := MSH.out
              rw [HS2.out, HS1.out, HX.out, HFS.out] at this
              unfold clrS opM
              rw [LS.out]
              exact this
end Go.Proofs.YtogopakmebiomaaDoor

/-
  What has no inverse takes a column of numbers, not all 0, to noughts; what has one is undone by it: plain mathematics. No call is walked here.
-/
import Derived.Test.YtogopakmebiomaaDoorKern
namespace Go.Proofs.YtogopakmebiomaaDoor
open Go.RowKit
namespace Gf

theorem headM_get {M : List (List Nat)} {n c : Nat} (hm : Sh M n c) (at_ x i : Nat) (ha : at_ < n) : (headM M at_ x).getD i [] = if i = at_ then sc (M.getD at_ []) (inv x) else M.getD i [] := by
  unfold headM
  rw [getD_set _ _ _ _ _ (by rw [hm.len]; exact ha)]
/-- The rows behind one step: s is the matrix with its row swapped up. -/
theorem opM_get {M : List (List Nat)} {n c : Nat} (hm : Sh M n c) (at_ p x : Nat) (fs : Nat → Nat) (i : Nat) (ha : at_ < n) (hp : p < n) (hi : i < n) :
    (opM M at_ p x fs).getD i [] = if i = at_ then sc ((swapM M at_ p).getD at_ []) (inv x) else addRow ((swapM M at_ p).getD i []) (sc ((swapM M at_ p).getD at_ []) (inv x)) (fs i) := by
  have hs := hm.swap at_ p ha hp
  have hh := hs.head at_ x ha
  unfold opM
  rw [clearM_get _ _ _ _ _ (by rw [hh.len]; exact hi), headM_get hs at_ x i ha, headM_get hs at_ x at_ ha, if_pos rfl, hm.len]
  by_cases e : i = at_
  · subst e
    rw [if_neg (fun h => h.2 rfl), if_pos rfl, if_pos rfl]
  · rw [if_pos ⟨hi, e⟩, if_neg e, if_neg e]
theorem pf_none {M : List (List Nat)} {col : Nat} : ∀ d j, pf M col d j = none → ∀ i, j ≤ i → i < j + d → (M.getD i []).getD col 0 = 0 := by
  intro d
  induction d with
  | zero => intro j _ i h1 h2; omega
  | succ d ih =>
    intro j h i h1 h2
    rw [pf] at h
    by_cases e : (M.getD j []).getD col 0 ≠ 0
    · rw [if_pos e] at h; cases h
    · rw [if_neg e] at h
      by_cases e2 : i = j
      · subst e2; exact Classical.not_not.1 e
      · exact ih (j + 1) h i (by omega) (by omega)
theorem piv_none {M : List (List Nat)} {n c at_ col : Nat} (hm : Sh M n c) (h : piv M at_ col = none) (i : Nat) (h1 : at_ ≤ i) (h2 : i < n) : (M.getD i []).getD col 0 = 0 := by
  unfold piv at h
  rw [hm.len] at h
  exact pf_none _ _ h i h1 (by omega)

/-- A step can be taken back: what its rows take to noughts the rows ahead of it do. -/
theorem op_kern {M : List (List Nat)} {n c at_ p x : Nat} {fs : Nat → Nat} {z : List Nat} (hm : Sh M n c) (ha : at_ < n) (hp : p < n) (hx : x < 256) (hx0 : x ≠ 0) (hf : ∀ i, fs i < 256) (hz : AllLt z)
    (h : ∀ i, i < n → dotTo ((opM M at_ p x fs).getD i []) z c = 0) : ∀ i, i < n → dotTo (M.getD i []) z c = 0 := by
  have hs := hm.swap at_ p ha hp
  have e0 := h at_ ha
  rw [opM_get hm at_ p x fs at_ ha hp ha, if_pos rfl, dot_sc (hs.lt at_ ha) hz (inv_lt x) c (by rw [hs.row at_ ha]; exact Nat.le_refl _)] at e0
  have s0 : dotTo ((swapM M at_ p).getD at_ []) z c = 0 := by
    rcases mul_eq_zero _ _ (inv_lt x) (dotTo_lt (hs.lt at_ ha) c) e0 with e | e
    · exact absurd e (inv_ne hx hx0)
    · exact e
  have sw : ∀ i, i < n → dotTo ((swapM M at_ p).getD i []) z c = 0 := by
    intro i hi
    by_cases e : i = at_
    · rw [e]; exact s0
    · have ei := h i hi
      rw [opM_get hm at_ p x fs i ha hp hi, if_neg e, dot_add (hs.lt i hi) (sc_lt (inv_lt x)) hz (hf i) (by rw [sc_length, hs.row i hi, hs.row at_ ha]) c (by rw [hs.row i hi]; exact Nat.le_refl _), dot_sc (hs.lt at_ ha) hz (inv_lt x) c (by rw [hs.row at_ ha]; exact Nat.le_refl _)] at ei
      rw [s0, mul_zero, mul_zero, Nat.xor_zero] at ei
      exact ei
  intro i hi
  by_cases e1 : i = at_
  · have := sw p hp
    rw [swapM_get _ _ _ _ (by rw [hm.len]; exact ha) (by rw [hm.len]; exact hp), if_pos rfl] at this
    rw [e1]; exact this
  · by_cases e2 : i = p
    · have := sw at_ ha
      rw [swapM_get _ _ _ _ (by rw [hm.len]; exact ha) (by rw [hm.len]; exact hp)] at this
      by_cases e3 : at_ = p
      · exact absurd (e2.trans e3.symm) e1
      · rw [if_neg e3, if_pos rfl] at this
        rw [e2]; exact this
    · have := sw i hi
      rw [swapM_get _ _ _ _ (by rw [hm.len]; exact ha) (by rw [hm.len]; exact hp), if_neg e2, if_neg e1] at this
      exact this
theorem clr_kern {A : List (List Nat)} {n c k p : Nat} {z : List Nat} (ha : Sh A n c) (hk : k < n) (hp : piv A k k = some p) (hz : AllLt z) (h : ∀ i, i < n → dotTo ((clr A k k p).getD i []) z c = 0) : ∀ i, i < n → dotTo (A.getD i []) z c = 0 := by
  obtain ⟨_, h2, h3⟩ := piv_facts hp
  rw [ha.len] at h2
  exact op_kern ha hk h2 (ha.elt p k) h3 (fun i => (ha.swap k p hk h2).elt i k) hz h
theorem inv_kern {A S : List (List Nat)} {n c d : Nat} {z : List Nat} (ha : Sh A n c) (hs : Sh S n d) (hz : AllLt z) : ∀ k, k ≤ n → ∀ q, invTo A S k = some q → (∀ i, i < n → dotTo (q.1.getD i []) z c = 0) → ∀ i, i < n → dotTo (A.getD i []) z c = 0 := by
  intro k
  induction k with
  | zero => intro _ q h hh; simp only [invTo, Option.some.injEq] at h; subst h; exact hh
  | succ k ih =>
    intro hk q h hh
    rw [invTo] at h
    cases e : invTo A S k with
    | none => rw [e] at h; simp at h
    | some r =>
      obtain ⟨h1, h2⟩ := invTo_sh ha hs k (by omega) r e
      rw [e] at h
      simp only [] at h
      cases e2 : piv r.1 k k with
      | none => rw [e2] at h; simp at h
      | some p =>
        rw [e2] at h
        simp only [Option.some.injEq] at h
        subst h
        exact ih (by omega) r e (clr_kern h1 (by omega) e2 hz hh)
/-- The columns that are cleared are the identity's. -/
theorem inv_unit {A S : List (List Nat)} {n c d : Nat} (ha : Sh A n c) (hs : Sh S n d) (hc : n ≤ c) : ∀ k, k ≤ n → ∀ q, invTo A S k = some q → ∀ i j, i < n → j < k → (q.1.getD i []).getD j 0 = if i = j then 1 else 0 := by
  intro k
  induction k with
  | zero => intro _ q _ i j _ hj; omega
  | succ k ih =>
    intro hk q h i j hi hj
    rw [invTo] at h
    cases e : invTo A S k with
    | none => rw [e] at h; simp at h
    | some r =>
      obtain ⟨h1, h2⟩ := invTo_sh ha hs k (by omega) r e
      rw [e] at h
      simp only [] at h
      cases e2 : piv r.1 k k with
      | none => rw [e2] at h; simp at h
      | some p =>
        rw [e2] at h
        simp only [Option.some.injEq] at h
        subst h
        simp only []
        obtain ⟨hp1, hp2, hp3⟩ := piv_facts e2
        rw [h1.len] at hp2
        have hs1 := h1.swap k p (by omega) hp2
        have U := ih (by omega) r e
        have lk : k < r.1.length := by rw [h1.len]; omega
        have lp : p < r.1.length := by rw [h1.len]; exact hp2
        have hx : hOf r.1 k p = ((swapM r.1 k p).getD k []).getD k 0 := by
          unfold hOf
          rw [swapM_get _ _ _ _ lk lp]
          by_cases e3 : k = p
          · rw [if_pos e3, e3]
          · rw [if_neg e3, if_pos rfl]
        have sU : ∀ i j, i < n → j < k → ((swapM r.1 k p).getD i []).getD j 0 = if i = j then 1 else 0 := by
          intro i j hi hj
          rw [swapM_get _ _ _ _ lk lp]
          by_cases e3 : i = p
          · rw [if_pos e3, U k j (by omega) hj, if_neg (by omega), if_neg (by omega)]
          · rw [if_neg e3]
            by_cases e4 : i = k
            · rw [if_pos e4, U p j hp2 hj, if_neg (by omega), if_neg (by omega)]
            · rw [if_neg e4]; exact U i j hi hj
        have x0 : hOf r.1 k p ≠ 0 := hp3
        have x256 : hOf r.1 k p < 256 := h1.elt p k
        unfold clr
        rw [opM_get h1 k p _ _ i (by omega) hp2 hi]
        have rowk : ∀ j, j < c → (sc ((swapM r.1 k p).getD k []) (inv (hOf r.1 k p))).getD j 0 = mul (inv (hOf r.1 k p)) (((swapM r.1 k p).getD k []).getD j 0) := fun j hj => sc_get _ _ _ (by rw [hs1.row k (by omega)]; exact hj)
        by_cases e3 : i = k
        · rw [if_pos e3, rowk j (by omega)]
          by_cases e4 : j = k
          · rw [e4, ← hx, mul_comm _ _ (inv_lt _) x256, mul_inv _ x256 x0, if_pos (by omega)]
          · rw [sU k j (by omega) (by omega), if_neg (by omega), mul_zero, if_neg (by omega)]
        · rw [if_neg e3, addRow_get _ _ _ _ (by rw [hs1.row i hi]; omega) (by rw [sc_length, hs1.row k (by omega)]; omega), rowk j (by omega)]
          by_cases e4 : j = k
          · have ff : fOf r.1 k k p i = ((swapM r.1 k p).getD i []).getD k 0 := rfl
            rw [e4, ← hx, mul_comm _ _ (inv_lt _) x256, mul_inv _ x256 x0, ff, mul_one _ (hs1.elt i k), if_neg (by omega)]
            exact Nat.xor_self _
          · rw [sU k j (by omega) (by omega), if_neg (by omega), mul_zero, mul_zero, Nat.xor_zero, sU i j hi (by omega)]
/-- What a column that cannot be cleared takes to noughts. -/
def kerZ (A : List (List Nat)) (k c : Nat) : List Nat := (List.range c).map fun j => if j < k then (A.getD j []).getD k 0 else if j = k then 1 else 0
theorem kerZ_get (A : List (List Nat)) (k c j : Nat) (h : j < c) : (kerZ A k c).getD j 0 = if j < k then (A.getD j []).getD k 0 else if j = k then 1 else 0 := by simp [kerZ, h]
theorem kerZ_lt {A : List (List Nat)} {n k c : Nat} {d : Nat} (ha : Sh A n d) : AllLt (kerZ A k c) := by
  intro j
  by_cases h : j < c
  · rw [kerZ_get _ _ _ _ h]
    split
    · exact ha.elt j k
    · split <;> omega
  · rw [List.getD_eq_getElem?_getD, List.getElem?_eq_none (by simp [kerZ]; omega)]; decide
theorem ker_dot {A : List (List Nat)} {n c k : Nat} (ha : Sh A n c) (hU : ∀ i j, i < n → j < k → (A.getD i []).getD j 0 = if i = j then 1 else 0) (i : Nat) (hi : i < n) : ∀ m, m ≤ c →
    dotTo (A.getD i []) (kerZ A k c) m = (if i < k ∧ i < m then (A.getD i []).getD k 0 else 0) ^^^ (if k < m then (A.getD i []).getD k 0 else 0) := by
  intro m
  induction m with
  | zero => intro _; simp [dotTo]
  | succ m ih =>
    intro hm
    rw [dotTo, ih (by omega), kerZ_get _ _ _ _ (by omega)]
    by_cases h1 : m < k
    · rw [if_pos h1, hU i m hi h1, if_neg (show ¬ k < m by omega), if_neg (show ¬ k < m + 1 by omega), Nat.xor_zero, Nat.xor_zero]
      by_cases h2 : i = m
      · subst h2
        rw [if_pos rfl, one_mul _ (ha.elt i k), if_neg (by omega), if_pos (by omega), Nat.zero_xor]
      · rw [if_neg h2, zero_mul (ha.elt m k), Nat.xor_zero]
        by_cases h3 : i < k ∧ i < m
        · rw [if_pos h3, if_pos (by omega)]
        · rw [if_neg h3, if_neg (by omega)]
    · rw [if_neg h1]
      by_cases h2 : m = k
      · subst h2
        rw [if_pos rfl, mul_one _ (ha.elt i m), if_neg (show ¬ m < m by omega), Nat.xor_zero, if_pos (show m < m + 1 by omega)]
        by_cases h3 : i < m
        · rw [if_pos ⟨h3, h3⟩, if_pos (by omega)]
        · rw [if_neg (by omega), if_neg (by omega)]
      · rw [if_neg h2, mul_zero, Nat.xor_zero]
        have e1 : (i < k ∧ i < m) ↔ (i < k ∧ i < m + 1) := by omega
        have e2 : k < m ↔ k < m + 1 := by omega
        simp only [e1, e2]
/-- A square matrix that takes nothing but noughts to noughts has an inverse. -/
theorem inv_exists {A S : List (List Nat)} {n d : Nat} (ha : Sh A n n) (hs : Sh S n d) (hk : ∀ z : List Nat, z.length = n → AllLt z → (∀ i, i < n → dotTo (A.getD i []) z n = 0) → ∀ j, j < n → z.getD j 0 = 0) : ∀ k, k ≤ n → ∃ q, invTo A S k = some q := by
  intro k
  induction k with
  | zero => intro _; exact ⟨_, rfl⟩
  | succ k ih =>
    intro hk'
    obtain ⟨r, e⟩ := ih (by omega)
    obtain ⟨h1, h2⟩ := invTo_sh ha hs k (by omega) r e
    rw [invTo, e]
    simp only []
    cases e2 : piv r.1 k k with
    | some p => exact ⟨_, rfl⟩
    | none =>
      exfalso
      have U := inv_unit ha hs (Nat.le_refl _) k (by omega) r e
      have Z : AllLt (kerZ r.1 k n) := kerZ_lt h1
      have hz : ∀ i, i < n → dotTo (r.1.getD i []) (kerZ r.1 k n) n = 0 := by
        intro i hi
        rw [ker_dot h1 U i hi n (Nat.le_refl _), if_pos (show k < n by omega)]
        by_cases h : i < k
        · rw [if_pos ⟨h, hi⟩, Nat.xor_self]
        · rw [if_neg (by omega), piv_none h1 e2 i (by omega) hi, Nat.xor_self]
      have := hk (kerZ r.1 k n) (by simp [kerZ]) Z (inv_kern ha hs Z k (by omega) r e hz) k (by omega)
      rw [kerZ_get _ _ _ _ (by omega), if_neg (by omega), if_pos rfl] at this
      cases this
theorem solN_ok {A S : List (List Nat)} {n d : Nat} (ha : Sh A n n) (hs : Sh S n d) (hk : ∀ z : List Nat, z.length = n → AllLt z → (∀ i, i < n → dotTo (A.getD i []) z n = 0) → ∀ j, j < n → z.getD j 0 = 0) : (solN A S).2 = true := by
  obtain ⟨q, h⟩ := inv_exists ha hs hk n (Nat.le_refl _)
  unfold solN
  rw [ha.len, h]
/-- A sum of products is Cauchy's where the row is. -/
theorem dot_cs {r z : List Nat} {x : Nat} {y : Nat → Nat} (hz : AllLt z) : ∀ m, (∀ j, j < m → r.getD j 0 = inv (x ^^^ y j)) → dotTo r z m = cs (fun j => z.getD j 0) y x m := by
  intro m
  induction m with
  | zero => intro _; rfl
  | succ m ih => intro h; rw [dotTo, cs, ih (fun j hj => h j (by omega)), h m (by omega), mul_comm _ _ (inv_lt _) (hz m)]
end Gf
end Go.Proofs.YtogopakmebiomaaDoor

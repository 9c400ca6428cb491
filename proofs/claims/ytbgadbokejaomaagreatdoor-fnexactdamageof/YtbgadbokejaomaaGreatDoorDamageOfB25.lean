/-
  What has no inverse takes a column of numbers, not all 0, to noughts; what has one is undone by it: plain mathematics. No call is walked here. Codes for what is lost, the mathematics: any rows of the code, as many as there are data, can be solved; what is solved is what the data were. No call is walked here. Any rows of the code, as many as there are data, can be solved (Cauchy): plain mathematics. No call is walked here. Rising numbers below an end, and how many pieces may be lost: the program's functions and its model's, call by call. No condition. Rows taken out of a matrix by their numbers: the model's function, in one call. The contract says what it asks.
-/
import Derived.Test.YtbgadbokejaomaaGreatDoorDamageOfB24
import Derived.Test.YtbgadbokejaomaaGreatDoorDamageOfB20
import Derived.Test.YtbgadbokejaomaaGreatDoorDamageOfB19
import Derived.Test.YtbgadbokejaomaaGreatDoorDamageOfB17
namespace Go.Proofs.YtbgadbokejaomaaGreatDoor
open Go.RowKit
namespace Gf

theorem headM_get {M : List (List Nat)} {n c : Nat} (hm : Sh M n c) (at_ x i : Nat) (ha : at_ < n) : (headM M at_ x).getD i [] = if i = at_ then sc (M.getD at_ []) (inv x) else M.getD i [] := by
  unfold headM
  rw [getD_set _ _ _ _ _ (by rw [hm.len]; exact ha)]
/-- The rows behind one step: s is the matrix with its row swapped up. -/
theorem opM_get {M : List (List Nat)} {n c : Nat} (hm : Sh M n c) (at_ p x : Nat) (fs : Nat → Nat) (i : Nat) (ha : at_ < n) (hp : p < n) (hi : i < n) :
    (opM M at_ p x fs).getD i [] = if i = at_ then sc ((swapM M at_ p).getD at_ []) (inv x) else addRow ((swapM M at_ p).getD i []) (sc ((swapM M at_ p).getD at_ []) (inv x)) (fs i) := by
  have hs := hm.swap at_ p ha hp
  have hh := hs.head at_ x ha
  unfold opM
  rw [clearM_get _ _ _ _ _ (by rw [hh.len]; exact hi), headM_get hs at_ x i ha, headM_get hs at_ x at_ ha, if_pos rfl, hm.len]
  by_cases e : i = at_
  · subst e
    rw [if_neg (fun h => h.2 rfl), if_pos rfl, if_pos rfl]
  · rw [if_pos ⟨hi, e⟩, if_neg e, if_neg e]
theorem pf_none {M : List (List Nat)} {col : Nat} : ∀ d j, pf M col d j = none → ∀ i, j ≤ i → i < j + d → (M.getD i []).getD col 0 = 0 := by
  intro d
  induction d with
  | zero => intro j _ i h1 h2; omega
  | succ d ih =>
    intro j h i h1 h2
    rw [pf] at h
    by_cases e : (M.getD j []).getD col 0 ≠ 0
    · rw [if_pos e] at h; cases h
    · rw [if_neg e] at h
      by_cases e2 : i = j
      · subst e2; exact Classical.not_not.1 e
      · exact ih (j + 1) h i (by omega) (by omega)
theorem piv_none {M : List (List Nat)} {n c at_ col : Nat} (hm : Sh M n c) (h : piv M at_ col = none) (i : Nat) (h1 : at_ ≤ i) (h2 : i < n) : (M.getD i []).getD col 0 = 0 := by
  unfold piv at h
  rw [hm.len] at h
  exact pf_none _ _ h i h1 (by omega)

/-- A step can be taken back: what its rows take to noughts the rows ahead of it do. -/
theorem op_kern {M : List (List Nat)} {n c at_ p x : Nat} {fs : Nat → Nat} {z : List Nat} (hm : Sh M n c) (ha : at_ < n) (hp : p < n) (hx : x < 256) (hx0 : x ≠ 0) (hf : ∀ i, fs i < 256) (hz : AllLt z)
    (h : ∀ i, i < n → dotTo ((opM M at_ p x fs).getD i []) z c = 0) : ∀ i, i < n → dotTo (M.getD i []) z c = 0 := by
  have hs := hm.swap at_ p ha hp
  have e0 := h at_ ha
  rw [opM_get hm at_ p x fs at_ ha hp ha, if_pos rfl, dot_sc (hs.lt at_ ha) hz (inv_lt x) c (by rw [hs.row at_ ha]; exact Nat.le_refl _)] at e0
  have s0 : dotTo ((swapM M at_ p).getD at_ []) z c = 0 := by
    rcases mul_eq_zero _ _ (inv_lt x) (dotTo_lt (hs.lt at_ ha) c) e0 with e | e
    · exact absurd e (inv_ne hx hx0)
    · exact e
  have sw : ∀ i, i < n → dotTo ((swapM M at_ p).getD i []) z c = 0 := by
    intro i hi
    by_cases e : i = at_
    · rw [e]; exact s0
    · have ei := h i hi
      rw [opM_get hm at_ p x fs i ha hp hi, if_neg e, dot_add (hs.lt i hi) (sc_lt (inv_lt x)) hz (hf i) (by rw [sc_length, hs.row i hi, hs.row at_ ha]) c (by rw [hs.row i hi]; exact Nat.le_refl _), dot_sc (hs.lt at_ ha) hz (inv_lt x) c (by rw [hs.row at_ ha]; exact Nat.le_refl _)] at ei
      rw [s0, mul_zero, mul_zero, Nat.xor_zero] at ei
      exact ei
  intro i hi
  by_cases e1 : i = at_
  · have := sw p hp
    rw [swapM_get _ _ _ _ (by rw [hm.len]; exact ha) (by rw [hm.len]; exact hp), if_pos rfl] at this
    rw [e1]; exact this
  · by_cases e2 : i = p
    · have := sw at_ ha
      rw [swapM_get _ _ _ _ (by rw [hm.len]; exact ha) (by rw [hm.len]; exact hp)] at this
      by_cases e3 : at_ = p
      · exact absurd (e2.trans e3.symm) e1
      · rw [if_neg e3, if_pos rfl] at this
        rw [e2]; exact this
    · have := sw i hi
      rw [swapM_get _ _ _ _ (by rw [hm.len]; exact ha) (by rw [hm.len]; exact hp), if_neg e2, if_neg e1] at this
      exact this
theorem clr_kern {A : List (List Nat)} {n c k p : Nat} {z : List Nat} (ha : Sh A n c) (hk : k < n) (hp : piv A k k = some p) (hz : AllLt z) (h : ∀ i, i < n → dotTo ((clr A k k p).getD i []) z c = 0) : ∀ i, i < n → dotTo (A.getD i []) z c = 0 := by
  obtain ⟨_, h2, h3⟩ := piv_facts hp
  rw [ha.len] at h2
  exact op_kern ha hk h2 (ha.elt p k) h3 (fun i => (ha.swap k p hk h2).elt i k) hz h
theorem inv_kern {A S : List (List Nat)} {n c d : Nat} {z : List Nat} (ha : Sh A n c) (hs : Sh S n d) (hz : AllLt z) : ∀ k, k ≤ n → ∀ q, invTo A S k = some q → (∀ i, i < n → dotTo (q.1.getD i []) z c = 0) → ∀ i, i < n → dotTo (A.getD i []) z c = 0 := by
  intro k
  induction k with
  | zero => intro _ q h hh; simp only [invTo, Option.some.injEq] at h; subst h; exact hh
  | succ k ih =>
    intro hk q h hh
    rw [invTo] at h
    cases e : invTo A S k with
    | none => rw [e] at h; simp at h
    | some r =>
      obtain ⟨h1, h2⟩ := invTo_sh ha hs k (by omega) r e
      rw [e] at h
      simp only [] at h
      cases e2 : piv r.1 k k with
      | none => rw [e2] at h; simp at h
      | some p =>
        rw [e2] at h
        simp only [Option.some.injEq] at h
        subst h
        exact ih (by omega) r e (clr_kern h1 (by omega) e2 hz hh)
/-- The columns that are cleared are the identity's. -/
theorem inv_unit {A S : List (List Nat)} {n c d : Nat} (ha : Sh A n c) (hs : Sh S n d) (hc : n ≤ c) : ∀ k, k ≤ n → ∀ q, invTo A S k = some q → ∀ i j, i < n → j < k → (q.1.getD i []).getD j 0 = if i = j then 1 else 0 := by
  intro k
  induction k with
  | zero => intro _ q _ i j _ hj; omega
  | succ k ih =>
    intro hk q h i j hi hj
    rw [invTo] at h
    cases e : invTo A S k with
    | none => rw [e] at h; simp at h
    | some r =>
      obtain ⟨h1, h2⟩ := invTo_sh ha hs k (by omega) r e
      rw [e] at h
      simp only [] at h
      cases e2 : piv r.1 k k with
      | none => rw [e2] at h; simp at h
      | some p =>
        rw [e2] at h
        simp only [Option.some.injEq] at h
        subst h
        simp only []
        obtain ⟨hp1, hp2, hp3⟩ := piv_facts e2
        rw [h1.len] at hp2
        have hs1 := h1.swap k p (by omega) hp2
        have U := ih (by omega) r e
        have lk : k < r.1.length := by rw [h1.len]; omega
        have lp : p < r.1.length := by rw [h1.len]; exact hp2
        have hx : hOf r.1 k p = ((swapM r.1 k p).getD k []).getD k 0 := by
          unfold hOf
          rw [swapM_get _ _ _ _ lk lp]
          by_cases e3 : k = p
          · rw [if_pos e3, e3]
          · rw [if_neg e3, if_pos rfl]
        have sU : ∀ i j, i < n → j < k → ((swapM r.1 k p).getD i []).getD j 0 = if i = j then 1 else 0 := by
          intro i j hi hj
          rw [swapM_get _ _ _ _ lk lp]
          by_cases e3 : i = p
          · rw [if_pos e3, U k j (by omega) hj, if_neg (by omega), if_neg (by omega)]
          · rw [if_neg e3]
            by_cases e4 : i = k
            · rw [if_pos e4, U p j hp2 hj, if_neg (by omega), if_neg (by omega)]
            · rw [if_neg e4]; exact U i j hi hj
        have x0 : hOf r.1 k p ≠ 0 := hp3
        have x256 : hOf r.1 k p < 256 := h1.elt p k
        unfold clr
        rw [opM_get h1 k p _ _ i (by omega) hp2 hi]
        have rowk : ∀ j, j < c → (sc ((swapM r.1 k p).getD k []) (inv (hOf r.1 k p))).getD j 0 = mul (inv (hOf r.1 k p)) (((swapM r.1 k p).getD k []).getD j 0) := fun j hj => sc_get _ _ _ (by rw [hs1.row k (by omega)]; exact hj)
        by_cases e3 : i = k
        · rw [if_pos e3, rowk j (by omega)]
          by_cases e4 : j = k
          · rw [e4, ← hx, mul_comm _ _ (inv_lt _) x256, mul_inv _ x256 x0, if_pos (by omega)]
          · rw [sU k j (by omega) (by omega), if_neg (by omega), mul_zero, if_neg (by omega)]
        · rw [if_neg e3, addRow_get _ _ _ _ (by rw [hs1.row i hi]; omega) (by rw [sc_length, hs1.row k (by omega)]; omega), rowk j (by omega)]
          by_cases e4 : j = k
          · have ff : fOf r.1 k k p i = ((swapM r.1 k p).getD i []).getD k 0 := rfl
            rw [e4, ← hx, mul_comm _ _ (inv_lt _) x256, mul_inv _ x256 x0, ff, mul_one _ (hs1.elt i k), if_neg (by omega)]
            exact Nat.xor_self _
          · rw [sU k j (by omega) (by omega), if_neg (by omega), mul_zero, mul_zero, Nat.xor_zero, sU i j hi (by omega)]
/-- What a column that cannot be cleared takes to noughts. -/
def kerZ (A : List (List Nat)) (k c : Nat) : List Nat := (List.range c).map fun j => if j < k then (A.getD j []).getD k 0 else if j = k then 1 else 0
theorem kerZ_get (A : List (List Nat)) (k c j : Nat) (h : j < c) : (kerZ A k c).getD j 0 = if j < k then (A.getD j []).getD k 0 else if j = k then 1 else 0 := by simp [kerZ, h]
theorem kerZ_lt {A : List (List Nat)} {n k c : Nat} {d : Nat} (ha : Sh A n d) : AllLt (kerZ A k c) := by
  intro j
  by_cases h : j < c
  · rw [kerZ_get _ _ _ _ h]
    split
    · exact ha.elt j k
    · split <;> omega
  · rw [List.getD_eq_getElem?_getD, List.getElem?_eq_none (by simp [kerZ]; omega)]; decide
theorem ker_dot {A : List (List Nat)} {n c k : Nat} (ha : Sh A n c) (hU : ∀ i j, i < n → j < k → (A.getD i []).getD j 0 = if i = j then 1 else 0) (i : Nat) (hi : i < n) : ∀ m, m ≤ c →
    dotTo (A.getD i []) (kerZ A k c) m = (if i < k ∧ i < m then (A.getD i []).getD k 0 else 0) ^^^ (if k < m then (A.getD i []).getD k 0 else 0) := by
  intro m
  induction m with
  | zero => intro _; simp [dotTo]
  | succ m ih =>
    intro hm
    rw [dotTo, ih (by omega), kerZ_get _ _ _ _ (by omega)]
    by_cases h1 : m < k
    · rw [if_pos h1, hU i m hi h1, if_neg (show ¬ k < m by omega), if_neg (show ¬ k < m + 1 by omega), Nat.xor_zero, Nat.xor_zero]
      by_cases h2 : i = m
      · subst h2
        rw [if_pos rfl, one_mul _ (ha.elt i k), if_neg (by omega), if_pos (by omega), Nat.zero_xor]
      · rw [if_neg h2, zero_mul (ha.elt m k), Nat.xor_zero]
        by_cases h3 : i < k ∧ i < m
        · rw [if_pos h3, if_pos (by omega)]
        · rw [if_neg h3, if_neg (by omega)]
    · rw [if_neg h1]
      by_cases h2 : m = k
      · subst h2
        rw [if_pos rfl, mul_one _ (ha.elt i m), if_neg (show ¬ m < m by omega), Nat.xor_zero, if_pos (show m < m + 1 by omega)]
        by_cases h3 : i < m
        · rw [if_pos ⟨h3, h3⟩, if_pos (by omega)]
        · rw [if_neg (by omega), if_neg (by omega)]
      · rw [if_neg h2, mul_zero, Nat.xor_zero]
        have e1 : (i < k ∧ i < m) ↔ (i < k ∧ i < m + 1) := by omega
        have e2 : k < m ↔ k < m + 1 := by omega
        simp only [e1, e2]
/-- A square matrix that takes nothing but noughts to noughts has an inverse. -/
theorem inv_exists {A S : List (List Nat)} {n d : Nat} (ha : Sh A n n) (hs : Sh S n d) (hk : ∀ z : List Nat, z.length = n → AllLt z → (∀ i, i < n → dotTo (A.getD i []) z n = 0) → ∀ j, j < n → z.getD j 0 = 0) : ∀ k, k ≤ n → ∃ q, invTo A S k = some q := by
  intro k
  induction k with
  | zero => intro _; exact ⟨_, rfl⟩
  | succ k ih =>
    intro hk'
    obtain ⟨r, e⟩ := ih (by omega)
    obtain ⟨h1, h2⟩ := invTo_sh ha hs k (by omega) r e
    rw [invTo, e]
    simp only []
    cases e2 : piv r.1 k k with
    | some p => exact ⟨_, rfl⟩
    | none =>
      exfalso
      have U := inv_unit ha hs (Nat.le_refl _) k (by omega) r e
      have Z : AllLt (kerZ r.1 k n) := kerZ_lt h1
      have hz : ∀ i, i < n → dotTo (r.1.getD i []) (kerZ r.1 k n) n = 0 := by
        intro i hi
        rw [ker_dot h1 U i hi n (Nat.le_refl _), if_pos (show k < n by omega)]
        by_cases h : i < k
        · rw [if_pos ⟨h, hi⟩, Nat.xor_self]
        · rw [if_neg (by omega), piv_none h1 e2 i (by omega) hi, Nat.xor_self]
      have := hk (kerZ r.1 k n) (by simp [kerZ]) Z (inv_kern ha hs Z k (by omega) r e hz) k (by omega)
      rw [kerZ_get _ _ _ _ (by omega), if_neg (by omega), if_pos rfl] at this
      cases this
theorem solN_ok {A S : List (List Nat)} {n d : Nat} (ha : Sh A n n) (hs : Sh S n d) (hk : ∀ z : List Nat, z.length = n → AllLt z → (∀ i, i < n → dotTo (A.getD i []) z n = 0) → ∀ j, j < n → z.getD j 0 = 0) : (solN A S).2 = true := by
  obtain ⟨q, h⟩ := inv_exists ha hs hk n (Nat.le_refl _)
  unfold solN
  rw [ha.len, h]
end Gf
end Go.Proofs.YtbgadbokejaomaaGreatDoor

namespace Go.Proofs.YtbgadbokejaomaaGreatDoor
open Go.RowKit
namespace Gf

/-- The column j of a matrix. -/
def colJ (b : List (List Nat)) (j : Nat) : List Nat := b.map fun r => r.getD j 0
theorem colJ_get (b : List (List Nat)) (j t : Nat) : (colJ b j).getD t 0 = (b.getD t []).getD j 0 := by
  unfold colJ
  simp only [List.getD_eq_getElem?_getD, List.getElem?_map]
  cases b[t]? <;> simp
theorem colJ_lt {b : List (List Nat)} {n l : Nat} (h : Sh b n l) (j : Nat) : AllLt (colJ b j) := by
  intro t
  rw [colJ_get]
  exact h.elt t j
theorem mulRow_dot {b : List (List Nat)} {n l : Nat} (h : Sh b n l) (r : List Nat) (j : Nat) (hj : j < l) : ∀ k, k ≤ n → (mulRow b l r k).getD j 0 = dotTo r (colJ b j) k := by
  intro k
  induction k with
  | zero => intro _; rw [mulRow, dotTo, List.getD_eq_getElem?_getD, List.getElem?_replicate, if_pos hj]; rfl
  | succ k ih =>
    intro hk
    rw [mulRow, amTo_add _ _ _ (by rw [h.row k (by omega), mulRow_length]), addRow_get _ _ _ _ (by rw [mulRow_length]; exact hj) (by rw [h.row k (by omega)]; exact hj), ih (by omega), dotTo, colJ_get]
/-- A row times a matrix. -/
def rowL (R : List (List Nat)) (l n : Nat) (s : List Nat) : List Nat := mulRow R l s n
theorem rowL_length (R : List (List Nat)) (l n : Nat) (s : List Nat) : (rowL R l n s).length = l := mulRow_length _ _ _ _
theorem rowL_get {R : List (List Nat)} {n l : Nat} (h : Sh R n l) (s : List Nat) (j : Nat) (hj : j < l) : (rowL R l n s).getD j 0 = dotTo s (colJ R j) n := mulRow_dot h s j hj n (Nat.le_refl _)
theorem lin_row {R : List (List Nat)} {n l : Nat} (h : Sh R n l) : Lin (rowL R l n) n := by
  refine ⟨fun s f hl hs hf => ?_, fun s q f hl hl2 hs hq hf => ?_⟩
  · apply ext_getD 0 (by rw [rowL_length, sc_length, rowL_length])
    intro j hj
    rw [rowL_length] at hj
    rw [rowL_get h _ j hj, sc_get _ _ _ (by rw [rowL_length]; exact hj), rowL_get h _ j hj, dot_sc hs (colJ_lt h j) hf n (by omega)]
  · apply ext_getD 0 (by rw [rowL_length, addRow_length _ _ _ (by rw [rowL_length, rowL_length]), rowL_length])
    intro j hj
    rw [rowL_length] at hj
    rw [rowL_get h _ j hj, addRow_get _ _ _ _ (by rw [rowL_length]; exact hj) (by rw [rowL_length]; exact hj), rowL_get h _ j hj, rowL_get h _ j hj, dot_add hs hq (colJ_lt h j) hf (by omega) n (by omega)]
theorem ident_row {R : List (List Nat)} {n l : Nat} (h : Sh R n l) : (identN n).map (rowL R l n) = R := by
  apply ext_getD [] (by rw [List.length_map, (sh_ident n).len, h.len])
  intro i hi
  rw [List.length_map, (sh_ident n).len] at hi
  rw [map_get _ _ _ _ (by rw [(sh_ident n).len]; exact hi), identN_get n i hi]
  apply ext_getD 0 (by rw [rowL_length, h.row i hi])
  intro j hj
  rw [rowL_length] at hj
  rw [rowL_get h _ j hj, dot_unit (colJ_lt h j) hi, if_pos hi, colJ_get]
theorem inv_same {A : List (List Nat)} : ∀ k q, invTo A A k = some q → q.1 = q.2 := by
  intro k
  induction k with
  | zero => intro q h; simp only [invTo, Option.some.injEq] at h; subst h; rfl
  | succ k ih =>
    intro q h
    rw [invTo] at h
    cases e : invTo A A k with
    | none => rw [e] at h; simp at h
    | some r =>
      rw [e] at h
      simp only [] at h
      cases e2 : piv r.1 k k with
      | none => rw [e2] at h; simp at h
      | some p =>
        rw [e2] at h
        simp only [Option.some.injEq] at h
        subst h
        simp only [clr]
        rw [← ih r e]
theorem solN_self {A : List (List Nat)} {n : Nat} (ha : Sh A n n) (hok : (solN A (identN n)).2 = true) : solN A A = (identN n, true) := by
  have e := solN_map (lin_row ha) ha (sh_ident n)
  rw [ident_row ha, hok] at e
  have hb : (solN A A).2 = true := by rw [e]
  unfold solN at hb ⊢
  rw [ha.len] at hb ⊢
  cases h : invTo A A n with
  | none => rw [h] at hb; cases hb
  | some q =>
    have hs := inv_same n q h
    have hu := inv_unit ha ha (Nat.le_refl _) n (Nat.le_refl _) q h
    obtain ⟨s1, s2⟩ := invTo_sh ha ha n (Nat.le_refl _) q h
    simp only [Prod.mk.injEq, and_true]
    rw [← hs]
    apply ext_getD [] (by rw [s1.len, (sh_ident n).len])
    intro i hi
    rw [s1.len] at hi
    rw [identN_get n i hi]
    apply ext_getD 0 (by rw [s1.row i hi]; simp [unitN])
    intro j hj
    rw [s1.row i hi] at hj
    rw [hu i j hi hj, unitN_get n i j hi]
    by_cases e : i = j
    · rw [if_pos e, if_pos e.symm]
    · rw [if_neg e, if_neg (fun h => e h.symm)]
/-- What is solved of a matrix times something is that. -/
theorem solN_back {A R : List (List Nat)} {n l : Nat} (ha : Sh A n n) (hr : Sh R n l) (hok : (solN A (identN n)).2 = true) : solN A (A.map (rowL R l n)) = (R, true) := by
  rw [solN_map (lin_row hr) ha ha, solN_self ha hok, ident_row hr]
/-- What is solved is the inverse times what stands beside. -/
theorem solN_inv {A R : List (List Nat)} {n l : Nat} (ha : Sh A n n) (hr : Sh R n l) (hok : (solN A (identN n)).2 = true) : solN A R = ((solN A (identN n)).1.map (rowL R l n), true) := by
  have e := solN_map (lin_row hr) ha (sh_ident n)
  rw [ident_row hr, hok] at e
  exact e

/-- Rows by their places. -/
def selM {α : Type} (M : List (List α)) (f : List Nat) : List (List α) := f.map fun k => M.getD k []
theorem selM_length {α : Type} (M : List (List α)) (f : List Nat) : (selM M f).length = f.length := by simp [selM]
theorem selM_get {α : Type} (M : List (List α)) (f : List Nat) (i : Nat) (h : i < f.length) : (selM M f).getD i [] = M.getD (f.getD i 0) [] := by
  unfold selM
  rw [List.getD_eq_getElem?_getD, List.getElem?_map, List.getElem?_eq_getElem h, List.getD_eq_getElem?_getD (l := f), List.getElem?_eq_getElem h]
  rfl
/-- The rows of a code. -/
def codeN (D Q : Nat) : List (List Nat) := (codeM D Q).map nat
theorem codeN_get (D Q k : Nat) : (codeN D Q).getD k [] = nat ((codeM D Q).getD k []) := by
  unfold codeN
  simp only [List.getD_eq_getElem?_getD, List.getElem?_map]
  cases (codeM D Q)[k]? <;> rfl
theorem nat_allLt {l : List Int} (h : l.all elOk = true) : AllLt (nat l) := by
  intro i
  unfold nat
  rw [List.getD_eq_getElem?_getD, List.getElem?_map]
  cases e : l[i]? with
  | none => show 0 < 256; decide
  | some z =>
    have := elOk_iff.1 (List.all_eq_true.1 h z (List.mem_of_getElem? e))
    show z.toNat < 256
    omega
theorem sh_code (D Q : Nat) : Sh (codeN D Q) (D + Q) D := by
  refine ⟨by unfold codeN; rw [List.length_map, codeM_length], fun i hi => ?_, fun i hi => ?_⟩
  · rw [codeN_get, nat_length]; exact (codeM_rows D Q i (by rw [codeM_length]; exact hi)).1
  · rw [codeN_get]; exact nat_allLt (codeM_rows D Q i (by rw [codeM_length]; exact hi)).2
theorem sh_sel {M : List (List Nat)} {n l : Nat} (h : Sh M n l) {f : List Nat} (hf : ∀ k ∈ f, k < n) : Sh (selM M f) f.length l := by
  refine ⟨selM_length _ _, fun i hi => ?_, fun i hi => ?_⟩
  · rw [selM_get _ _ _ hi]
    exact h.row _ (hf _ (by rw [List.getD_eq_getElem?_getD, List.getElem?_eq_getElem hi]; exact List.getElem_mem hi))
  · rw [selM_get _ _ _ hi]
    exact h.lt _ (hf _ (by rw [List.getD_eq_getElem?_getD, List.getElem?_eq_getElem hi]; exact List.getElem_mem hi))
theorem code_low {D Q k : Nat} (h : k < D) : (codeN D Q).getD k [] = unitN D k := by
  rw [codeN_get]
  unfold codeM
  rw [getD_app, identM_length, if_pos h, identM_get _ _ h, ← ci_unit]
  unfold nat ci
  rw [List.map_map]
  conv => rhs; rw [← List.map_id (unitN D k)]
  exact List.map_congr_left fun x _ => by simp
theorem code_high {D Q k j : Nat} (h : D ≤ k) (hk : k < D + Q) (hj : j < D) : ((codeN D Q).getD k []).getD j 0 = inv ((k - D) ^^^ (Q + j)) := by
  rw [codeN_get]
  unfold codeM
  rw [getD_app, identM_length, if_neg (by omega), cauM_get _ _ _ (by rw [cnt_length]; omega)]
  unfold nat
  rw [List.getD_eq_getElem?_getD, List.getElem?_map]
  have hl : j < (cauRow ((cnt 0 Q).getD (k - D) 0) (cnt Q D)).length := by rw [cauRow_length, cnt_length]; exact hj
  have e := cauRow_get ((cnt 0 Q).getD (k - D) 0) (cnt Q D) j (by rw [cnt_length]; exact hj)
  rw [List.getD_eq_getElem?_getD, List.getElem?_eq_getElem hl, Option.getD_some] at e
  rw [List.getElem?_eq_getElem hl, Option.map_some, Option.getD_some, e, cnt_get _ _ _ (by omega), cnt_get _ _ _ hj, Int.toNat_natCast, Int.toNat_natCast, Int.toNat_natCast, Nat.zero_add]
end Gf
end Go.Proofs.YtbgadbokejaomaaGreatDoor

namespace Go.Proofs.YtbgadbokejaomaaGreatDoor
open Go.RowKit
namespace Gf

/-- The numbers below n that p tells. -/
def those (p : Nat → Bool) (n : Nat) : List Nat := (List.range n).filter p
theorem those_succ (p : Nat → Bool) (n : Nat) : those p (n + 1) = those p n ++ (if p n then [n] else []) := by
  unfold those
  rw [List.range_succ, List.filter_append]
  cases h : p n <;> simp [h]
theorem those_mem {p : Nat → Bool} {n k : Nat} : k ∈ those p n ↔ k < n ∧ p k = true := by simp [those]
theorem those_not (p : Nat → Bool) (n : Nat) : (those p n).length + (those (fun k => !p k) n).length = n := by
  induction n with
  | zero => rfl
  | succ n ih =>
    rw [those_succ, those_succ]
    cases p n <;> simp <;> omega
theorem those_prefix (p : Nat → Bool) (m : Nat) : ∀ d, ∃ r, those p (m + d) = those p m ++ r := by
  intro d
  induction d with
  | zero => exact ⟨[], by simp⟩
  | succ d ih =>
    obtain ⟨r, hr⟩ := ih
    exact ⟨r ++ (if p (m + d) then [m + d] else []), by rw [← Nat.add_assoc, those_succ, hr, List.append_assoc]⟩
theorem those_getD {p : Nat → Bool} {m n : Nat} (h : m < n) (hp : p m = true) : (those p n).getD (those p m).length 0 = m := by
  obtain ⟨r, hr⟩ := those_prefix p (m + 1) (n - (m + 1))
  rw [show m + 1 + (n - (m + 1)) = n by omega] at hr
  rw [hr, those_succ, hp]
  simp
theorem those_lt {p : Nat → Bool} {n : Nat} (h : 0 < n) (t : Nat) : (those p n).getD t 0 < n := by
  rw [List.getD_eq_getElem?_getD]
  cases e : (those p n)[t]? with
  | none => exact h
  | some z => exact (those_mem.1 (List.mem_of_getElem? e)).1
theorem those_at {p : Nat → Bool} {n t : Nat} (h : t < (those p n).length) : (those p n).getD t 0 < n ∧ p ((those p n).getD t 0) = true := by
  rw [List.getD_eq_getElem?_getD, List.getElem?_eq_getElem h, Option.getD_some]
  exact those_mem.1 (List.getElem_mem h)
theorem those_inj {p : Nat → Bool} {n s t : Nat} (hs : s < (those p n).length) (ht : t < (those p n).length) (h : s ≠ t) : (those p n).getD s 0 ≠ (those p n).getD t 0 := by
  have hp : (those p n).Pairwise (· < ·) := List.Pairwise.filter _ List.pairwise_lt_range
  rw [List.pairwise_iff_getElem] at hp
  rw [List.getD_eq_getElem?_getD, List.getElem?_eq_getElem hs, List.getD_eq_getElem?_getD, List.getElem?_eq_getElem ht, Option.getD_some, Option.getD_some]
  rcases Nat.lt_or_gt_of_ne h with hl | hl
  · have := hp s t hs ht hl; omega
  · have := hp t s ht hs hl; omega
theorem those_find {p : Nat → Bool} {n k : Nat} (hk : k < n) (hp : p k = true) : ∃ t, t < (those p n).length ∧ (those p n).getD t 0 = k := by
  obtain ⟨t, ht, e⟩ := List.getElem_of_mem (those_mem.2 ⟨hk, hp⟩)
  exact ⟨t, ht, by rw [List.getD_eq_getElem?_getD, List.getElem?_eq_getElem ht]; exact e⟩
theorem those_add (p : Nat → Bool) (a b : Nat) : those p (a + b) = those p a ++ (those (fun i => p (a + i)) b).map (a + ·) := by
  induction b with
  | zero => simp [those]
  | succ b ih =>
    rw [← Nat.add_assoc, those_succ, ih, those_succ, List.map_append, List.append_assoc]
    congr 2
    cases p (a + b) <;> rfl
/-- The sum over all columns is the sum over those that are not struck, where the struck ones' numbers are 0. -/
theorem dot_those {r z : List Nat} {x Q D : Nat} {p : Nat → Bool} (hz : AllLt z) (hr : ∀ j, j < D → r.getD j 0 = inv (x ^^^ (Q + j))) (h0 : ∀ j, j < D → p j = false → z.getD j 0 = 0) :
    ∀ m, m ≤ D → dotTo r z m = cs (fun t => z.getD ((those p D).getD t 0) 0) (fun t => Q + (those p D).getD t 0) x (those p m).length := by
  intro m
  induction m with
  | zero => intro _; rfl
  | succ m ih =>
    intro hm
    rw [dotTo, ih (by omega), those_succ]
    cases h : p m with
    | false =>
      rw [h0 m (by omega) h, mul_zero, Nat.xor_zero]
      simp
    | true =>
      rw [if_pos rfl, List.length_append, List.length_singleton, cs, those_getD (by omega) h, hr m (by omega), mul_comm _ _ (inv_lt _) (hz m)]
/-- Any rows of a code, as many as data, take no column but noughts to noughts. -/
theorem code_kern {D Q : Nat} {p : Nat → Bool} (hD : 0 < D) (hDQ : D + Q ≤ 16) (hn : (those p (D + Q)).length = D) (z : List Nat) (hz : AllLt z)
    (h : ∀ i, i < D → dotTo ((selM (codeN D Q) (those p (D + Q))).getD i []) z D = 0) : ∀ j, j < D → z.getD j 0 = 0 := by
  have hrow : ∀ k, k < D + Q → p k = true → dotTo ((codeN D Q).getD k []) z D = 0 := by
    intro k hk hp
    obtain ⟨t, ht, e⟩ := those_find hk hp
    have := h t (by omega)
    rw [selM_get _ _ _ ht, e] at this
    exact this
  have hlow : ∀ j, j < D → p j = true → z.getD j 0 = 0 := by
    intro j hj hp
    have := hrow j (by omega) hp
    rw [code_low hj, dot_unit hz hj, if_pos hj] at this
    exact this
  have hlen : (those (fun k => !p k) D).length = (those (fun i => p (D + i)) Q).length := by
    have h1 := those_not p D
    rw [those_add, List.length_append, List.length_map] at hn
    omega
  by_cases hQ : Q = 0
  · intro j hj
    subst hQ
    cases hp : p j with
    | true => exact hlow j hj hp
    | false =>
      have : (those (fun k => !p k) D).length = 0 := by rw [hlen]; rfl
      obtain ⟨t, ht, _⟩ := those_find (p := fun k => !p k) hj (by simp [hp])
      omega
  have key := cauchy_zero (those (fun k => !p k) D).length (fun i => (those (fun i => p (D + i)) Q).getD i 0) (fun t => Q + (those (fun k => !p k) D).getD t 0) (fun t => z.getD ((those (fun k => !p k) D).getD t 0) 0)
    (fun i => by have := those_lt (p := fun i => p (D + i)) (n := Q) (by omega) i; show _ < 256; omega)
    (fun j => by have := those_lt (p := fun k => !p k) (n := D) hD j; show _ < 256; omega)
    (fun j => hz _)
    (fun i j hi hj e => those_inj (by rw [← hlen]; exact hi) (by rw [← hlen]; exact hj) e)
    (fun i j hi hj e => by have := those_inj (p := fun k => !p k) (n := D) hi hj e; show _ ≠ _; omega)
    (fun i j _ _ => by have := those_lt (p := fun i => p (D + i)) (n := Q) (by omega) i; show _ ≠ _; omega)
    (fun i hi => by
      obtain ⟨h1, h2⟩ := those_at (p := fun i => p (D + i)) (n := Q) (t := i) (by rw [← hlen]; exact hi)
      have h3 := hrow _ (by omega) h2
      rw [dot_those (x := (those (fun i => p (D + i)) Q).getD i 0) (Q := Q) (p := fun k => !p k) hz (fun j hj => by rw [code_high (by omega) (by omega) hj, Nat.add_sub_cancel_left]) (fun j hj hp => hlow j hj (by simpa using hp)) D (Nat.le_refl _)] at h3
      exact h3)
  intro j hj
  cases hp : p j with
  | true => exact hlow j hj hp
  | false =>
    obtain ⟨t, ht, e⟩ := those_find (p := fun k => !p k) hj (by simp [hp])
    have := key t ht
    simp only [e] at this
    exact this
theorem code_inv {D Q : Nat} {p : Nat → Bool} (hD : 0 < D) (hDQ : D + Q ≤ 16) (hn : (those p (D + Q)).length = D) : Sh (selM (codeN D Q) (those p (D + Q))) D D ∧ (solN (selM (codeN D Q) (those p (D + Q))) (identN D)).2 = true := by
  have hs : Sh (selM (codeN D Q) (those p (D + Q))) D D := by
    have := sh_sel (sh_code D Q) (f := those p (D + Q)) (fun k hk => (those_mem.1 hk).1)
    rw [hn] at this
    exact this
  exact ⟨hs, solN_ok hs (sh_ident D) fun z _ hz h => code_kern hD hDQ hn z hz h⟩
/-- The first ones of those that are told. -/
theorem those_take (q : Nat → Bool) (D n : Nat) : (those q n).take D = those (fun k => q k && decide ((those q k).length < D)) n := by
  induction n with
  | zero => simp [those]
  | succ n ih =>
    rw [those_succ, those_succ, ← ih]
    cases h : q n with
    | false => simp
    | true =>
      by_cases hl : (those q n).length < D
      · rw [if_pos rfl, List.take_of_length_le (by simp; omega), List.take_of_length_le (by omega)]
        simp [hl]
      · rw [if_pos rfl, List.take_append_of_le_length (by omega)]
        simp [hl]
end Gf
end Go.Proofs.YtbgadbokejaomaaGreatDoor

namespace Go.Proofs.YtbgadbokejaomaaGreatDoor
open Go.RowKit

/-- The number at place i is at least 0, below the end, and greater than the one ahead of it. -/
def risAtM (xs : List Int) (e : Int) (i : Nat) : Bool := decide (0 ≤ xs.getD i 0 ∧ xs.getD i 0 < e ∧ (i = 0 ∨ xs.getD (i - 1) 0 < xs.getD i 0))
def risesM (xs : List Int) (e : Int) : Bool := (List.range xs.length).all (risAtM xs e)
theorem risesM_yes {xs : List Int} {e : Int} (h : ∀ i, i < xs.length → risAtM xs e i = true) : risesM xs e = true := by
  rw [risesM, List.all_eq_true]
  intro i hi
  exact h i (List.mem_range.1 hi)
theorem risesM_at {xs : List Int} {e : Int} (h : risesM xs e = true) (i : Nat) (hi : i < xs.length) : risAtM xs e i = true := List.all_eq_true.1 h i (List.mem_range.2 hi)
theorem risesM_no {xs : List Int} {e : Int} {k : Nat} (hk : k < xs.length) (h : risAtM xs e k = false) : risesM xs e = false := by
  cases hh : risesM xs e with
  | false => rfl
  | true => rw [risesM_at hh k hk] at h; cases h

set_option maxRecDepth 100000 in
set_option maxHeartbeats 800000 in
theorem areRisingM_calls (v : Value) (xs : List Int) (en : Int) (w : World) (h : Rd w v xs) (h0 : 0 ≤ en) (h1 : en ≤ 1048576) :
    Calls Tryz.prog 165 #[v, .int .i64 en] w fun e w' => e = .returned (.bool (risesM xs en)) ∧ w = w' := by
  have R := hide h
  obtain ⟨a, cap, rfl, q1, q2, q3⟩ := h
  have hm : xs.length ≤ maxLen := by omega
  unfold maxLen at hm
  clear q1 q2 q3
  go_enter Tryz.func165, Tryz.ntmps165
  go_wp2
  go_loop [5, 10] (fun vl vi => ∃ (k : Nat) (l : Int), k ≤ xs.length ∧ vi = .int .i64 k ∧ vl = .int .i64 l ∧ 0 ≤ l ∧ l ≤ 1048576 ∧ (k = 0 → l = 0) ∧ (0 < k → l = xs.getD (k - 1) 0 + 1) ∧ ∀ i, i < k → risAtM xs en i = true) (fun _ vi => xs.length - (intOf vi).toNat)
  case atStart => exact ⟨0, 0, Nat.zero_le _, rfl, rfl, by omega, by omega, fun _ => rfl, fun h => by omega, fun i hi => by omega⟩
  case round =>
    obtain ⟨k, l, hk, rfl, rfl, hl0, hl1, hz, hp, hall⟩ := hrel
    have A := hide hall
    have HZ := hide hz
    have HP := hide hp
    clear hall hz hp
    by_cases hlt : k < xs.length
    · have hlt' : (k : Int) < (xs.length : Int) := by omega
      obtain ⟨b, off, u, rfl, hc, hu⟩ := R.out.row k hlt
      obtain ⟨x, hx⟩ : ∃ x, x = xs.getD k 0 := ⟨_, rfl⟩
      rw [← hx] at hu
      subst hu
      have X := hide hx
      clear hx
      have key : risAtM xs en k = decide (l ≤ x ∧ x < en) := by
        unfold risAtM
        rw [← X.out]
        congr 1
        by_cases e : k = 0
        · have := HZ.out e
          subst this
          simp [e]
        · have := HP.out (by omega)
          have h' := A.out (k - 1) (by omega)
          unfold risAtM at h'
          simp only [decide_eq_true_eq] at h'
          apply propext
          constructor
          · rintro ⟨a1, a2, a3⟩
            exact ⟨by omega, a2⟩
          · rintro ⟨a1, a2⟩
            exact ⟨by omega, a2, .inr (by omega)⟩
      have KEY := hide key
      clear key
      by_cases c1 : l ≤ x
      · have c1' : ¬ x < l := by omega
        by_cases c2 : x < en
        · have c2' : ¬ en ≤ x := by omega
          go_wp2
          go_round
          case rel =>
            refine ⟨k + 1, x + 1, by omega, by go_num, by go_num, by omega, by omega, fun h => by omega, fun _ => by rw [X.out]; simp, fun i hi => ?_⟩
            by_cases e : i = k
            · subst e; rw [KEY.out]; exact decide_eq_true ⟨c1, c2⟩
            · exact A.out i (by omega)
          case measure => simp [intOf]; omega
        · have c2' : en ≤ x := by omega
          go_wp2
          go_ret
          exact ⟨Gf.ret_bool (risesM_no hlt (by rw [KEY.out]; exact decide_eq_false (fun h => by omega))).symm, rfl⟩
      · have c1' : x < l := by omega
        go_wp2
        go_ret
        exact ⟨Gf.ret_bool (risesM_no hlt (by rw [KEY.out]; exact decide_eq_false (fun h => by omega))).symm, rfl⟩
    · obtain rfl : k = xs.length := by omega
      go_wp2
      go_ret
      exact ⟨Gf.ret_bool (risesM_yes A.out).symm, rfl⟩

def canOk (d q : Int) (xs : List Int) : Bool := codeOk d q && risesM xs (d + q)
def canR (d q : Int) (xs : List Int) : Bool × Bool := if canOk d q xs = true then (decide ((xs.length : Int) ≤ q), true) else (false, false)

set_option maxRecDepth 100000 in
set_option maxHeartbeats 800000 in
theorem canDecode_calls (d q : Int) (v : Value) (xs : List Int) (w : World) (h : Rd w v xs) :
    Calls Tryz.prog 185 #[.int .i64 d, .int .i64 q, v] w fun e w' => e = .returned (.tuple #[.bool (canR d q xs).1, .bool (canR d q xs).2]) ∧ Below w.heap.size w w' := by
  have R := hide h
  obtain ⟨a, cap, rfl, q1, q2, q3⟩ := h
  clear q1 q2 q3
  cases hc : codeOk d q with
  | false =>
    have e : canR d q xs = (false, false) := by simp [canR, canOk, hc]
    rw [e]
    have C := hide hc
    clear hc e
    go_enter Tryz.func185, Tryz.ntmps185
    go_wp2_with fail
    refine (isCode_calls d q _).mono ?_
    rw [C.out]
    rintro e w' ⟨rfl, rfl⟩
    go_wp2
    go_ret2
    exact ⟨rfl, Below.refl _ _⟩
  | true =>
    obtain ⟨f1, f2, f3, f4⟩ := codeOk_facts hc
    have C := hide hc
    cases hr : risesM xs (d + q) with
    | false =>
      have e : canR d q xs = (false, false) := by simp [canR, canOk, hr]
      rw [e]
      have RR := hide hr
      clear hc hr e
      go_enter Tryz.func185, Tryz.ntmps185
      go_wp2_with fail
      refine (isCode_calls d q _).mono ?_
      rw [C.out]
      rintro e w' ⟨rfl, rfl⟩
      go_wp2_with fail
      refine (areRisingM_calls _ xs (d + q) _ R.out (by omega) (by omega)).mono ?_
      rw [RR.out]
      rintro e w' ⟨rfl, rfl⟩
      go_wp2
      go_ret2
      exact ⟨rfl, Below.refl _ _⟩
    | true =>
      have e : canR d q xs = (decide ((xs.length : Int) ≤ q), true) := by simp [canR, canOk, hc, hr]
      rw [e]
      have RR := hide hr
      clear hc hr e
      go_enter Tryz.func185, Tryz.ntmps185
      go_wp2_with fail
      refine (isCode_calls d q _).mono ?_
      rw [C.out]
      rintro e w' ⟨rfl, rfl⟩
      go_wp2_with fail
      refine (areRisingM_calls _ xs (d + q) _ R.out (by omega) (by omega)).mono ?_
      rw [RR.out]
      rintro e w' ⟨rfl, rfl⟩
      go_wp2
      go_ret2
      exact ⟨rfl, Below.refl _ _⟩

end Go.Proofs.YtbgadbokejaomaaGreatDoor

namespace Go.Proofs.YtbgadbokejaomaaGreatDoor
open Go.RowKit

/-- The rows with these numbers. -/
def pickR (m : List (List Int)) (ks : List Int) : List (List Int) := ks.map fun k => m.getD k.toNat []
theorem pickR_length (m : List (List Int)) (ks : List Int) : (pickR m ks).length = ks.length := by simp [pickR]
theorem pickR_get (m : List (List Int)) (ks : List Int) (i : Nat) (h : i < ks.length) : (pickR m ks).getD i [] = m.getD (ks.getD i 0).toNat [] := by
  simp [pickR, List.getD_eq_getElem?_getD, h]

set_option maxRecDepth 100000 in
set_option maxHeartbeats 800000 in
theorem l2Rows_calls (kv v : Value) (ks : List Int) (m : List (List Int)) (w : World) (hk : Rd w kv ks) (h : RdM w v m) (hn : ks.length ≤ 1048576)
    (hr : ∀ i, i < ks.length → 0 ≤ ks.getD i 0 ∧ ks.getD i 0 < (m.length : Int)) (hl : ∀ i, (m.getD i []).length ≤ 1048576) :
    Calls Tryz.prog 184 #[v, kv] w fun e w' => ∃ v', e = .returned v' ∧ Mat w' w.heap.size w'.heap.size v' (pickR m ks) ∧ Below w.heap.size w w' := by
  have R := hide h
  have KR := hide hk
  obtain ⟨a, cap, rfl, _⟩ := hk
  obtain ⟨ma, mcap, rfl, _⟩ := h
  have HR := hide hr
  have HL := hide hl
  clear hr hl
  obtain ⟨MM, hM⟩ : ∃ M, M = pickR m ks := ⟨_, rfl⟩
  rw [← hM]
  have hMl : MM.length = ks.length := by rw [hM, pickR_length]
  have hMg : ∀ k, k < ks.length → MM.getD k [] = m.getD (ks.getD k 0).toNat [] := fun k hk => by rw [hM, pickR_get _ _ _ hk]
  have ML := hide hMl
  have MG := hide hMg
  clear hM hMl hMg
  go_enter Tryz.func184, Tryz.ntmps184
  go_wp2
  go_loopw [5, 7, 10] (fun vo _ vi wr => ∃ (k : Nat) (vs : List Value), k ≤ ks.length ∧ vi = .int .i64 k ∧ MatV wr w.heap.size wr.heap.size vo vs (MM.take k) ∧ Below w.heap.size w wr) (fun _ _ vi _ => ks.length - (intOf vi).toNat)
  case atStart =>
    obtain ⟨vs, hv⟩ := Mat.nil w w.heap.size w.heap.size
    exact ⟨0, vs, Nat.zero_le _, rfl, hv, Below.refl _ _⟩
  case round =>
    obtain ⟨k, vs, hk, rfl, hm, hb⟩ := hrel
    have M := hide hm
    have B := hide hb
    clear hm hb
    by_cases hlt : k < ks.length
    · have hlt' : (k : Int) < (ks.length : Int) := by omega
      obtain ⟨b, off, u, rfl, hc1, hu⟩ := (KR.out.below B.out).row k hlt
      obtain ⟨z, hz⟩ : ∃ z, z = ks.getD k 0 := ⟨_, rfl⟩
      rw [← hz] at hu
      subst hu
      have hzr := HR.out k hlt
      have hmg := MG.out k hlt
      rw [← hz] at hzr hmg
      clear hz
      obtain ⟨hz0, hz1⟩ := hzr
      obtain ⟨j, rfl⟩ := Int.eq_ofNat_of_zero_le hz0
      rw [Int.toNat_natCast] at hmg
      obtain ⟨b2, off2, u2, rfl, hc2, hu2⟩ := (R.out.below (B.out.alloc B.out.size (.cells #[] 3))).row j (by omega)
      obtain ⟨r, hrr⟩ : ∃ r, r = m.getD j [] := ⟨_, rfl⟩
      rw [← hrr] at hu2 hmg
      have hrl : r.length ≤ 1048576 := by rw [hrr]; exact HL.out j
      have MG' := hide hmg
      clear hrr hmg
      have RR : Hid (Rd (wr.alloc (.cells #[] 3)) u2 r) := hu2
      have OO : Hid (Own (wr.alloc (.cells #[] 3)) wr.heap.size (.slice (some ⟨wr.heap.size, 0, none⟩) 0 0) []) :=
        World.ownsRow_lit wr #[] 0 (Nat.le_refl _) (Nat.zero_le _) (by rfl)
      clear hu2
      go_wp2_with (at_builtin; refine wpList_append_rd rfl (.tmp 15) (.tmp 19) rfl wr.heap.size _ 0 [] r rfl OO.out _ rfl RR.out (by omega) (by simp) ?_)
      intro v1 w1 ho1 hg1
      have hb1 : Below wr.heap.size wr w1 := ((Below.refl _ _).alloc (Nat.le_refl _) _).grown hg1 (by simp) (fun k hk => (OO.out.lt k hk).1)
      obtain ⟨xa, xn, xc, rfl⟩ := ho1.shape
      have ho1' : Own w1 wr.heap.size (.slice xa xn xc) r := by simpa using ho1
      have O1 := hide ho1'
      have B1 := hide hb1
      clear ho1 ho1' hg1 hb1
      go_wp2_with (at_builtin; refine wpList_append_row rfl (.tmp 14) (.tmp 21) rfl w.heap.size wr.heap.size _ vs (MM.take k) rfl M.out (B1.out.alloc B1.out.size _) _ r (O1.out.below ((Below.refl _ _).alloc (Nat.le_refl _) _)) (Nat.le_refl _) B.out.size _ rfl (World.cell?_alloc_at _ _ _ _ (by simp)) (by simp; omega) ?_)
      intro v2 w2 hM2 hB2
      have M2 := hide hM2
      have B3 := hide hB2
      clear hM2 hB2
      go_wp2
      go_roundw
      case rel =>
        refine ⟨k + 1, vs ++ [.slice xa xn xc], by omega, by go_num, ?_, B.out.trans B3.out⟩
        have := M2.out
        have e : MM.take k ++ [r] = MM.take (k + 1) := by
          have hl : k < MM.length := by rw [ML.out]; exact hlt
          rw [List.take_succ_eq_append_getElem hl]
          have := MG'.out
          rw [List.getD_eq_getElem?_getD, List.getElem?_eq_getElem hl, Option.getD_some] at this
          rw [this]
        rw [e] at this
        exact this
      case measure => simp [intOf]; omega
    · obtain rfl : k = ks.length := by omega
      go_wp2
      go_ret
      have hm := M.out
      rw [List.take_of_length_le (by rw [ML.out]; exact Nat.le_refl _)] at hm
      exact ⟨_, rfl, ⟨_, hm⟩, B.out⟩
end Go.Proofs.YtbgadbokejaomaaGreatDoor

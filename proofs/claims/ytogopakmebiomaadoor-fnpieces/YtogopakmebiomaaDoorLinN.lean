/-
  What is beside a matrix stays told by another one: a map of rows that keeps multiples and sums keeps what is reduced. Plain mathematics; no call is walked here.
-/
import Derived.Test.YtogopakmebiomaaDoorInvN
namespace Go.Proofs.YtogopakmebiomaaDoor
open Go.RowKit
namespace Gf

theorem map_get {α : Type} (L : List Nat → α) (S : List (List Nat)) (d : α) (i : Nat) (h : i < S.length) : (S.map L).getD i d = L (S.getD i []) := by
  simp [List.getD_eq_getElem?_getD, h]
structure Lin (L : List Nat → List Nat) (n : Nat) : Prop where
  sc : ∀ s f, s.length = n → AllLt s → f < 256 → L (sc s f) = Gf.sc (L s) f
  add : ∀ s q f, s.length = n → q.length = n → AllLt s → AllLt q → f < 256 → L (addRow s q f) = addRow (L s) (L q) f
theorem swap_map {L : List Nat → List Nat} {S : List (List Nat)} {n d a b : Nat} (hs : Sh S n d) (h1 : a < n) (h2 : b < n) : swapM (S.map L) a b = (swapM S a b).map L := by
  apply ext_getD []
  · rw [swapM_length, List.length_map, List.length_map, swapM_length]
  · intro i hi
    rw [swapM_length, List.length_map, hs.len] at hi
    rw [swapM_get _ _ _ _ (by rw [List.length_map, hs.len]; exact h1) (by rw [List.length_map, hs.len]; exact h2), map_get L (swapM S a b) _ _ (by rw [swapM_length, hs.len]; exact hi), swapM_get _ _ _ _ (by rw [hs.len]; exact h1) (by rw [hs.len]; exact h2)]
    apply map_get
    rw [hs.len]
    split
    · exact h1
    · split
      · exact h2
      · exact hi
theorem head_map {L : List Nat → List Nat} {S : List (List Nat)} {n d a h : Nat} (hL : Lin L d) (hs : Sh S n d) (h1 : a < n) : headM (S.map L) a h = (headM S a h).map L := by
  unfold headM
  apply ext_getD []
  · rw [List.length_set, List.length_map, List.length_map, List.length_set]
  · intro i hi
    rw [List.length_set, List.length_map, hs.len] at hi
    rw [getD_set _ _ _ _ _ (by rw [List.length_map, hs.len]; exact h1), map_get L (S.set _ _) _ _ (by rw [List.length_set, hs.len]; exact hi), getD_set _ _ _ _ _ (by rw [hs.len]; exact h1)]
    split
    · rw [map_get L _ _ _ (by rw [hs.len]; exact h1), hL.sc _ _ (hs.row a h1) (hs.lt a h1) (inv_lt h)]
    · exact map_get L _ _ _ (by rw [hs.len]; exact hi)
theorem clear_map {L : List Nat → List Nat} {S : List (List Nat)} {n d b : Nat} {fs : Nat → Nat} (hL : Lin L d) (hs : Sh S n d) (h1 : b < n) (hf : ∀ i, fs i < 256) (k : Nat) : clearM (S.map L) b fs k = (clearM S b fs k).map L := by
  apply ext_getD []
  · rw [clearM_length, List.length_map, List.length_map, clearM_length]
  · intro i hi
    rw [clearM_length, List.length_map, hs.len] at hi
    rw [clearM_get _ _ _ _ _ (by rw [List.length_map, hs.len]; exact hi), map_get L (clearM S b fs k) _ _ (by rw [clearM_length, hs.len]; exact hi), clearM_get _ _ _ _ _ (by rw [hs.len]; exact hi)]
    split
    · rw [map_get L _ _ _ (by rw [hs.len]; exact hi), map_get L _ _ _ (by rw [hs.len]; exact h1), hL.add _ _ _ (hs.row i hi) (hs.row b h1) (hs.lt i hi) (hs.lt b h1) (hf i)]
    · exact map_get L _ _ _ (by rw [hs.len]; exact hi)
theorem op_map {L : List Nat → List Nat} {S : List (List Nat)} {n d a p h : Nat} {fs : Nat → Nat} (hL : Lin L d) (hs : Sh S n d) (h1 : a < n) (h2 : p < n) (hf : ∀ i, fs i < 256) : opM (S.map L) a p h fs = (opM S a p h fs).map L := by
  unfold opM
  rw [swap_map hs h1 h2, head_map hL (hs.swap a p h1 h2) h1, clear_map hL ((hs.swap a p h1 h2).head a h h1) h1 hf, List.length_map]
theorem invTo_map {L : List Nat → List Nat} {A S : List (List Nat)} {n c d : Nat} (hL : Lin L d) (ha : Sh A n c) (hs : Sh S n d) : ∀ k, k ≤ n → invTo A (S.map L) k = (invTo A S k).map (fun q => (q.1, q.2.map L)) := by
  intro k
  induction k with
  | zero => intro _; rfl
  | succ k ih =>
    intro hk
    rw [invTo, invTo, ih (by omega)]
    cases e : invTo A S k with
    | none => rfl
    | some r =>
      obtain ⟨h1, h2⟩ := invTo_sh ha hs k (by omega) r e
      simp only [Option.map_some]
      cases e2 : piv r.1 k k with
      | none => rfl
      | some p =>
        have hp := (piv_facts e2).2.1
        rw [h1.len] at hp
        simp only [Option.map_some]
        rw [op_map (fs := fOf r.1 k k p) hL h2 (by omega) hp (fun i => (h1.swap k p (by omega) hp).elt i k)]
theorem solN_map {L : List Nat → List Nat} {A S : List (List Nat)} {n c d : Nat} (hL : Lin L d) (ha : Sh A n c) (hs : Sh S n d) : solN A (S.map L) = ((solN A S).1.map L, (solN A S).2) := by
  unfold solN
  rw [ha.len, invTo_map hL ha hs n (Nat.le_refl _)]
  cases invTo A S n with
  | none => rfl
  | some q => rfl

/-- The sum of products, place by place, of the first k. -/
def dotTo (r v : List Nat) : Nat → Nat
  | 0 => 0
  | k + 1 => dotTo r v k ^^^ mul (r.getD k 0) (v.getD k 0)
theorem dotTo_lt {r v : List Nat} (hr : AllLt r) : ∀ k, dotTo r v k < 256 := by
  intro k
  induction k with
  | zero => simp [dotTo]
  | succ k ih => rw [dotTo]; exact Nat.xor_lt_two_pow (n := 8) ih (mul_lt (hr k))
theorem sc_get (s : List Nat) (f i : Nat) (h : i < s.length) : (sc s f).getD i 0 = mul f (s.getD i 0) := by simp [sc, h]
theorem addRow_get (s q : List Nat) (f i : Nat) (h : i < s.length) (h2 : i < q.length) : (addRow s q f).getD i 0 = s.getD i 0 ^^^ mul f (q.getD i 0) := by
  simp [addRow, List.getD_eq_getElem?_getD, List.getElem?_zipWith, h, h2]
theorem dot_sc {s v : List Nat} {f : Nat} (hs : AllLt s) (hv : AllLt v) (hf : f < 256) : ∀ k, k ≤ s.length → dotTo (sc s f) v k = mul f (dotTo s v k) := by
  intro k
  induction k with
  | zero => intro _; simp [dotTo, mul_zero]
  | succ k ih => intro h; rw [dotTo, dotTo, ih (by omega), sc_get _ _ _ (by omega), mul_xor_b, mul_assoc _ _ _ hf (hs k) (hv k)]
theorem dot_add {s q v : List Nat} {f : Nat} (hs : AllLt s) (hq : AllLt q) (hv : AllLt v) (hf : f < 256) (hl : s.length = q.length) : ∀ k, k ≤ s.length → dotTo (addRow s q f) v k = dotTo s v k ^^^ mul f (dotTo q v k) := by
  intro k
  induction k with
  | zero => intro _; simp [dotTo, mul_zero]
  | succ k ih =>
    intro h
    rw [dotTo, dotTo, dotTo, ih (by omega), addRow_get _ _ _ _ (by omega) (by omega), mul_xor_a _ _ _ (hs k) (mul_lt hf), mul_xor_b, mul_assoc _ _ _ hf (hq k) (hv k), xor4]
def colL (v : List Nat) (n : Nat) (s : List Nat) : List Nat := [dotTo s v n]
theorem lin_col {v : List Nat} {n : Nat} (hv : AllLt v) : Lin (colL v n) n := by
  refine ⟨fun s f hl hs hf => ?_, fun s q f hl hl2 hs hq hf => ?_⟩
  · simp only [colL, sc, List.map_cons, List.map_nil]
    rw [← dot_sc hs hv hf n (by omega)]; rfl
  · simp only [colL, addRow, List.zipWith_cons_cons, List.zipWith_nil_left]
    rw [← dot_add hs hq hv hf (by omega) n (by omega)]; rfl
def unitN (n i : Nat) : List Nat := (List.replicate n 0).set i 1
def identN (n : Nat) : List (List Nat) := (List.range n).map (unitN n)
theorem unitN_get (n i j : Nat) (hi : i < n) : (unitN n i).getD j 0 = if j = i then 1 else 0 := by
  unfold unitN
  rw [getD_set _ _ _ _ _ (by simp; exact hi)]
  split
  · rfl
  · simp [List.getD_eq_getElem?_getD, List.getElem?_replicate]
    split <;> rfl
theorem identN_get (n i : Nat) (h : i < n) : (identN n).getD i [] = unitN n i := by simp [identN, h]
theorem sh_ident (n : Nat) : Sh (identN n) n n := by
  refine ⟨by simp [identN], fun i hi => ?_, fun i hi j => ?_⟩
  · rw [identN_get n i hi]; simp [unitN]
  · rw [identN_get n i hi, unitN_get n i j hi]; split <;> omega
theorem ci_unit (n i : Nat) : ci (unitN n i) = unitRow n i := by simp [ci, unitN, unitRow, List.map_set]
theorem ciM_ident (n : Nat) : ciM (identN n) = identM n := by
  unfold ciM identN identM
  rw [List.map_map]
  exact List.map_congr_left (fun i _ => ci_unit n i)
theorem dot_unit {v : List Nat} {n i : Nat} (hv : AllLt v) (hi : i < n) : ∀ k, dotTo (unitN n i) v k = if i < k then v.getD i 0 else 0 := by
  intro k
  induction k with
  | zero => simp [dotTo]
  | succ k ih =>
    rw [dotTo, ih, unitN_get n i k hi]
    by_cases e : k = i
    · subst e
      rw [if_neg (by omega), if_pos rfl, if_pos (by omega), one_mul _ (hv k), Nat.zero_xor]
    · rw [if_neg e, zero_mul (hv k), Nat.xor_zero]
      by_cases h : i < k
      · rw [if_pos h, if_pos (by omega)]
      · rw [if_neg h, if_neg (by omega)]
def colN (v : List Nat) : List (List Nat) := v.map fun x => [x]
theorem col_ident {v : List Nat} {n : Nat} (hv : AllLt v) (hl : v.length = n) : colN v = (identN n).map (colL v n) := by
  apply ext_getD []
  · simp [colN, identN, hl]
  · intro i hi
    have hi' : i < n := by simpa [colN, hl] using hi
    rw [map_get _ _ _ _ (by simp [identN]; exact hi'), identN_get n i hi']
    unfold colL
    rw [dot_unit hv hi' n, if_pos hi']
    simp [colN, List.getD_eq_getElem?_getD, hl, hi']
end Gf
end Go.Proofs.YtogopakmebiomaaDoor
